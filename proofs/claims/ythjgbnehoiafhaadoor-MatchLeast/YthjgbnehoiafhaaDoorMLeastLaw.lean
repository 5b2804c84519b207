/- MatchLeast answers true. -/
import Derived.Test.YthjgbnehoiafhaaDoorMRFree
import Derived.Test.YthjgbnehoiafhaaDoorMWakes
namespace Go.Proofs.YthjgbnehoiafhaaDoor.M
open Go.RowKit Go.Shelf
/-- few of the rows that are handed in. -/
def FewP (w : World) (M : List Nat) (V : World) (e : Ending) (w' : World) : Prop := ∃ oa cap, e = .returned (.slice oa M.length cap) ∧ Hid (RowU w' (.slice oa M.length cap) M) ∧ Hid (Below w.heap.size w w') ∧ Hid (Below V.heap.size V w')
/-- Both lists are the same. -/
theorem lists_eq {M l : List Nat} {pl : Nat → Nat} (hw : ∀ z ∈ M, z < 18446744073709551616) (h1 : Lex M.length (fn M) pl M.length) (h2 : LexL M l) : plL pl M.length = ints l := by
  obtain ⟨hl, hx⟩ := h2.lex hw
  apply List.ext_getElem?
  intro i
  rcases Nat.lt_or_ge i M.length with h | h
  · have e1 : (plL pl M.length)[i]? = some (pl i : Int) := by simp [plL, h]
    have e2 : (ints l)[i]? = some ((fn l i : Nat) : Int) := by
      simp only [ints, List.getElem?_map]
      rw [fn_get (by omega)]; rfl
    rw [e1, e2, h1.one hx i h]
  · rw [List.getElem?_eq_none (by rw [plL_len]; exact h), List.getElem?_eq_none (by rw [ints_len]; omega)]
/-- What both Leasts answer. -/
def TwoL (ok is : Bool) (lv mv : Value) (W : World) : Prop := ok = is ∧ ∃ l, l.length ≤ 1000 ∧ I.RowI W lv l ∧ I.RowI W mv l
theorem rowNil (W : World) : I.RowI W (.slice none 0 0) [] := ⟨none, 0, rfl, ⟨Nat.le_refl _, fun _ => rfl⟩, fun i z h => by cases h⟩
set_option maxRecDepth 100000 in
set_option maxHeartbeats 4000000 in
theorem matchLeast_walk (L : List Nat) (v : Value) (i : Int) (w : World) (hr : RowU w v L) (hw : ∀ z ∈ L, z < 18446744073709551616) (_ : (Lit.int .i64 i).wf = true) (ht : Tab w) :
    Calls Tryd.prog 3 #[v, .int .i64 i] w fun e w' => e = .returned (.bool true) ∧ Below w.heap.size w w' := by
  obtain ⟨M, hMe⟩ : ∃ M, M = L.take 20 := ⟨_, rfl⟩
  have hlen : M.length ≤ 20 := by rw [hMe, List.length_take]; omega
  have hmem : Hid (∀ z ∈ M, z < 18446744073709551616) := fun z hz => hw z (List.mem_of_mem_take (by rw [← hMe]; exact hz))
  have KF : Hid (∀ V, Below w.heap.size w V → Calls Tryd.prog 10 #[v] V (FewP w M V)) := fun V hV => by
    refine (fewU L v V (hr.below hV (Nat.le_refl _))).mono ?_
    rintro e w' ⟨v', rfl, ho, hb⟩
    rw [← hMe] at ho
    have hr := RowU.of_owns ho
    obtain ⟨oa, cap, rfl⟩ := hr.shape
    exact ⟨oa, cap, rfl, hr, hV.trans (hb.mono hV.size), hb⟩
  have hT : Hid (∀ V, Below w.heap.size w V → Tab V) := fun V hV => ht.over hV
  have hO : ∀ {V W : World}, Below w.heap.size w V → Below V.heap.size V W → Below w.heap.size w W := fun h k => h.trans (k.mono h.size)
  clear hr hw ht hMe
  go_enter Tryd.func3, Tryd.ntmps3
  go_wp2_with fail
  refine (KF.out w (Below.refl _ _)).mono ?_
  rintro e w1 ⟨oa1, cap1, rfl, hr1, hb1, _⟩
  go_wp2_with fail
  refine (leastF (hr1.out.rwa (hT.out _ hb1.out) hmem.out)).mono ?_
  intro e w2 hL1
  have hL1' := hide' hL1
  have hb2 : Hid (Below w.heap.size w w2) := hO hb1.out hL1.1.out
  obtain ⟨ok, lv, he, hok, hl⟩ : ∃ (ok : Bool) (lv : Value), e = .returned (.tuple #[lv, .bool ok]) ∧ Hid (ok = true ↔ M.length ≤ 12 ∧ Has M) ∧ Hid ((ok = true → ∃ pl, Lex M.length (fn M) pl M.length ∧ I.RowI w2 lv (plL pl M.length)) ∧ (ok = false → lv = .slice none 0 0)) := by
    rcases hL1.2 with ⟨hn, pl, v', he, hx, ho⟩ | ⟨he, hno⟩
    · exact ⟨true, v', he, ⟨fun _ => ⟨hn, pl, hx.out.full⟩, fun _ => rfl⟩, fun _ => ⟨pl, hx.out, I.RowI.of_owns ho.out⟩, fun h => by cases h⟩
    · exact ⟨false, _, he, ⟨fun h => (by cases h), fun ⟨h1, h2⟩ => absurd (full_iff.1 h2) (hno.out h1)⟩, fun h => (by cases h), fun _ => rfl⟩
  subst he
  clear hL1 hL1' hr1 hb1
  go_wp2_with fail
  refine (KF.out w2 hb2.out).mono ?_
  rintro e w3 ⟨oa3, cap3, rfl, hr3, hb3, hb3'⟩
  go_wp2_with fail
  refine (rLeastF M _ w3 hr3.out hmem.out (hT.out _ hb3.out)).mono ?_
  intro e w4 hL2
  have hb4 : Hid (Below w.heap.size w w4) := hO hb3.out hL2.1.out
  obtain ⟨is, mv, he, his, hm⟩ : ∃ (is : Bool) (mv : Value), e = .returned (.tuple #[mv, .bool is]) ∧ Hid (is = true ↔ M.length ≤ 12 ∧ Has M) ∧ Hid ((is = true → ∃ l, LexL M l ∧ I.RowI w4 mv (ints l)) ∧ (is = false → mv = .slice none 0 0)) := by
    rcases hL2.2 with ⟨hn, l, v', he, hx, ho⟩ | ⟨he, hno⟩
    · exact ⟨true, v', he, ⟨fun _ => ⟨hn, fn l, (hx.out.lex hmem.out).2.full⟩, fun _ => rfl⟩, fun _ => ⟨l, hx.out, I.RowI.of_owns ho.out⟩, fun h => by cases h⟩
    · exact ⟨false, _, he, ⟨fun h => (by cases h), fun ⟨h1, h2⟩ => absurd h2 (hno.out h1)⟩, fun h => (by cases h), fun _ => rfl⟩
  subst he
  have hb24 : Below w2.heap.size w2 w4 := hb3'.out.trans (hL2.1.out.mono hb3'.out.size)
  obtain rfl : ok = is := Bool.eq_iff_iff.2 (hok.out.trans his.out.symm)
  have hli : Hid (∃ l, l.length ≤ 1000 ∧ I.RowI w4 lv l ∧ I.RowI w4 mv l) := by
    cases ok with
    | true =>
      obtain ⟨pl, h1, h2⟩ := hl.out.1 rfl
      obtain ⟨l, h3, h4⟩ := hm.out.1 rfl
      refine ⟨plL pl M.length, by rw [plL_len]; omega, h2.below hb24 (Nat.le_refl _), ?_⟩
      rw [lists_eq hmem.out h1 h3]; exact h4
    | false =>
      rw [hl.out.2 rfl, hm.out.2 rfl]
      exact ⟨[], by simp, rowNil _, rowNil _⟩
  obtain ⟨ll, hll, hl1, hl2⟩ := hli.out
  have KI : Hid (Calls Tryd.prog 12 #[lv, mv] w4 fun e w' => e = .returned (.bool true) ∧ Below w4.heap.size w4 w') := (I.keepInts ll ll lv mv w4 hl1 hl2 (by omega) (by omega)).mono fun _ _ ⟨h1, h2⟩ => ⟨by rw [h1, decide_eq_true rfl], h2⟩
  have hoo : (ok == ok) = true := by cases ok <;> rfl
  clear hL2 hr3 hb3 hb3' hli hl1 hl2 hl hm hok his hb24 hb2
  go_wp2_with fail
  refine KI.out.mono ?_
  rintro e w5 ⟨rfl, hb5⟩
  have hB5 : Hid (Below w.heap.size w w5) := hO hb4.out hb5
  clear KI hb5 hb4
  go_wp2_with fail
  refine (KF.out w5 hB5.out).mono ?_
  rintro e w6 ⟨oa6, cap6, rfl, hr6, hb6, _⟩
  go_wp2_with fail
  refine (sizeF (hr6.out.rwa (hT.out _ hb6.out) hmem.out)).mono ?_
  rintro e w7 ⟨rfl, hb7⟩
  have hB7 : Hid (Below w.heap.size w w7) := hO hb6.out hb7
  clear hb7 hb6 hr6 hB5
  go_wp2_with fail
  refine (KF.out w7 hB7.out).mono ?_
  rintro e w8 ⟨oa8, cap8, rfl, hr8, hb8, _⟩
  go_wp2_with fail
  refine (rSizeF (hr8.out.rwa (hT.out _ hb8.out) hmem.out)).mono ?_
  rintro e w9 ⟨rfl, hb9⟩
  have hB9 : Hid (Below w.heap.size w w9) := hO hb8.out hb9
  clear hb9 hb8 hr8 hB7
  generalize sizeN (fn M) M.length = zz at *
  go_wp2_with fail
  refine (KF.out w9 hB9.out).mono ?_
  rintro e w10 ⟨oa10, cap10, rfl, hr10, hb10, _⟩
  go_wp2_with fail
  refine (freeF (hr10.out.rwa (hT.out _ hb10.out) hmem.out) i).mono ?_
  rintro e w11 ⟨F, rfl, hF, hb11⟩
  have hB11 : Hid (Below w.heap.size w w11) := hO hb10.out hb11
  clear hb11 hb10 hr10 hB9
  go_wp2_with fail
  refine (KF.out w11 hB11.out).mono ?_
  rintro e w12 ⟨oa12, cap12, rfl, hr12, hb12, _⟩
  go_wp2_with fail
  refine (rFreeF hr12.out hmem.out (hT.out _ hb12.out) i).mono ?_
  rintro e w13 ⟨G, rfl, hG, hb13⟩
  obtain rfl : F = G := FreS.one hF.out.2 hG.out.2
  have hB13 : Hid (Below w.heap.size w w13) := hO hb12.out hb13.out
  clear hb13 hb12 hr12 hB11 hF hG
  go_wp2_with fail
  refine (wakesM w13 (hT.out _ hB13.out)).mono ?_
  rintro e w14 ⟨rfl, hb14⟩
  have hend : Hid (Below w.heap.size w w14) := hO hB13.out hb14
  clear hb14 hB13
  go_wp2
  go_ret
  exact ⟨rfl, hend.out⟩
end Go.Proofs.YthjgbnehoiafhaaDoor.M

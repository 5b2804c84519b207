/- LexShow: it returns true. -/
import Derived.Test.YtghodeggobgclaaLRShow
import Derived.Test.YtghodeggobgclaaLLines
import Derived.Test.YtghodeggobgclaaLSame
import Derived.Test.YtghodeggobgclaaLWake
namespace Go.Proofs.Ytghodeggobgclaa
open Go.RowKit Go.Shelf
theorem LnR.shape {B : Nat} {w : World} {v : Value} {M : List (List Tok)} (h : LnR B w v M) : ∃ oa cap, v = .slice oa M.length cap := by
  obtain ⟨P, e, hP⟩ := h
  obtain ⟨oa, cap, e2⟩ := own_shapeT hP.row
  refine ⟨oa, cap, ?_⟩
  rw [e2, ← e, List.length_map]
theorem LnR.at {B : Nat} {w : World} {oa : Option Addr} {n cap : Nat} {M : List (List Tok)} (h : LnR B w (.slice oa n cap) M) (i : Nat) (l : List Tok) (hl : M[i]? = some l) : ∃ g ob cb, oa = some ⟨g, 0, none⟩ ∧ w.cell? ⟨g, i, none⟩ = some (.slice ob l.length cb) ∧ TokAt w ob l := by
  obtain ⟨P, e, hP⟩ := h
  rw [← e, List.getElem?_map] at hl
  cases hp : P[i]? with
  | none => rw [hp] at hl; cases hl
  | some p =>
    rw [hp] at hl
    cases hl
    have hi := (List.getElem?_eq_some_iff.1 hp).1
    have hin := hP.inner p (List.mem_of_getElem? hp)
    obtain ⟨ob, cb, e2⟩ := own_shapeT hin
    have hT : TokAt w ob p.1 := by
      rw [e2] at hin
      exact TokAt.own hin
    rcases hP.row.2 with ⟨e3, h0⟩ | ⟨g, cap', cur, e3, _⟩
    · omega
    · cases e3
      have hc := hP.row.cellAt i (by omega)
      rw [List.getElem?_map, hp] at hc
      refine ⟨g, ob, cb, rfl, ?_, hT⟩
      rw [hc, ← e2]; rfl
theorem showV_tup (L : List Tok) : ∃ S z, showV L = .tuple #[.string S, .int .i64 z] := by
  unfold showV
  split
  · exact ⟨_, _, rfl⟩
  · exact ⟨_, _, rfl⟩
set_option maxRecDepth 100000 in
set_option maxHeartbeats 8000000 in
theorem lexShow_walk (L0 : List Tok) (v : Value) (w : World) (h : RowTk w v L0) (htx : ∀ t ∈ L0, t.text.length ≤ 9223372036854775807) :
    Calls Try.prog 3 #[v] w fun e w' => e = .returned (.bool true) ∧ Below w.heap.size w w' := by
  have K1 := hide' (fewF L0 v w h)
  have K9 := hide' wakesF
  obtain ⟨oa, cap, rfl, _, _⟩ := id h
  have hlen : (L0.take 3000).length ≤ 3000 := by rw [List.length_take]; omega
  have htx' : ∀ t ∈ L0.take 3000, t.text.length ≤ 9223372036854775807 := fun t ht => htx t (List.mem_of_mem_take ht)
  have htk : (L0.take 3000).take 3000 = L0.take 3000 := by rw [List.take_take, Nat.min_self]
  clear h htx
  generalize L0.length = q0 at *
  generalize L0.take 3000 = L at *
  go_enter Try.func3, Try.ntmps3
  go_wp2_with fail
  refine K1.out.mono ?_
  rintro e w1 ⟨v1, rfl, hr1, hb1⟩
  have hB1 := hide' hb1
  obtain ⟨o1, c1, rfl⟩ := own_shapeT hr1
  have hrow := hide' hr1
  have HT := hide' (TokAt.own hr1)
  clear K1 hb1 hr1
  have KF : Hid (∀ V, Below w1.heap.size w1 V → Calls Try.prog 6 #[.slice o1 L.length c1] V fun e w' => ∃ o2 c2, e = .returned (.slice o2 L.length c2) ∧ Hid (TokAt w' o2 L ∧ L.length ≤ c2 ∧ c2 ≤ 9223372036854775807) ∧ Below V.heap.size V w') := fun V hV => by
    have h1 := fewF L (.slice o1 L.length c1) V (RowTk.of_own (own_belowL hrow.out hV (Nat.le_refl _)))
    rw [htk] at h1
    refine h1.mono ?_
    rintro e w' ⟨v', rfl, h2, h3⟩
    obtain ⟨_, cap2, e2, hc2, _⟩ := RowTk.of_own h2
    obtain ⟨o2, c2, rfl⟩ := own_shapeT h2
    cases e2
    exact ⟨_, _, rfl, ⟨TokAt.own h2, hc2.1, hc2.2.2⟩, h3⟩
  have KS : Hid (∀ V o2 c2, TokAt V o2 L → L.length ≤ c2 → c2 ≤ 9223372036854775807 → Calls Try.prog 7 #[.slice o2 L.length c2] V fun e w' => e = .returned (showV L) ∧ Below V.heap.size V w') := fun V o2 c2 h1 h2 h3 => showF o2 c2 L V h1 (by omega) h2 h3 htx'
  have KR : Hid (∀ V, Below w1.heap.size w1 V → Calls Try.prog 8 #[.slice o1 L.length c1] V fun e w' => e = .returned (showV L) ∧ Below V.heap.size V w') := fun V hV => rShow o1 c1 L V (HT.out.keep hV) (by omega) htx'
  have KL : Hid (∀ V o2 c2, TokAt V o2 L → Calls Try.prog 9 #[.slice o2 L.length c2] V fun e w' => ∃ v, e = .returned v ∧ LnR V.heap.size w' v (linT L) ∧ Hid (Below V.heap.size V w')) := fun V o2 c2 h => linesF o2 c2 L V h (by omega)
  have KM : Hid (∀ V, Below w1.heap.size w1 V → Calls Try.prog 10 #[.slice o1 L.length c1] V fun e w' => ∃ v, e = .returned v ∧ LnR V.heap.size w' v (linT L) ∧ Hid (Below V.heap.size V w')) := fun V hV => rLines o1 c1 L V (HT.out.keep hV) (by omega)
  obtain ⟨S, z, hv⟩ := showV_tup L
  rw [hv] at KS KR
  have hll := linT_len L
  have hlq := hll.1
  have hin : Hid (∀ l ∈ linT L, l.length ≤ 3000) := fun l hl => by have := hll.2 l hl; omega
  clear hll htk htx' hv hrow HT
  generalize linT L = M at *
  generalize L.length = q at *
  go_wp2_with fail
  refine (KF.out _ (Below.refl _ _)).mono ?_
  rintro e w2 ⟨o2, c2, rfl, h2, hb2⟩
  have hB2 := hide' hb2
  clear hb2
  go_wp2_with fail
  refine (KS.out _ _ _ h2.out.1 h2.out.2.1 h2.out.2.2).mono ?_
  rintro e w3 ⟨rfl, hb3⟩
  have hB3 := hide' (hB2.out.trans (hb3.mono hB2.out.size))
  clear hb3 h2 hB2 KS
  go_wp2_with fail
  refine (KR.out _ hB3.out).mono ?_
  rintro e w4 ⟨rfl, hb4⟩
  have hB4 := hide' (hB3.out.trans (hb4.mono hB3.out.size))
  clear hb4 hB3 KR
  go_wp2_with fail
  refine (KF.out _ hB4.out).mono ?_
  rintro e w5 ⟨o5, c5, rfl, h5, hb5⟩
  have hB5 := hide' (hB4.out.trans (hb5.mono hB4.out.size))
  clear hb5 hB4 KF
  go_wp2_with fail
  refine (KL.out _ _ _ h5.out.1).mono ?_
  rintro e w6 ⟨va, rfl, ha, hb6⟩
  have hB6 := hide' (hB5.out.trans (hb6.out.mono hB5.out.size))
  obtain ⟨oa6, ca6, rfl⟩ := ha.shape
  have hA := hide' (fun i l hl => ha.at i l hl)
  clear hb6 hB5 KL ha h5
  go_wp2_with fail
  refine (KM.out _ hB6.out).mono ?_
  rintro e w7 ⟨vb, rfl, hb, hb7⟩
  have hB7 := hide' (hB6.out.trans (hb7.out.mono hB6.out.size))
  obtain ⟨ob7, cb7, rfl⟩ := hb.shape
  have hA7 : Hid (∀ (i : Nat) (l : List Tok), M[i]? = some l → ∃ g ob cb, oa6 = some ⟨g, 0, none⟩ ∧ w7.cell? ⟨g, i, none⟩ = some (.slice ob l.length cb) ∧ TokAt w7 ob l) := fun i l hl => by
    obtain ⟨g, ob, cb, e1, e2, e3⟩ := hA.out i l hl
    exact ⟨g, ob, cb, e1, (hb7.out.cell (p := ⟨g, i, none⟩) (cell_lt e2)).trans e2, e3.keep hb7.out⟩
  have hC7 := hide' (fun i l hl => hb.at i l hl)
  clear hb7 hB6 KM hb hA
  have hss : (S.toList != S.toList) = false := by simp
  have hzz : (z != z) = false := by simp
  generalize hml : M.length = mm at *
  go_wp2
  go_loopw [9] (fun k wr => ∃ c : Nat, c ≤ mm ∧ k = .int .i64 c ∧ Hid (Below w7.heap.size w7 wr)) (fun k _ => ((mm : Int) - intOf k).toNat)
  case atStart => exact ⟨0, Nat.zero_le _, rfl, Below.refl _ _⟩
  case round =>
    obtain ⟨c, hc, rfl, hB⟩ := hrel
    by_cases hlt : c < mm
    · obtain ⟨l, hl⟩ : ∃ l, M[c]? = some l := ⟨_, List.getElem?_eq_getElem (by omega)⟩
      obtain ⟨ga, oa', ca', rfl, a1, a2⟩ := hA7.out c l hl
      obtain ⟨gb, ob', cb', rfl, b1, b2⟩ := hC7.out c l hl
      have x1 := (hB.out.cell (p := ⟨ga, c, none⟩) (cell_lt a1)).trans a1
      have x2 := (hB.out.cell (p := ⟨gb, c, none⟩) (cell_lt b1)).trans b1
      have hll := hin.out l (List.mem_of_getElem? hl)
      have hBd := hide' hB.out.drew
      have KQ := hide' (sameF oa' ob' ca' cb' l wr.drew (a2.keep hBd.out) (b2.keep hBd.out) (by unfold maxLen; omega))
      clear hA7 hC7 hl a1 a2 b1 b2 hin
      generalize l.length = ql at *
      go_wp2_with fail
      go_region_with (go_at_call 11; refine KQ.out.mono ?_; rintro e w8 ⟨rfl, hb8⟩)
      all_goals (go_wp2; exact ⟨⟨c + 1, by omega, by go_num, hBd.out.trans (hb8.mono hBd.out.size)⟩, by simp [intOf]; omega⟩)
    · obtain rfl : c = mm := by omega
      clear hA7 hC7 hin
      go_wp2_with (go_at_call 12; refine (K9.out _).mono ?_; rintro e w8 ⟨rfl, hb8⟩)
      go_ret
      have hw7 := hB1.out.trans (hB7.out.mono hB1.out.size)
      have hwr := hw7.trans (hB.out.mono hw7.size)
      exact ⟨rfl, hwr.trans (hb8.mono hwr.size)⟩
end Go.Proofs.Ytghodeggobgclaa

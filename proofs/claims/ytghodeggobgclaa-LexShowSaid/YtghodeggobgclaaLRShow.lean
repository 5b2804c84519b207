/- The document's Show: what it answers. -/
import Derived.Test.YtghodeggobgclaaLFits
import Derived.Test.YtghodeggobgclaaLShow
import Derived.Laws.Concat
import Derived.BigRegion
import Derived.Lib.SlBytesRow
namespace Go.Proofs.Ytghodeggobgclaa
open Go.RowKit Go.Shelf
theorem bs_app (x y : List UInt8) : bs x ++ bs y = bs (x ++ y) := ByteArray.mk_append_mk x y
theorem bs32 : (ByteArray.mk #[32]) = bs [32] := rfl
theorem bs10 : (ByteArray.mk #[10]) = bs [10] := rfl
theorem bytes_oneL {W : World} {g : Nat} {z : Int} {b : UInt8} (hz : z = (b.toNat : Int)) (h : W.cell? ⟨g, 0, none⟩ = some (.int .u8 z)) : Lib.Bytes W g 0 ⟨#[b]⟩ := by
  intro i hi
  have : i = 0 := by simp [ByteArray.size] at hi; omega
  subst this
  rw [Nat.add_zero, h, hz]
  rfl
theorem conv_oneL {z : Int} {b : UInt8} (hz : z = (b.toNat : Int)) (W : World) (g : Nat) (h : W.cell? ⟨g, 0, none⟩ = some (.int .u8 z)) :
    (convert 73 9 (.slice (some ⟨g, 0, none⟩) 1 1)).run Try.prog W = .ok (.string ⟨#[b]⟩) W :=
  Lib.run_convert_whole (P := Try.prog) W 73 5 9 Try.underlying73 Try.underlying5 Try.underlying9 g 0 ⟨#[b]⟩ (bytes_oneL hz h) 1
theorem conv10 (W : World) : (convert 73 9 (.slice (some ⟨W.heap.size, 0, none⟩) 1 1)).run Try.prog (W.alloc (.cells #[.int .u8 10] 5)) = .ok (.string ⟨#[10]⟩) (W.alloc (.cells #[.int .u8 10] 5)) :=
  conv_oneL (z := 10) (b := 10) (by decide) _ _ (by simp)
theorem endd_take {L : List Tok} {c : Nat} {t : Tok} (ht : L[c]? = some t) : endd (L.take (c + 1)) = decide (t.kind = 4) := by
  have hlt := (List.getElem?_eq_some_iff.1 ht).1
  refine endd_last (m := c) (by rw [List.length_take]; omega) ?_
  rw [List.getElem?_take, if_pos (by omega), ht]
theorem shN_cap {L : List Tok} : ∀ n, n ≤ L.length → asN L n = true → (shN L n).length ≤ 25 * n
  | 0, _, _ => by simp [shN]
  | n + 1, hn, h => by
    obtain ⟨t, ht⟩ : ∃ t, L[n]? = some t := ⟨_, List.getElem?_eq_getElem (by omega)⟩
    rw [asN_step ht, Bool.and_eq_true, Bool.and_eq_true] at h
    have ih := shN_cap n (by omega) h.1
    have hw := whole_len h.2.2
    rw [shN_step ht, List.length_append]
    have : (shOne (L.take n) t).length ≤ 25 := by
      unfold shOne
      rw [List.length_append]
      split
      · simp; omega
      · split
        · simp; omega
        · simp; omega
    omega
set_option maxRecDepth 100000 in
set_option maxHeartbeats 8000000 in
theorem rShow (oa : Option Addr) (cap : Nat) (L : List Tok) (w : World) (H : TokAt w oa L) (hm : L.length ≤ 1000000) (htx : ∀ t ∈ L, t.text.length ≤ 9223372036854775807) :
    Calls Try.prog 8 #[.slice oa L.length cap] w fun e w' => e = .returned (showV L) ∧ Below w.heap.size w w' := by
  have H' := hide' H
  have htx' := hide' htx
  have hbad : Hid (∀ n, n ≤ L.length → asN L n = false → showV L = .tuple #[.string ⟨#[]⟩, .int .i64 3]) := fun n hn h => by unfold showV; rw [asT_false h hn]; rfl
  have hend : Hid (asN L L.length = true → endd L = false → showV L = .tuple #[.string ⟨#[]⟩, .int .i64 3]) := fun h1 h2 => by unfold showV asT; rw [h1, h2]; rfl
  have hgood : Hid (asN L L.length = true → endd L = true → showV L = .tuple #[.string (bs (shN L L.length)), .int .i64 0]) := fun h1 h2 => by unfold showV asT; rw [h1, h2]; rfl
  clear H htx
  go_enter Try.func8, Try.ntmps8
  go_wp2
  go_loopw [4, 5, 6] (fun s f k wr => ∃ c : Nat, c ≤ L.length ∧ k = .int .i64 c ∧ s = .string (bs (shN L c)) ∧ f = .bool (endd (L.take c)) ∧ Hid (asN L c = true) ∧ Hid (Below w.heap.size w wr)) (fun _ _ k _ => ((L.length : Int) - intOf k).toNat)
  case atStart => exact ⟨0, Nat.zero_le _, rfl, rfl, rfl, rfl, Below.refl _ _⟩
  case round =>
    obtain ⟨c, hc, rfl, rfl, rfl, hs, hB⟩ := hrel
    by_cases hlt : c < L.length
    · obtain ⟨t, ht⟩ : ∃ t, L[c]? = some t := ⟨_, List.getElem?_eq_getElem hlt⟩
      obtain ⟨g, rfl, k0, k1, k2, k3, k4⟩ := H'.out c t ht
      have K : ∀ W, Below w.heap.size w W → ∀ j v, w.cell? ⟨g, j, none⟩ = some v → W.cell? ⟨g, j, none⟩ = some v := fun W hW j v hv => (hW.cell (p := ⟨g, j, none⟩) (cell_lt hv)).trans hv
      have c0 := K _ hB.out _ _ k0
      have c1 := K _ hB.out _ _ k1
      have c2 := K _ hB.out _ _ k2
      have c3 := K _ hB.out _ _ k3
      have c4 := K _ hB.out _ _ k4
      have KC : Hid (∀ W, Below wr.heap.size wr W → W.cell? ⟨g, c * 5, none⟩ = some (.int .i64 t.kind) ∧ W.cell? ⟨g, c * 5 + 1, none⟩ = some (.string (bs t.text))) := fun W hW => by
        have h := hB.out.trans (hW.mono hB.out.size)
        exact ⟨K W h _ _ k0, K W h _ _ k1⟩
      have KF : Hid (Calls Try.prog 33 #[tv t] wr fun e w' => e = .returned (.bool (fitsT t)) ∧ Below wr.heap.size wr w') := rFits t wr (htx'.out t (List.mem_of_getElem? ht))
      rw [fits_whole] at KF
      unfold tv at KF
      have hst := asN_step ht
      rw [hs.out, Bool.true_and] at hst
      have hbad' := hide' (hbad.out (c + 1) (by omega))
      have hsz0 : (bs (shN L c)).size ≤ 100000000 := by
        rw [bs_size]
        have := shN_cap c hc hs.out
        omega
      have hendt := hide' (endd_take ht)
      have hstep := hide' (shN_step ht)
      have hwl := fun h => whole_len (t := t) h
      clear hbad hend hgood H' htx' k0 k1 k2 k3 k4 K ht
      cases hw : wholeT t with
      | false =>
        rw [hw] at KF hst
        have hR := hide' (hbad'.out (by rw [hst, Bool.and_false]))
        clear hbad' hst hendt hstep hwl hw KC
        generalize bs t.text = sx at *
        generalize bs (shN L c) = s0 at *
        generalize endd (L.take c) = ee at *
        go_wp2_with (go_at_call 33; refine KF.out.mono ?_; rintro e w1 ⟨rfl, hb1⟩)
        go_ret2
        exact ⟨by rw [hR.out]; rfl, hB.out.trans (hb1.mono hB.out.size)⟩
      | true =>
        rw [hw] at KF hst
        have hwl' := hwl hw
        by_cases h4 : t.kind = 4
        · have q4 : (t.kind == 4) = true := by simpa using h4
          cases hee : endd (L.take c) with
          | true =>
            rw [hee, decide_eq_true h4] at hst
            have hR := hide' (hbad'.out hst)
            clear hbad' hst hendt hstep hwl hw hwl' h4 hee
            generalize bs t.text = sx at *
            generalize bs (shN L c) = s0 at *
            generalize t.kind = kd at *
            go_wp2_with (go_at_call 33; refine KF.out.mono ?_; rintro e w1 ⟨rfl, hb1⟩; obtain ⟨d0, d1⟩ := KC.out _ hb1)
            go_ret2
            exact ⟨by rw [hR.out]; rfl, hB.out.trans (hb1.mono hB.out.size)⟩
          | false =>
            rw [hee, decide_eq_true h4] at hst
            have htx0 : t.text = [] := by
              unfold wholeT at hw
              simp [h4] at hw
              exact hw.1
            have hS : Hid (bs (shN L c) ++ ByteArray.mk #[10] = bs (shN L (c + 1))) := by
              show _ = _
              rw [bs10, bs_app, hstep.out]
              unfold shOne
              rw [if_pos h4, htx0]; rfl
            have hN : Hid (asN L (c + 1) = true) := hst
            rw [decide_eq_true h4] at hendt
            clear hbad' hst hstep hwl hw hwl' h4 hee htx0
            generalize bs t.text = sx at *
            generalize bs (shN L c) = s0 at *
            generalize t.kind = kd at *
            go_wp2_with (go_at_call 33; refine KF.out.mono ?_; rintro e w1 ⟨rfl, hb1⟩; obtain ⟨d0, d1⟩ := KC.out _ hb1; have hcv := conv10 w1)
            exact ⟨⟨c + 1, by omega, by go_num, by rw [hS.out], by rw [hendt.out], hN, hB.out.trans ((hb1.alloc hb1.size _).mono hB.out.size)⟩, by simp [intOf]; omega⟩
        · have q4 : (t.kind == 4) = false := by simpa using h4
          rw [decide_eq_false h4] at hst hendt
          have hN : Hid (asN L (c + 1) = true) := by rw [hst]; rfl
          have m44 : ((bs t.text).toList == [44]) = decide (t.text = [44]) := by have := bs_beq t.text [44]; rwa [show (bs [44]).toList = [44] by rw [ByteArray.toList_eq, bs_list]] at this
          have m58 : ((bs t.text).toList == [58]) = decide (t.text = [58]) := by have := bs_beq t.text [58]; rwa [show (bs [58]).toList = [58] by rw [ByteArray.toList_eq, bs_list]] at this
          have hsz1 : (bs t.text).size ≤ 24 := by rw [bs_size]; exact hwl'
          cases hee : endd (L.take c) with
          | true =>
            have hS : Hid (bs (shN L c) ++ bs t.text = bs (shN L (c + 1))) := by
              show _ = _
              rw [bs_app, hstep.out]
              unfold shOne
              rw [if_neg h4, hee]; rfl
            clear hbad' hst hstep hwl hw hwl' h4 hee m44 m58
            generalize bs t.text = sx at *
            generalize bs (shN L c) = s0 at *
            generalize t.kind = kd at *
            go_wp2_with (go_at_call 33; refine KF.out.mono ?_; rintro e w1 ⟨rfl, hb1⟩; obtain ⟨d0, d1⟩ := KC.out _ hb1)
            exact ⟨⟨c + 1, by omega, by go_num, by rw [hS.out], by rw [hendt.out], hN, hB.out.trans (hb1.mono hB.out.size)⟩, by simp [intOf]; omega⟩
          | false =>
            by_cases h44 : t.text = [44]
            · rw [decide_eq_true h44] at m44
              have n44 : ((bs t.text).toList != [44]) = false := by rw [bne, m44]; rfl
              have hS : Hid (bs (shN L c) ++ bs t.text = bs (shN L (c + 1))) := by
                show _ = _
                rw [bs_app, hstep.out]
                unfold shOne
                rw [if_neg h4, if_neg (by simp [h44])]; rfl
              clear hbad' hst hstep hwl hw hwl' h4 hee m58 h44
              generalize bs t.text = sx at *
              generalize bs (shN L c) = s0 at *
              generalize t.kind = kd at *
              go_wp2_with (go_at_call 33; refine KF.out.mono ?_; rintro e w1 ⟨rfl, hb1⟩; obtain ⟨d0, d1⟩ := KC.out _ hb1)
              exact ⟨⟨c + 1, by omega, by go_num, by rw [hS.out], by rw [hendt.out], hN, hB.out.trans (hb1.mono hB.out.size)⟩, by simp [intOf]; omega⟩
            · rw [decide_eq_false h44] at m44
              have n44 : ((bs t.text).toList != [44]) = true := by rw [bne, m44]; rfl
              by_cases h58 : t.text = [58]
              · rw [decide_eq_true h58] at m58
                have n58 : ((bs t.text).toList != [58]) = false := by rw [bne, m58]; rfl
                have hS : Hid (bs (shN L c) ++ bs t.text = bs (shN L (c + 1))) := by
                  show _ = _
                  rw [bs_app, hstep.out]
                  unfold shOne
                  rw [if_neg h4, if_neg (by simp [h58])]; rfl
                clear hbad' hst hstep hwl hw hwl' h4 hee h44 h58
                generalize bs t.text = sx at *
                generalize bs (shN L c) = s0 at *
                generalize t.kind = kd at *
                go_wp2_with (go_at_call 33; refine KF.out.mono ?_; rintro e w1 ⟨rfl, hb1⟩; obtain ⟨d0, d1⟩ := KC.out _ hb1)
                exact ⟨⟨c + 1, by omega, by go_num, by rw [hS.out], by rw [hendt.out], hN, hB.out.trans (hb1.mono hB.out.size)⟩, by simp [intOf]; omega⟩
              · rw [decide_eq_false h58] at m58
                have n58 : ((bs t.text).toList != [58]) = true := by rw [bne, m58]; rfl
                have hS : Hid (bs (shN L c) ++ ByteArray.mk #[32] ++ bs t.text = bs (shN L (c + 1))) := by
                  show _ = _
                  rw [bs32, bs_app, bs_app, hstep.out]
                  unfold shOne
                  rw [if_neg h4, if_pos (by simp [h44, h58, hee]), List.append_assoc]
                clear hbad' hst hstep hwl hw hwl' h4 hee h44 h58
                generalize bs t.text = sx at *
                generalize bs (shN L c) = s0 at *
                generalize t.kind = kd at *
                go_wp2_with (go_at_call 33; refine KF.out.mono ?_; rintro e w1 ⟨rfl, hb1⟩; obtain ⟨d0, d1⟩ := KC.out _ hb1)
                exact ⟨⟨c + 1, by omega, by go_num, by rw [hS.out], by rw [hendt.out], hN, hB.out.trans (hb1.mono hB.out.size)⟩, by simp [intOf]; omega⟩
    · obtain rfl : c = L.length := by omega
      rw [List.take_length] at *
      cases he : endd L with
      | true =>
        have hR := hide' (hgood.out hs.out he)
        clear hbad hend hgood H' htx' he
        generalize bs (shN L L.length) = s0 at *
        go_wp2
        go_ret2
        exact ⟨by rw [hR.out]; rfl, hB.out⟩
      | false =>
        have hR := hide' (hend.out hs.out he)
        clear hbad hend hgood H' htx' he
        generalize bs (shN L L.length) = s0 at *
        go_wp2
        go_ret2
        exact ⟨by rw [hR.out]; rfl, hB.out⟩
end Go.Proofs.Ytghodeggobgclaa

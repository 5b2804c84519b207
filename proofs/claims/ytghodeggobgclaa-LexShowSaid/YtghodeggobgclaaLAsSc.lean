/- asScanned: what it answers. -/
import Derived.Test.YtghodeggobgclaaLWhole
namespace Go.Proofs.Ytghodeggobgclaa
open Go.RowKit Go.Shelf
/-- Are the first n tokens such as Scan tells? -/
def asN (L : List Tok) : Nat → Bool
  | 0 => true
  | n + 1 => asN L n && (match L[n]? with | none => true | some t => !(decide (t.kind = 4) && endd (L.take n)) && wholeT t)
def asT (L : List Tok) : Bool := asN L L.length && endd L
theorem asN_step {L : List Tok} {n : Nat} {t : Tok} (ht : L[n]? = some t) : asN L (n + 1) = (asN L n && (!(decide (t.kind = 4) && endd (L.take n)) && wholeT t)) := by
  simp only [asN, ht]
theorem asN_false {L : List Tok} {n : Nat} (h : asN L n = false) : ∀ k, asN L (n + k) = false
  | 0 => h
  | k + 1 => by rw [← Nat.add_assoc]; simp only [asN, asN_false h k, Bool.false_and]
theorem asT_false {L : List Tok} {n : Nat} (h : asN L n = false) (hn : n ≤ L.length) : asT L = false := by
  unfold asT
  have := asN_false h (L.length - n)
  rw [show n + (L.length - n) = L.length by omega] at this
  rw [this]; rfl
theorem cell_lt {W : World} {a : Addr} {v : Value} (h : W.cell? a = some v) : a.block < W.heap.size := by
  unfold World.cell? at h
  rcases Nat.lt_or_ge a.block W.heap.size with hl | hl
  · exact hl
  · rw [Array.getElem?_eq_none hl] at h
    cases h
theorem TokAt.keep {W V : World} {oa : Option Addr} {L : List Tok} (h : TokAt W oa L) (hb : Below W.heap.size W V) : TokAt V oa L := fun k t hk => by
  obtain ⟨g, h0, h1, h2, h3, h4, h5⟩ := h k t hk
  have hc : ∀ i v, W.cell? ⟨g, i, none⟩ = some v → V.cell? ⟨g, i, none⟩ = some v := fun i v hv => (hb.cell (p := ⟨g, i, none⟩) (cell_lt hv)).trans hv
  exact ⟨g, h0, hc _ _ h1, hc _ _ h2, hc _ _ h3, hc _ _ h4, hc _ _ h5⟩
set_option maxRecDepth 100000 in
set_option maxHeartbeats 8000000 in
theorem asScannedF (oa : Option Addr) (cap : Nat) (L : List Tok) (w : World) (H : TokAt w oa L) (hm : L.length ≤ 1000000000) (hcap : L.length ≤ cap) (hcm : cap ≤ 9223372036854775807) (htx : ∀ t ∈ L, t.text.length ≤ 9223372036854775807) :
    Calls Try.prog 28 #[.slice oa L.length cap] w fun e w' => e = .returned (.bool (asT L)) ∧ Below w.heap.size w w' := by
  have H' := hide' H
  have htx' := hide' htx
  clear H htx
  go_enter Try.func28, Try.ntmps28
  go_wp2_with fail
  refine (kindsOB _).mono ?_
  rintro e w1 ⟨K, rfl, hK, hb1⟩
  have B1 := hide' hb1
  have a1 : Hid (Below w1.heap.size w1 (w1.alloc (.cells #[fv K.g0 K.l0, fv K.g1 K.l1, fv K.g2 K.l2, fv K.g3 K.l3, fv K.g4 K.l4, fv K.g5 K.l5, fv K.g6 K.l6, fv K.g7 K.l7] 88))) := (Below.refl _ w1).alloc (Nat.le_refl _) _
  have hK2 : Hid (KOk K (w1.alloc (.cells #[fv K.g0 K.l0, fv K.g1 K.l1, fv K.g2 K.l2, fv K.g3 K.l3, fv K.g4 K.l4, fv K.g5 K.l5, fv K.g6 K.l6, fv K.g7 K.l7] 88))) := hK.later a1.out
  have KB := hide' (show kblk K (w1.alloc (.cells #[fv K.g0 K.l0, fv K.g1 K.l1, fv K.g2 K.l2, fv K.g3 K.l3, fv K.g4 K.l4, fv K.g5 K.l5, fv K.g6 K.l6, fv K.g7 K.l7] 88)) w1.heap.size from heap_alloc_new w1 _)
  have B2 : Hid (Below w.heap.size w (w1.alloc (.cells #[fv K.g0 K.l0, fv K.g1 K.l1, fv K.g2 K.l2, fv K.g3 K.l3, fv K.g4 K.l4, fv K.g5 K.l5, fv K.g6 K.l6, fv K.g7 K.l7] 88))) := B1.out.trans (a1.out.mono B1.out.size)
  have HT2 : Hid (TokAt (w1.alloc (.cells #[fv K.g0 K.l0, fv K.g1 K.l1, fv K.g2 K.l2, fv K.g3 K.l3, fv K.g4 K.l4, fv K.g5 K.l5, fv K.g6 K.l6, fv K.g7 K.l7] 88)) oa L) := H'.out.keep B2.out
  unfold Kd.v
  clear hK hb1 a1 B1 H'
  go_upto_region 2 with fail
  generalize (w1.alloc (.cells #[fv K.g0 K.l0, fv K.g1 K.l1, fv K.g2 K.l2, fv K.g3 K.l3, fv K.g4 K.l4, fv K.g5 K.l5, fv K.g6 K.l6, fv K.g7 K.l7] 88)) = W1 at *
  have hlt1 : Hid (w1.heap.size < W1.heap.size) := (Array.getElem?_eq_some_iff.1 KB.out).1
  generalize w1.heap.size = BK at *
  go_wp2_with fail
  go_loopw [9] (fun k wr => ∃ c : Nat, k = .int .i64 c ∧ c ≤ L.length ∧ Hid (Below W1.heap.size W1 wr) ∧ Hid (asN L c = true)) (fun k _ => ((L.length : Int) - intOf k).toNat)
  case atStart => exact ⟨0, rfl, Nat.zero_le _, Below.refl _ _, rfl⟩
  case round =>
    obtain ⟨c, rfl, hc, hB, hs⟩ := hrel
    obtain ⟨W3, rfl⟩ : ∃ x, x = wr := ⟨_, rfl⟩
    have HT3 := hide' (HT2.out.keep hB.out)
    by_cases hlt : c < L.length
    · obtain ⟨t, ht⟩ : ∃ t, L[c]? = some t := ⟨_, List.getElem?_eq_getElem hlt⟩
      obtain ⟨g, rfl, t0, t1, t2, t3, t4⟩ := HT3.out c t ht
      have hst := asN_step ht
      rw [hs.out, Bool.true_and] at hst
      have A4 : Hid (Below W3.heap.size W3 (W3.alloc (.cells #[.int .i64 t.kind, .string (bs t.text), .int .i64 t.num, .int .i64 t.line, .int .i64 t.col] 35))) := (Below.refl _ W3).alloc (Nat.le_refl _) _
      have B4 : Hid (Below W1.heap.size W1 (W3.alloc (.cells #[.int .i64 t.kind, .string (bs t.text), .int .i64 t.num, .int .i64 t.line, .int .i64 t.col] 35))) := hB.out.trans (A4.out.mono hB.out.size)
      have hbk : Hid (BK < W3.heap.size) := Nat.lt_of_lt_of_le hlt1.out hB.out.size
      have KB4 : Hid (kblk K (W3.alloc (.cells #[.int .i64 t.kind, .string (bs t.text), .int .i64 t.num, .int .i64 t.line, .int .i64 t.col] 35)) BK) := (B4.out.block _ hlt1.out).trans KB.out
      have hbn : BK ≠ W3.heap.size := Nat.ne_of_lt hbk.out
      have KE : Hid (Calls Try.prog 30 #[.slice (some ⟨g, 0, none⟩) c cap] (W3.alloc (.cells #[.int .i64 t.kind, .string (bs t.text), .int .i64 t.num, .int .i64 t.line, .int .i64 t.col] 35)) fun e w' => e = .returned (.bool (endd (L.take c))) ∧ w' = (W3.alloc (.cells #[.int .i64 t.kind, .string (bs t.text), .int .i64 t.num, .int .i64 t.line, .int .i64 t.col] 35))) := by
        have := endedF (some ⟨g, 0, none⟩) cap (L.take c) (W3.alloc (.cells #[.int .i64 t.kind, .string (bs t.text), .int .i64 t.num, .int .i64 t.line, .int .i64 t.col] 35)) ((HT3.out.keep A4.out).take c) (by rw [List.length_take]; omega)
        rwa [List.length_take, Nat.min_eq_left hc] at this
      have KW : Hid (Calls Try.prog 64 #[.agg #[fv K.g0 K.l0, fv K.g1 K.l1, fv K.g2 K.l2, fv K.g3 K.l3, fv K.g4 K.l4, fv K.g5 K.l5, fv K.g6 K.l6, fv K.g7 K.l7], .agg #[.int .i64 t.kind, .string (bs t.text), .int .i64 t.num, .int .i64 t.line, .int .i64 t.col]] (W3.alloc (.cells #[.int .i64 t.kind, .string (bs t.text), .int .i64 t.num, .int .i64 t.line, .int .i64 t.col] 35)) fun e w' => e = .returned (.bool (wholeT t)) ∧ Below W1.heap.size W1 w') := (wholeF K t _ (hK2.out.later B4.out) (htx'.out t (List.mem_of_getElem? ht))).mono fun e w' h => ⟨h.1, B4.out.trans (h.2.mono B4.out.size)⟩
      have hno : Hid (asN L (c + 1) = false → asT L = false) := fun h => asT_false h hlt
      have hst' := hide' hst
      obtain ⟨k0, k1, k2, k3, k4, k5, k6, k7⟩ := kblk_cells KB4.out
      clear ht hst hs HT3 HT2 KB KB4 hK2 A4 htx' hbk hlt1
      generalize hee : endd (L.take c) = ee at *
      generalize hwh : wholeT t = wh at *
      clear hee hwh
      by_cases h4 : t.kind = 4
      · have q4 : (t.kind == 4) = true := by simpa using h4
        rw [show decide (t.kind = 4) = true from decide_eq_true h4] at hst'
        clear h4
        generalize bs t.text = sx at *
        generalize t.kind = kd at *
        generalize t.num = x2 at *
        generalize t.line = x3 at *
        generalize t.col = x4 at *
        cases ee
        · cases wh
          · have hf := hide' (hno.out (by rw [hst'.out]; rfl))
            go_wp2_with fail
            refine KE.out.mono ?_
            rintro e w5 ⟨rfl, hw⟩
            obtain rfl := hw
            go_wp2_with fail
            refine KW.out.mono ?_
            rintro e w6 ⟨rfl, b6⟩
            have B6 := hide' (B2.out.trans (b6.mono B2.out.size))
            clear b6
            go_wp2_with fail
            go_ret
            exact ⟨by rw [hf.out]; rfl, B6.out⟩
          · have hf := hide' (show asN L (c + 1) = true by rw [hst'.out]; rfl)
            go_wp2_with fail
            refine KE.out.mono ?_
            rintro e w5 ⟨rfl, hw⟩
            obtain rfl := hw
            go_wp2_with fail
            refine KW.out.mono ?_
            rintro e w6 ⟨rfl, b6⟩
            have B6 := hide' b6
            clear b6
            go_wp2_with fail
            exact ⟨⟨c + 1, by go_num, by omega, B6.out, hf.out⟩, by simp [intOf]; omega⟩
        · have hf := hide' (hno.out (by rw [hst'.out]; rfl))
          have B5 := hide' (B2.out.trans (B4.out.mono B2.out.size))
          clear KW
          go_wp2_with fail
          refine KE.out.mono ?_
          rintro e w5 ⟨rfl, hw⟩
          obtain rfl := hw
          go_wp2_with fail
          go_ret
          exact ⟨by rw [hf.out]; rfl, B5.out⟩
      · have q4 : (t.kind == 4) = false := by simpa using h4
        rw [show decide (t.kind = 4) = false from decide_eq_false h4] at hst'
        clear h4 KE
        generalize bs t.text = sx at *
        generalize t.kind = kd at *
        generalize t.num = x2 at *
        generalize t.line = x3 at *
        generalize t.col = x4 at *
        cases wh
        · have hf := hide' (hno.out (by rw [hst'.out]; rfl))
          go_wp2_with fail
          refine KW.out.mono ?_
          rintro e w6 ⟨rfl, b6⟩
          have B6 := hide' (B2.out.trans (b6.mono B2.out.size))
          clear b6
          go_wp2_with fail
          go_ret
          exact ⟨by rw [hf.out]; rfl, B6.out⟩
        · have hf := hide' (show asN L (c + 1) = true by rw [hst'.out]; rfl)
          go_wp2_with fail
          refine KW.out.mono ?_
          rintro e w6 ⟨rfl, b6⟩
          have B6 := hide' b6
          clear b6
          go_wp2_with fail
          exact ⟨⟨c + 1, by go_num, by omega, B6.out, hf.out⟩, by simp [intOf]; omega⟩
    · obtain rfl : c = L.length := by omega
      have KE := hide' (endedF oa cap L W3 HT3.out (by omega))
      have hf : Hid (asT L = endd L) := by show _ = _; unfold asT; rw [hs.out, Bool.true_and]
      have B5 := hide' (B2.out.trans (hB.out.mono B2.out.size))
      clear HT3 HT2 hs
      generalize endd L = ee at *
      go_wp2_with fail
      refine KE.out.mono ?_
      rintro e w5 ⟨rfl, hw⟩
      obtain rfl : W3 = w5 := hw.symm
      go_wp2_with fail
      go_ret
      exact ⟨by rw [hf.out]; rfl, B5.out⟩
end Go.Proofs.Ytghodeggobgclaa

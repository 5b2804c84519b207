/- The document's agenda: All. -/
import Derived.Test.YtmjdecgijnodhaaGSeg
import Derived.Test.YtmjdecgijnodhaaGAllM
import Derived.Deep.QuietTactic
import Derived.BigQuiet
import Derived.Laws.AppendOwnNone
namespace Go.Proofs.Ytmjdecgijnodhaa
open Go.RowKit Go.Maps
theorem insP_len (l : List (Int × Int)) (x : Int × Int) : (insP l x).length = l.length + 1 := by
  unfold insP
  have := kpos_le (l.map (·.2)) x.2 l.length
  simp
  omega
theorem rowP {W : World} {base : Nat} {oa : Option Addr} {cap : Nat} {L : List (Int × Int)} (h : W.ownsRow base 39 2 (.slice oa L.length cap) L.length (cellsP L)) {k : Nat} {x : Int × Int} (hx : L[k]? = some x) : ∃ g, oa = some ⟨g, 0, none⟩ ∧ W.cell? ⟨g, k * 2, none⟩ = some (.int .i64 x.1) ∧ W.cell? ⟨g, k * 2 + 1, none⟩ = some (.int .i64 x.2) := by
  have hk : k < L.length := (List.getElem?_eq_some_iff.1 hx).1
  rcases h.2 with ⟨h1, h2⟩ | ⟨g, cap', cur, h1, _⟩
  · omega
  · cases h1
    have a1 := h.cellAt (k * 2) (by omega)
    have a2 := h.cellAt (k * 2 + 1) (by omega)
    obtain ⟨e1, e2⟩ := cellsP_at L k
    rw [e1, hx] at a1
    rw [e2, hx] at a2
    exact ⟨g, rfl, a1, a2⟩
theorem drewH {w W : World} {B : Nat} (h : Below B w W) (n : Nat) : Hid (Below B w (W.drewN n)) := h.trans ⟨rfl, rfl, rfl, Nat.le_refl _, fun _ _ => rfl⟩
set_option maxRecDepth 100000 in
set_option maxHeartbeats 2000000 in
theorem allR (r : Nat) (L : List (Int × Int)) (rowv : Value) (w : World) (H : RefA w r L rowv) : Calls Try.prog 7 #[.pointer (some ⟨r, 0, none⟩)] w fun e w' => ∃ v, e = .returned v ∧ w'.ownsRow w.heap.size 39 2 v (allP L).length (cellsP (allP L)) ∧ Below w.heap.size w w' := by
  obtain ⟨i0, hi, hz0, hz1, hz2⟩ := info_parts infoR
  obtain ⟨oa, cap, rfl⟩ := own_shapeG H.row
  have hsm := H.small
  have H' := hide' H
  clear H
  go_enter Try.func7, Try.ntmps7
  go_wp2
  go_loopw [3, 4] (fun v k wr => ∃ (c : Nat), k = .int .i64 c ∧ c ≤ L.length ∧ Hid (wr.ownsRow w.heap.size 39 2 v (allP (L.take c)).length (cellsP (allP (L.take c)))) ∧ Hid (Below w.heap.size w wr) ∧ Hid ((allP (L.take c)).length = c)) (fun _ k _ => ((L.length : Int) - intOf k).toNat)
  case atStart => exact ⟨0, rfl, Nat.zero_le _, World.ownsRow_nil _ _ _ _, Below.refl _ _, rfl⟩
  case round =>
    obtain ⟨c, rfl, hc, hrow, hB, hlen⟩ := hrel
    obtain ⟨W1, rfl⟩ : ∃ x, x = wr := ⟨_, rfl⟩
    have HW := hide' (H'.out.below hB.out)
    have c0 := HW.out.c0
    obtain ⟨ov, cv, rfl⟩ := own_shapeG hrow.out
    by_cases hlt : c < L.length
    · obtain ⟨x, hx⟩ : ∃ x, L[c]? = some x := ⟨_, List.getElem?_eq_getElem hlt⟩
      obtain ⟨g, rfl, d1, d2⟩ := HW.out.ent hx
      have hsn : Hid (allP (L.take (c + 1)) = insP (allP (L.take c)) x) := by
        show _ = _
        rw [List.take_add_one, hx]
        exact allP_snoc _ _
      generalize hl : allP (L.take c) = l at *
      have hll := hlen.out
      clear hl
      have hkp : Hid (∃ k, kpos (l.map (·.2)) x.2 l.length = k) := ⟨_, rfl⟩
      obtain ⟨k, hk⟩ := hkp.out
      have hk' := hide' hk
      have hkl : k ≤ l.length := by rw [← hk]; exact kpos_le _ _ _
      clear hk hkp
      go_upto_block 2 with fail
      go_cut [5] (fun s wx => s = .int .i64 (k : Int) ∧ Hid (Below W1.heap.size W1 wx))
      case first =>
        as_aux_lemma =>
        go_wp2_with fail
        go_loopw [5] (fun s wx => ∃ n : Nat, s = .int .i64 (n : Int) ∧ n ≤ c ∧ k ≤ n ∧ Hid (kpos (l.map (·.2)) x.2 n = k) ∧ Hid (Below W1.heap.size W1 wx)) (fun s _ => (intOf s).toNat)
        case atStart => exact ⟨c, rfl, Nat.le_refl _, by omega, by rw [← hll]; exact hk', Below.refl _ _⟩
        case round =>
          obtain ⟨n, rfl, hnc, hkn, hkk, hBx⟩ := hrel
          by_cases hn0 : n = 0
          · obtain rfl : k = 0 := by omega
            subst hn0
            clear hrow HW H' hsn hlen hB hkk
            go_upto_region 6 with fail
            go_quiet (fail)
            go_wp2
            go_meet
            exact ⟨rfl, drewH hBx.out _⟩
          · obtain ⟨n', hnn⟩ : ∃ n', n = n' + 1 := ⟨n - 1, by omega⟩
            obtain ⟨y, hy⟩ : ∃ y, l[n']? = some y := ⟨_, List.getElem?_eq_getElem (by omega)⟩
            have hy2 : (l.map (·.2)).getD n' 0 = y.2 := by rw [List.getD_eq_getElem?_getD, List.getElem?_map, hy]; rfl
            obtain ⟨gl, rfl, -, e2⟩ := rowP (owns_same hrow.out (w' := wr) fun g hg _ => hBx.out.block g hg) hy
            have e3 := cell_over d2 hBx.out
            have e4 := cell_over c0 hBx.out
            have hp1 : (n : Int) - 1 = (n' : Int) := by omega
            have g0 : decide ((0 : Int) < (n : Int)) = true := by simp; omega
            have g1 : decide (0 < n) = true := by simp; omega
            have n0 : (0 : Int) < (n : Int) := by omega
            have n1 : (n' : Int) < (c : Int) := by omega
            have n2 : (c : Int) < (L.length : Int) := by omega
            have hk3 := hkk.out
            rw [hnn] at hk3
            unfold kpos at hk3
            rw [hy2] at hk3
            have hnn' := hide' hnn
            clear hrow HW H' hsn hlen hB hkk hy hy2 hnn d1 d2 c0
            by_cases hgt : x.2 < y.2
            · have q : decide (x.2 < y.2) = true := by simp [hgt]
              rw [if_pos hgt] at hk3
              have hkn' : k ≤ n' := by rw [← hk3]; exact kpos_le _ _ _
              have hk4 := hide' hk3
              clear hk3 hgt
              generalize y.2 = yt at *
              go_upto_region 6 with fail
              go_quiet (fail)
              go_wp2
              exact ⟨⟨n', by go_num, by omega, hkn', hk4, drewH hBx.out _⟩, by simp [intOf]; omega⟩
            · have q : decide (x.2 < y.2) = false := by simp; omega
              rw [if_neg hgt] at hk3
              have hkn2 : Hid (n = k) := by show n = k; omega
              clear hk3 hgt
              generalize y.2 = yt at *
              go_upto_region 6 with fail
              go_quiet (fail)
              go_wp2
              go_meet
              exact ⟨by rw [hkn2.out], drewH hBx.out _⟩
      case rest =>
        as_aux_lemma =>
        obtain ⟨rfl, hB2⟩ := hcut
        have hins : Hid (insP l x = l.take k ++ x :: l.drop k) := by show _ = _; unfold insP; rw [hk'.out]
        have hrow2 := hide' (owns_same hrow.out (w' := wc) fun g hg _ => hB2.out.block g hg)
        obtain ⟨s1, hs1, hg1⟩ := seg_head hrow2.out hkl
        obtain ⟨s2, hs2, hg2⟩ := seg_rest hrow2.out hkl
        have hg1' := hide' hg1
        have hg2' := hide' hg2
        have e1 := cell_over d1 hB2.out
        have e2 := cell_over d2 hB2.out
        have e0 := cell_over c0 hB2.out
        have hBw : Hid (Below w.heap.size w wc) := hB.out.trans (hB2.out.mono hB.out.size)
        have hsw := hBw.out.size
        have hgl : g < wc.heap.size := Nat.lt_of_lt_of_le (cell_lt d1) hB2.out.size
        have hrl : r < wc.heap.size := Nat.lt_of_lt_of_le (cell_lt c0) hB2.out.size
        have hl1 : (l.take k).length = k := by rw [List.length_take]; omega
        have hl1' := hide' hl1
        clear hrow HW H' hlen hB hg1 hg2 d1 d2 c0 hl1
        have hs3 := fun V => (run_sliceAt_slice V _ _ _ _ _ elem33).symm.trans (hs1 V)
        have hs4 := fun V => (run_sliceAt_slice V _ _ _ _ _ elem33).symm.trans (hs2 V)
        rw [hll] at hg2' hkl
        have hml' : Hid (l.length = c) := hll
        clear hll hrow2
        generalize Value.slice ov l.length cv = lv at *
        obtain ⟨xi, xt⟩ := x
        simp only [] at e1 e2
        have hend : Hid (∀ (W : World) v, W.ownsRow wc.heap.size 39 2 v (k + 1 + (c - k)) ((cellsP (l.take k) ++ [.int .i64 xi, .int .i64 xt]) ++ cellsP (l.drop k)) → W.ownsRow w.heap.size 39 2 v (allP (L.take (c + 1))).length (cellsP (allP (L.take (c + 1))))) := fun W v h => by
          have e3 : cellsP (insP l (xi, xt)) = (cellsP (l.take k) ++ [.int .i64 xi, .int .i64 xt]) ++ cellsP (l.drop k) := by
            rw [hins.out]; simp [cellsP]
          have e4 : (insP l (xi, xt)).length = k + 1 + (c - k) := by rw [insP_len, hml'.out]; omega
          rw [hsn.out, e3, e4]
          exact owns_lessG h hsw
        have hln : Hid ((allP (L.take (c + 1))).length = c + 1) := by show _ = _; rw [hsn.out, insP_len, hml'.out]
        go_wp2_with (first
          | (at_builtin; refine app_seg rfl _ _ rfl wc.heap.size (.slice none 0 0) 0 [] rfl (World.ownsRow_nil _ _ _ _) s1 k (l.take k) rfl hg1'.out (by omega) (Nat.le_refl _) ?_; intro v5 w5 hown5 hgrow5; rw [Nat.zero_add, List.nil_append] at hown5; obtain ⟨o5, c5, hv5⟩ := own_shapeG hown5; subst hv5; have hB5 : Below wc.heap.size wc w5 := ((Below.refl _ wc).grown hgrow5 (Nat.le_refl _) (fun _ e => by cases e)); have hge5 := hide' (fun q eq => (hown5.lt q eq).1); have hO5 := hide' hown5; have k0 := cell_over e0 hB5; have k1 := cell_over e1 hB5; have k2 := cell_over e2 hB5; have hz5 := hB5.size; have hB5' := hide' hB5; clear hown5 hgrow5 hB5)
          | (at_builtin; refine wpList_append_lies _ rfl _ _ 36 rfl wc.heap.size 39 i0 (.agg #[.int .i64 0, .int .i64 0]) 2 16 Try.underlying36 hi hz0 hz1 hz2 rfl (by decide) (.slice o5 k c5) k (cellsP (l.take k)) rfl (hO5.out.alloc _) ⟨w5.heap.size, 0, none⟩ 1 1 [.int .i64 xi, .int .i64 xt] rfl rfl (cell_two_new _ _ _ _) (by simp [Value.oneCell']) (by decide) (by unfold maxLen; omega) (by omega) (by simp; omega) _ rfl ?_; intro g6 c6 w6 hown6 hgrow6 hat6 hlt6; have hB6 : Below wc.heap.size wc w6 := ((hB5'.out.alloc hz5 _).grown hgrow6 (by simp; omega) hge5.out); have hge6 := hide' (fun q eq => (hown6.lt q eq).1); have hO6 := hide' hown6; have hB6' := hide' hB6; have hz6 := hB6.size; clear hown6 hgrow6 hat6 hB6)
          | (at_builtin; refine app_seg rfl _ _ rfl wc.heap.size (.slice (some ⟨g6, 0, none⟩) (k + 1) c6) (k + 1) (cellsP (l.take k) ++ [.int .i64 xi, .int .i64 xt]) rfl hO6.out s2 (c - k) (l.drop k) rfl (hg2'.out.over hB6'.out) (by omega) hz6 ?_; intro v7 w7 hown7 hgrow7; have hB7 := hide' (hB6'.out.grown hgrow7 hz6 hge6.out); have hO7 := hide' (hend.out _ _ hown7); clear hown7 hgrow7))
        exact ⟨⟨c + 1, by go_num, by omega, hO7, hBw.out.trans (hB7.out.mono hsw), hln⟩, by simp [intOf]; omega⟩
    · obtain rfl : c = L.length := by omega
      rw [List.take_of_length_le (Nat.le_refl _)] at hrow ⊢
      clear HW H' hlen
      generalize hm : (allP L).length = m at *
      have hm' := hide' hm
      clear hm
      go_wp2
      go_ret
      refine ⟨.slice ov m cv, rfl, ?_, hB.out⟩
      rw [hm'.out]
      exact hrow.out
end Go.Proofs.Ytmjdecgijnodhaa

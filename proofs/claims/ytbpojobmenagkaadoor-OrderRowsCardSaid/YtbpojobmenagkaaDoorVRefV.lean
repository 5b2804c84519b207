/- The document's Levels. -/
import Derived.Test.YtbpojobmenagkaaDoorVRows
namespace Go.Proofs.YtbpojobmenagkaaDoor
open Go.RowKit Go.Shelf
section
variable {w0 : World} {go m : Nat} {R : Nat → Nat → Bool} {ov : Value} {gr : Nat → Nat} {w : World} {Pf Sf : Nat → Nat}
/-- Those of a level among the first so many. -/
def fltH (H : Nat → Nat) (k i : Nat) : List Nat := (List.range i).filter fun a => decide (H a = k)
theorem fltH_len (H : Nat → Nat) (k i : Nat) : (fltH H k i).length ≤ i := by
  unfold fltH
  refine Nat.le_trans (List.length_filter_le _ _) ?_
  simp
set_option maxRecDepth 100000 in
set_option maxHeartbeats 2000000 in
theorem refLevels (hM : Mat w0 go m m R ov gr w) (hO : Ord m R Pf Sf) (K : Nat) (hK : K ≤ m) (hKf : eK m Pf K = 2 ^ m - 1) (hKn : ∀ j, j < K → eK m Pf j ≠ 2 ^ m - 1) :
    Calls Tryd.prog 10 #[.pointer (some ⟨go, 0, none⟩)] w fun e w' => ∃ v, e = .returned v ∧ Hid (RV w.heap.size w' v (lvs m Pf K)) ∧ Below w.heap.size w w' := by
  obtain ⟨i0, hi, hz0, hz1, hz2⟩ := info_parts infoIV
  obtain ⟨iL, hiL, hzL0, hzL1, hzL2⟩ := info_parts infoLV
  have hm := hO.n64
  have KH := hide' (refHeights hM hm (hgt m R Pf) (fun x y hx hy hR => hO.hgt_up hx hy hR) (fun y r hy hr => hO.hgt_from hy hr) (fun a ha => hO.hgt_lt ha))
  have cN : Hid (∀ W, Below w.heap.size w W → W.cell? ⟨go, 0, none⟩ = some (.int .i64 (m : Int))) := fun W hW => (hM.over hW).c0
  have hlv : Hid (∀ k, lvl m Pf k = fltH (hgt m R Pf) k m) := fun k => hO.lvl_hgt k m (Nat.le_refl _)
  have hem : Hid (∀ k, k ≤ K → ((fltH (hgt m R Pf) k m).length = 0 ↔ k = K)) := fun k hk => by
    rw [← hlv.out k, List.length_eq_zero_iff, ← hO.full_iff]
    constructor
    · intro e
      rcases Nat.lt_or_ge k K with h | h
      · exact absurd e (hKn k h)
      · omega
    · rintro rfl; exact hKf
  have hhl : Hid (∀ a, a < m → hgt m R Pf a < m) := fun a ha => hO.hgt_lt ha
  clear hM hO hKf hKn
  generalize hgt m R Pf = H at *
  go_enter Tryd.func10, Tryd.ntmps10
  go_wp2_with fail
  refine KH.out.mono ?_
  rintro e w1 ⟨oh, ch, rfl, hh1, hb1⟩
  have hcH : Hid (∀ W a, Below w1.heap.size w1 W → a < m → ∃ g, oh = some ⟨g, 0, none⟩ ∧ W.cell? ⟨g, a, none⟩ = some (.int .i64 (H a : Int))) := fun W a hW ha => by
    have h2 := owns_belowV hh1.out hW
    rcases h2.2 with ⟨_, h0⟩ | ⟨g, cap, cur, e, _⟩
    · omega
    · cases e
      exact ⟨g, rfl, by rw [h2.cellAt a (by omega)]; exact cellsK_at H ha⟩
  have hs1 := hb1.size
  clear KH hh1
  go_wp2
  go_loopw [3, 5, 6, 7] (fun pl pk _ _ wr => ∃ k oa cap, k ≤ K ∧ pl = .slice oa k cap ∧ pk = .int .i64 (k : Nat) ∧ Hid (Below w1.heap.size w1 wr ∧ RV w1.heap.size wr (.slice oa k cap) (lvs m Pf k))) (fun _ pk _ _ _ => ((K : Int) - intOf pk).toNat)
  case atStart => exact ⟨0, _, 0, Nat.zero_le _, rfl, rfl, Below.refl _ _, RV.nil _ _⟩
  case round =>
    obtain ⟨k, oa, cap, hk, rfl, rfl, hI⟩ := hrel
    have hBw : Below w.heap.size w wr := hb1.trans (hI.out.1.mono hs1)
    have hI' := hI
    have hsr := hI.out.1.size
    clear hI
    obtain ⟨Wc, hWc⟩ : ∃ W, W = wr := ⟨_, rfl⟩
    subst hWc
    go_wp2
    go_loopw [6, 7] (fun po pa wr => ∃ i ou cu, i ≤ m ∧ pa = .int .i64 (i : Nat) ∧ po = .slice ou (fltH H k i).length cu ∧ Hid (wr.ownsRow Wc.heap.size 3 1 (.slice ou (fltH H k i).length cu) (fltH H k i).length (cellsN (fltH H k i)) ∧ Below Wc.heap.size Wc wr)) (fun _ pa _ => ((m : Int) - intOf pa).toNat)
    case atStart => exact ⟨0, none, 0, Nat.zero_le _, rfl, rfl, World.ownsRow_nil _ _ _ _, Below.refl _ _⟩
    case round =>
      obtain ⟨i, ou, cu, hi', rfl, rfl, hJ⟩ := hrel
      have hBr : Below w1.heap.size w1 wr := hI'.out.1.trans (hJ.out.2.mono hsr)
      have c0 := cN.out _ (hBw.trans (hJ.out.2.mono (by omega)))
      by_cases hli : i < m
      · have hli' : (i : Int) < (m : Int) := by omega
        obtain ⟨g, rfl, ch1⟩ := hcH.out _ i hBr hli
        have hsn : fltH H k (i + 1) = fltH H k i ++ if decide (H i = k) = true then [i] else [] := filter_snoc _ i
        by_cases hik : H i = k
        · have heq : ((H i : Int) == (k : Int)) = true := by simp; omega
          rw [if_pos (by simpa using hik)] at hsn
          have hO1 : Hid (∀ o, (wr.alloc o).ownsRow Wc.heap.size 3 1 (.slice ou (fltH H k i).length cu) (fltH H k i).length (cellsN (fltH H k i))) := fun o => hJ.out.1.alloc o
          have hfin : Hid (∀ u w2, w2.ownsRow Wc.heap.size 3 1 u ((fltH H k i).length + 1) (cellsN (fltH H k i) ++ [.int .i64 (i : Int)]) → (wr.alloc (.cells #[.int .i64 (i : Int)] 3)).grownBy w2 (Value.slice ou (fltH H k i).length cu).ownBlock → ∃ ou2 cu2, u = .slice ou2 (fltH H k (i + 1)).length cu2 ∧ Hid (w2.ownsRow Wc.heap.size 3 1 (.slice ou2 (fltH H k (i + 1)).length cu2) (fltH H k (i + 1)).length (cellsN (fltH H k (i + 1))) ∧ Below Wc.heap.size Wc w2)) := fun u w2 h1 h2 => by
            obtain ⟨ou2, cu2, rfl⟩ := own_formI h1
            have hl : (fltH H k (i + 1)).length = (fltH H k i).length + 1 := by rw [hsn]; simp
            refine ⟨ou2, cu2, by rw [hl], ?_, ?_⟩
            · rw [hl, hsn, cellsN_snoc]; exact h1
            · exact (hJ.out.2.alloc hJ.out.2.size _).grown h2 (by have := hJ.out.2.size; simp; omega) (own_geV hJ.out.1)
          have hNl := fltH_len H k i
          have hsz := hJ.out.2.size
          clear hJ hsn hBr
          generalize hN : (fltH H k i).length = N at *
          generalize fltH H k i = lst at *
          clear hN
          go_wp2_with (first | (at_builtin; refine wpList_append_own _ rfl _ _ 24 rfl Wc.heap.size 3 i0 (.int .i64 0) 1 8 Tryd.underlying24 hi hz0 hz1 hz2 rfl (by decide) (.slice ou N cu) N (cellsN lst) rfl (hO1.out _) ⟨wr.heap.size, 0, none⟩ 1 1 [.int .i64 (i : Int)] rfl rfl (cell_one_new _ _ _) (by simp [Value.oneCell']) (by unfold maxLen; omega) (by omega) (by simp; omega) ?_; intro u w8 hown8 hgrow8 hnil8; clear hnil8; obtain ⟨ou2, cu2, rfl, M8⟩ := hfin.out u w8 hown8 hgrow8; clear hown8 hgrow8))
          exact ⟨⟨i + 1, ou2, cu2, by omega, by go_num, rfl, M8⟩, by simp [intOf]; omega⟩
        · have heq : ((H i : Int) == (k : Int)) = false := by simp; omega
          rw [if_neg (by simpa using hik), List.append_nil] at hsn
          have hJ2 : Hid (fltH H k (i + 1) = fltH H k i) := hsn
          clear hsn
          go_wp2
          exact ⟨⟨i + 1, ou, cu, by omega, by go_num, by rw [hJ2.out], by rw [hJ2.out]; exact hJ⟩, by simp [intOf]; omega⟩
      · obtain rfl : i = m := by omega
        by_cases hkK : k = K
        · subst hkK
          have hl0 := (hem.out k (Nat.le_refl _)).2 rfl
          have hE : Hid (RV w.heap.size wr (.slice oa k cap) (lvs i Pf k) ∧ Below w.heap.size w wr) := ⟨(hI'.out.2.below hJ.out.2).low hs1, hBw.trans (hJ.out.2.mono (by omega))⟩
          rw [hl0]
          clear hJ hI' hBr hl0
          go_wp2
          go_ret
          exact ⟨_, rfl, hE.out.1, hE.out.2⟩
        · have hl0 : ¬ (fltH H k i).length = 0 := fun e => hkK ((hem.out k hk).1 e)
          obtain ⟨vs, hv1, hv2⟩ := hI'.out.2.below hJ.out.2
          rw [lvs_len] at hv1
          have hO1 : Hid (∀ o, (wr.alloc o).ownsRow w1.heap.size 24 1 (.slice oa k cap) k vs) := fun o => hv1.alloc o
          have hfin : Hid (∀ u w2, w2.ownsRow w1.heap.size 24 1 u (k + 1) (vs ++ [.slice ou (fltH H k i).length cu]) → (wr.alloc (.cells #[.slice ou (fltH H k i).length cu] 24)).grownBy w2 (Value.slice oa k cap).ownBlock → ∃ oa2 cap2, u = .slice oa2 (k + 1) cap2 ∧ Hid (Below w1.heap.size w1 w2 ∧ RV w1.heap.size w2 (.slice oa2 (k + 1) cap2) (lvs i Pf (k + 1)))) := fun u w2 h1 h2 => by
            have hP : RV w1.heap.size w2 u (lvs i Pf k ++ [lvl i Pf k]) := by
              refine RV.push (vs := vs) (by rw [lvs_len]; exact hv1) hv2 (u := .slice ou (fltH H k i).length cu) ?_ (by rw [lvs_len]; exact h1) h2
              rw [hlv.out k]
              exact owns_lowV hJ.out.1 hsr
            rw [← lvs_snoc] at hP
            obtain ⟨oa2, cap2, e⟩ := hP.shape
            rw [lvs_len] at e
            subst e
            exact ⟨oa2, cap2, rfl, (hBr.alloc hBr.size _).grown h2 (by have := hBr.size; simp; omega) (own_geV hv1), hP⟩
          have hsz := hBr.size
          have hNl := fltH_len H k i
          clear hJ hI' hBr hv1 hv2
          generalize hN : (fltH H k i).length = N at *
          have hN0 : ¬ (N : Int) = 0 := by omega
          clear hN
          go_wp2_with (first | (at_builtin; refine wpList_append_own _ rfl _ _ 40 rfl w1.heap.size 24 iL (.slice none 0 0) 1 24 Tryd.underlying40 hiL hzL0 hzL1 hzL2 rfl (by decide) (.slice oa k cap) k vs rfl (hO1.out _) ⟨wr.heap.size, 0, none⟩ 1 1 [.slice ou N cu] rfl rfl (cell_one_new _ _ _) (by simp [Value.oneCell']) (by unfold maxLen; omega) (by omega) (by simp; omega) ?_; intro u w8 hown8 hgrow8 hnil8; clear hnil8; obtain ⟨oa2, cap2, rfl, M8⟩ := hfin.out u w8 hown8 hgrow8; clear hown8 hgrow8))
          exact ⟨⟨k + 1, oa2, cap2, by omega, rfl, by go_num, M8⟩, by simp [intOf]; omega⟩
end
end Go.Proofs.YtbpojobmenagkaaDoor

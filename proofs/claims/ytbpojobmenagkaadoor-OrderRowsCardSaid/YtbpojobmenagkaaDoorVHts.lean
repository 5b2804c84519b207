/- The document's heights. -/
import Derived.Test.YtbpojobmenagkaaDoorVRefL
import Derived.Test.YtbpojobmenagkaaDoorVLevM
import Derived.Deep.QuietTactic
import Derived.BigQuiet
namespace Go.Proofs.YtbpojobmenagkaaDoor
open Go.RowKit Go.Shelf
def cellsK (k : Nat → Nat) (n : Nat) : List Value := (List.range n).map fun i => Value.int .i64 (k i : Int)
theorem cellsK_at (k : Nat → Nat) {n i : Nat} (hi : i < n) : (cellsK k n)[i]? = some (.int .i64 (k i : Int)) := by
  simp [cellsK, hi]
theorem cellsK_len (k : Nat → Nat) (n : Nat) : (cellsK k n).length = n := by simp [cellsK]
theorem cellsK_set (k : Nat → Nat) (n y v : Nat) : (cellsK k n).set y (.int .i64 (v : Int)) = cellsK (putH k y v) n := by
  apply List.ext_getElem?
  intro i
  rw [List.getElem?_set, cellsK_len]
  by_cases hi : i < n
  · rw [cellsK_at (putH k y v) hi, cellsK_at k hi]
    by_cases e : y = i
    · subst e
      rw [if_pos rfl, if_pos hi]
      unfold putH
      rw [if_pos rfl]
    · rw [if_neg e]
      unfold putH
      rw [if_neg (fun x => e x.symm)]
  · have h1 : (cellsK k n)[i]? = none := by rw [List.getElem?_eq_none_iff, cellsK_len]; omega
    have h2 : (cellsK (putH k y v) n)[i]? = none := by rw [List.getElem?_eq_none_iff, cellsK_len]; omega
    rw [h1, h2]
    by_cases e : y = i
    · subst e; rw [if_pos rfl, if_neg hi]
    · rw [if_neg e]
theorem cellsK_zero (n : Nat) : cellsK (fun _ => 0) n = List.replicate n (.int .i64 0) := by
  apply List.ext_getElem?
  intro i
  by_cases hi : i < n
  · rw [cellsK_at _ hi, List.getElem?_replicate, if_pos hi]; rfl
  · rw [List.getElem?_eq_none (by rw [cellsK_len]; omega), List.getElem?_eq_none (by simp; omega)]
section
variable {w0 : World} {go m : Nat} {R : Nat → Nat → Bool} {ov : Value} {gr : Nat → Nat} {w : World} {Pf Sf : Nat → Nat}
/-- What heights holds. -/
def HtS (m : Nat) (R : Nat → Nat → Bool) (H : Nat → Nat) (w : World) (r x y : Nat) (W : World) : Prop := Below w.heap.size w W ∧ ∃ k, W.ownsRow w.heap.size 3 1 (.slice (some ⟨w.heap.size, 0, none⟩) m m) m (cellsK k m) ∧ Hx m R H k r x y
theorem HtS.row {H : Nat → Nat} {r x : Nat} {W : World} (h : HtS m R H w r x m W) : HtS m R H w r (x + 1) 0 W := by
  obtain ⟨h1, k, h2, h3⟩ := h
  exact ⟨h1, k, h2, h3.row⟩
theorem HtS.drewN {H : Nat → Nat} {r x y : Nat} {W : World} (h : HtS m R H w r x y W) (q : Nat) : HtS m R H w r x y (W.drewN q) := by
  obtain ⟨h1, k, h2, h3⟩ := h
  refine ⟨below_drewV h1 q, k, ?_, h3⟩
  induction q with
  | zero => exact h2
  | succ q iq => exact iq.drew
set_option maxRecDepth 100000 in
set_option maxHeartbeats 1000000 in
theorem refHeights (hM : Mat w0 go m m R ov gr w) (hm : m ≤ 64) (H : Nat → Nat) (hup : ∀ x y, x < m → y < m → R x y = true → H x + 1 ≤ H y) (hfrom : ∀ y r, y < m → H y = r + 1 → ∃ x, x < m ∧ R x y = true ∧ H x = r) (hlt : ∀ a, a < m → H a < m) :
    Calls Tryd.prog 30 #[.pointer (some ⟨go, 0, none⟩)] w fun e w' => ∃ oa cap, e = .returned (.slice oa m cap) ∧ Hid (w'.ownsRow w.heap.size 3 1 (.slice oa m cap) m (cellsK H m)) ∧ Below w.heap.size w w' := by
  obtain ⟨i0, hi, hz0, hz1, hz2⟩ := info_parts infoIV
  have c0 := hM.c0
  have hup' := hide' hup
  have hfrom' := hide' hfrom
  have hlt' := hide' hlt
  have cN : Hid (∀ W, Below w.heap.size w W → W.cell? ⟨go, 0, none⟩ = some (.int .i64 (m : Int))) := fun W hW => (hM.over hW).c0
  have cR : Hid (∀ W x y, Below w.heap.size w W → x < m → y < m → ∃ gt cap, W.cell? ⟨go, 1, none⟩ = some (.slice (some ⟨gt, 0, none⟩) m cap) ∧ W.cell? ⟨gt, x, none⟩ = some (.slice (some ⟨gr x, 0, none⟩) m m) ∧ W.cell? ⟨gr x, y, none⟩ = some (.bool (R x y))) := fun W x y hW hx hy => by
    have hM' := hM.over hW
    obtain ⟨gt, cap, e⟩ := hM'.shape (by omega)
    exact ⟨gt, cap, by rw [hM'.c1, e], hM'.row e hx, hM'.at hx hy⟩
  clear hM hup hfrom hlt
  go_enter Tryd.func30, Tryd.ntmps30
  go_wp2_with (at_make; refine wpList_make_full _ rfl _ _ 24 rfl w.heap.size 3 i0 (.int .i64 0) 1 Tryd.underlying24 hi hz0 hz1 .i64 .i64 _ _ m rfl rfl rfl rfl (by rw [hz2]; omega) (by unfold maxLen; omega) (by simp) ?_; intro w2 hrow hgrow)
  have hI0 : Hid (HtS m R H w 0 0 0 w2) := by
    refine ⟨(Below.refl _ w).grown hgrow (Nat.le_refl _) (fun j ej => by cases ej), fun _ => 0, ?_, Hx.start H⟩
    have h := hrow
    rw [show (Value.int .i64 0).cells = #[.int .i64 0] from rfl, toList_madeCells_one, Nat.mul_one] at h
    rw [cellsK_zero]
    exact h
  clear hrow hgrow c0
  go_wp2
  go_loopw [4, 5, 6] (fun pr _ _ wr => ∃ r : Nat, r ≤ m ∧ pr = .int .i64 r ∧ Hid (HtS m R H w r 0 0 wr)) (fun pr _ _ _ => ((m : Int) - intOf pr).toNat)
  case atStart => exact ⟨0, Nat.zero_le _, rfl, hI0⟩
  case round =>
    clear hI0
    obtain ⟨r, hr, rfl, hI⟩ := hrel
    have c0 := cN.out _ hI.out.1
    by_cases hlr : r < m
    · have hlr' : (r : Int) < (m : Int) := by omega
      go_wp2
      go_loopw [5, 6] (fun px _ wr => ∃ x : Nat, x ≤ m ∧ px = .int .i64 x ∧ Hid (HtS m R H w r x 0 wr)) (fun px _ _ => ((m : Int) - intOf px).toNat)
      case atStart => exact ⟨0, Nat.zero_le _, rfl, hI⟩
      case round =>
        clear hI c0
        obtain ⟨x, hx, rfl, hI⟩ := hrel
        have c0 := cN.out _ hI.out.1
        by_cases hlx : x < m
        · have hlx' : (x : Int) < (m : Int) := by omega
          go_wp2
          go_loopw [6] (fun py wr => ∃ y : Nat, y ≤ m ∧ py = .int .i64 y ∧ Hid (HtS m R H w r x y wr)) (fun py _ => ((m : Int) - intOf py).toNat)
          case atStart => exact ⟨0, Nat.zero_le _, rfl, hI⟩
          case round =>
            clear hI c0
            obtain ⟨y, hy, rfl, hI⟩ := hrel
            have c0 := cN.out _ hI.out.1
            by_cases hly : y < m
            · have hly' : (y : Int) < (m : Int) := by omega
              obtain ⟨gt, cap, d1, d2, d3⟩ := cR.out _ x y hI.out.1 hlx hly
              obtain ⟨hB, k, hrow, hx0⟩ := hI.out
              have kx : wr.cell? ⟨w.heap.size, x, none⟩ = some (.int .i64 (k x : Int)) := by rw [hrow.cellAt x (by omega)]; exact cellsK_at k hlx
              have ky : wr.cell? ⟨w.heap.size, y, none⟩ = some (.int .i64 (k y : Int)) := by rw [hrow.cellAt y (by omega)]; exact cellsK_at k hly
              have fy := hrow.frozenAt y
              have hkx : k x < 64 := by have := hx0.1 x hlx; have := hlt'.out x hlx; omega
              have hky : k y < 64 := by have := hx0.1 y hly; have := hlt'.out y hly; omega
              have hwr : IntKind.i64.wrap ((k x : Int) + 1) = ((k x + 1 : Nat) : Int) := by rw [IntKind.wrap_i64]; omega
              have hkeep : Hid ((R x y = true → ¬ k y < k x + 1) → ∀ q, HtS m R H w r x (y + 1) (wr.drewN q)) := fun hn q => HtS.drewN ⟨hB, k, hrow, hx0.keep hn⟩ q
              have hturn : Hid (R x y = true → k y < k x + 1 → ∀ q, HtS m R H w r x (y + 1) ((wr.drewN q).setCell ⟨w.heap.size, y, none⟩ (.int .i64 ((k x + 1 : Nat) : Int)))) := fun hR hk q => by
                obtain ⟨hBq, k', hq', _⟩ := HtS.drewN (m := m) (R := R) (H := H) (r := r) (x := x) (y := y) ⟨hB, k, hrow, hx0⟩ q
                have hq : (wr.drewN q).ownsRow w.heap.size 3 1 (.slice (some ⟨w.heap.size, 0, none⟩) m m) m (cellsK k m) := by
                  clear hq' hBq
                  induction q with
                  | zero => exact hrow
                  | succ q iq => exact iq.drew
                have hS := (hq.stored y (.int .i64 ((k x + 1 : Nat) : Int))).1
                rw [cellsK_set] at hS
                exact ⟨hBq.setCell (Nat.le_refl _) _, _, hS, hx0.turn hup'.out hlx hly hR hk⟩
              clear hI hB hrow hx0
              generalize hkX : k x = a at *
              generalize hkY : k y = b at *
              clear hkX hkY
              cases hRb : R x y with
              | false =>
                rw [hRb] at d3
                have hQ := hide' (hkeep.out (fun e => by rw [hRb] at e; cases e))
                clear hkeep hturn hRb
                go_wp2
                go_quiet (fail)
                go_wp2
                exact ⟨⟨y + 1, by omega, by go_num, hQ.out _⟩, by simp [intOf]; omega⟩
              | true =>
                rw [hRb] at d3
                by_cases hab : b < a + 1
                · have hab' : (b : Int) < ((a + 1 : Nat) : Int) := by omega
                  have hQ := hide' (hturn.out hRb hab)
                  clear hkeep hturn hRb
                  go_wp2
                  go_quiet (fail)
                  go_wp2
                  exact ⟨⟨y + 1, by omega, by go_num, hQ.out nq⟩, by simp [intOf]; omega⟩
                · have hab' : ¬ (b : Int) < ((a + 1 : Nat) : Int) := by omega
                  have hQ := hide' (hkeep.out (fun _ => hab))
                  clear hkeep hturn hRb
                  go_wp2
                  go_quiet (fail)
                  go_wp2
                  exact ⟨⟨y + 1, by omega, by go_num, hQ.out _⟩, by simp [intOf]; omega⟩
            · obtain rfl : y = m := by omega
              have hI' := hide' hI.out.row
              clear hI
              go_wp2
              exact ⟨⟨x + 1, by omega, by go_num, hI'⟩, by simp [intOf]; omega⟩
        · obtain rfl : x = m := by omega
          have hI' : Hid (HtS x R H w (r + 1) 0 0 wr) := by
            obtain ⟨h1, k, h2, h3⟩ := hI.out
            exact ⟨h1, k, h2, h3.round hfrom'.out⟩
          clear hI
          go_wp2
          exact ⟨⟨r + 1, by omega, by go_num, hI'⟩, by simp [intOf]; omega⟩
    · obtain rfl : r = m := by omega
      have hI' : Hid (wr.ownsRow w.heap.size 3 1 (.slice (some ⟨w.heap.size, 0, none⟩) r r) r (cellsK H r) ∧ Below w.heap.size w wr) := by
        obtain ⟨h1, k, h2, h3⟩ := hI.out
        refine ⟨?_, h1⟩
        have e : cellsK H r = cellsK k r := by
          unfold cellsK
          apply List.map_congr_left
          intro i hi
          rw [h3.done hlt'.out i (List.mem_range.1 hi)]
        rw [e]; exact h2
      clear hI
      go_wp2
      go_ret
      exact ⟨_, _, rfl, hI'.out.1, hI'.out.2⟩
end
end Go.Proofs.YtbpojobmenagkaaDoor

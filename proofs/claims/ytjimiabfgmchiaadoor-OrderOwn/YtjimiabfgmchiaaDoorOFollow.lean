/- follow: of what a pair leads to, what rows of pairs lead to. -/
import Derived.Test.YtjimiabfgmchiaaDoorOFn
import Derived.Test.YtjimiabfgmchiaaDoorOWords
namespace Go.Proofs.YtjimiabfgmchiaaDoor
open Go.RowKit Go.Shelf
/-- What stands while the rows are followed. -/
structure FolI (w : World) (go gs n B : Nat) (F : Nat → Nat) (W : World) : Prop where
  hd : W.cell? ⟨go, 1, none⟩ = some (.slice (some ⟨gs, 0, none⟩) n n)
  row : W.ownsRow B 65 1 (.slice (some ⟨gs, 0, none⟩) n n) n (words n F)
  gr : w.grownBy W (some gs)
section
variable {w : World} {go gs n B : Nat} {F G : Nat → Nat} {W W' : World}
theorem FolI.lt (h : FolI w go gs n B F W) : go < W.heap.size := cell_lt h.hd
theorem FolI.over (h : FolI w go gs n B F W) (hb : Below W.heap.size W W') : FolI w go gs n B F W' :=
  ⟨cell_over h.hd hb, h.row.kept (grown_below (none) hb) (.inr (by simp [Value.ownBlock])), grown_trans h.gr (grown_below _ hb)⟩
theorem FolI.congr (h : FolI w go gs n B F W) (e : ∀ i, i < n → F i = G i) : FolI w go gs n B G W := ⟨h.hd, words_congr e ▸ h.row, h.gr⟩
theorem FolI.at (h : FolI w go gs n B F W) {i : Nat} (hi : i < n) : W.cell? ⟨gs, i, none⟩ = some (.int .u64 (F i : Int)) := by
  rw [h.row.cellAt i (by omega)]; exact words_at F hi
theorem FolI.frz (h : FolI w go gs n B F W) (i : Nat) : W.frozen? ⟨gs, i, none⟩ = false := h.row.frozenAt i
theorem FolI.set (h : FolI w go gs n B F W) (hne : go ≠ gs) {a v : Nat} (ha : G a = v) (e : ∀ i, i < n → i ≠ a → F i = G i) : FolI w go gs n B G (W.setCell ⟨gs, a, none⟩ (.int .u64 (v : Int))) := by
  obtain ⟨h1, h2⟩ := h.row.stored a (.int .u64 (v : Int))
  exact ⟨grown_cell h.hd h2 h.lt hne, words_set ha e ▸ h1, grown_trans h.gr h2⟩
end
theorem keepF {W w1 : World} {b0 i0 b1 i1 b2 i2 : Nat} {u0 u1 u2 : Value} (h : W.cell? ⟨b0, i0, none⟩ = some u0 ∧ W.cell? ⟨b1, i1, none⟩ = some u1 ∧ W.cell? ⟨b2, i2, none⟩ = some u2) (hb : Below W.heap.size W w1) :
    w1.cell? ⟨b0, i0, none⟩ = some u0 ∧ w1.cell? ⟨b1, i1, none⟩ = some u1 ∧ w1.cell? ⟨b2, i2, none⟩ = some u2 := ⟨cell_over h.1 hb, cell_over h.2.1 hb, cell_over h.2.2 hb⟩
theorem keepS {V : World} {go gs a k b v y : Nat} {u0 u1 : Value} (hne : go ≠ gs) (hb : b ≠ gs) (hv : a = k → v = y) (h : V.cell? ⟨go, 1, none⟩ = some u0 ∧ V.cell? ⟨b, 0, none⟩ = some u1 ∧ V.cell? ⟨gs, k, none⟩ = some (.int .u64 (y : Int))) :
    (V.setCell ⟨gs, a, none⟩ (.int .u64 (v : Int))).cell? ⟨go, 1, none⟩ = some u0 ∧ (V.setCell ⟨gs, a, none⟩ (.int .u64 (v : Int))).cell? ⟨b, 0, none⟩ = some u1 ∧ (V.setCell ⟨gs, a, none⟩ (.int .u64 (v : Int))).cell? ⟨gs, k, none⟩ = some (.int .u64 (y : Int)) := by
  refine ⟨?_, ?_, ?_⟩
  · rw [World.cell?_setCell_other _ _ _ _ (by intro e; injection e with e1; exact hne e1.symm)]; exact h.1
  · rw [World.cell?_setCell_other _ _ _ _ (by intro e; injection e with e1; exact hb e1.symm)]; exact h.2.1
  · by_cases e : a = k
    · subst e; rw [World.cell?_setCell_same _ _ _ h.2.2, hv rfl]
    · rw [World.cell?_setCell_other _ _ _ _ (by intro e'; injection e' with _ e2; exact e e2)]; exact h.2.2
set_option maxRecDepth 100000 in
set_option maxHeartbeats 1000000 in
theorem followP (w : World) (go gs n B : Nat) (F : Nat → Nat) (hn : n ≤ 64) (hne : go ≠ gs) (hF : ∀ i, i < n → F i < 18446744073709551616) (h0 : FolI w go gs n B F w) :
    Calls Tryd.prog 22 #[.pointer (some ⟨go, 0, none⟩)] w fun e w' => (∃ v, e = .returned v) ∧ FolI w go gs n B (wclo n F) w' := by
  have hd0 := h0.hd
  go_enter Tryd.func22, Tryd.ntmps22
  go_wp2
  go_loopw [10] (fun p wr => ∃ k : Nat, k ≤ n ∧ p = .int .i64 k ∧ FolI w go gs n B (wclo k F) wr) (fun p _ => ((n : Int) - intOf p).toNat)
  case atStart => exact ⟨0, Nat.zero_le _, rfl, h0⟩
  case round =>
    clear h0 hd0
    obtain ⟨k, hk, rfl, hI⟩ := hrel
    by_cases hlt : k < n
    · have hb64 := wclo_lt hF k hk
      have hcl : Hid (wturn k (wclo k F) = wclo (k + 1) F) := rfl
      generalize wclo k F = S at *
      have hd1 := hI.hd
      go_wp2
      go_loopw [18] (fun p wv => ∃ a : Nat, a ≤ n ∧ p = .int .i64 a ∧ FolI w go gs n B (wmid k a S) wv) (fun p _ => ((n : Int) - intOf p).toNat)
      case atStart => exact ⟨0, Nat.zero_le _, rfl, hI.congr fun i _ => (wmid_zero k S i).symm⟩
      case round =>
        clear hI hd1
        obtain ⟨a, ha, rfl, hJ⟩ := hrel
        by_cases hla : a < n
        · have c1 := hJ.hd
          have c2 := hJ.at hla
          rw [wmid_here] at c2
          have hSa := hb64 a hla
          have hSk := hb64 k hlt
          have hJ1 := hJ.over ((Below.refl _ _).alloc (Nat.le_refl _) (.cells #[.int .u64 (S a : Int)] 65))
          have hHas : Hid (∀ W, Calls Tryd.prog 23 #[.agg #[.int .u64 (S a : Int)], .int .i64 k] W fun e w' => e = .returned (.bool ((S a).testBit k)) ∧ Below W.heap.size W w') := fun W => by
            have := has64 (S a) hSa (k : Int) W
            simpa using this
          by_cases ht : (S a).testBit k = true
          · rw [ht] at hHas
            have hgs : gs < wr.heap.size := cell_lt (hJ.at hla)
            have hak : Hid (a = k → S a ||| S k = S k) := fun e => by rw [e, Nat.or_self]
            have KO := hide' (or64 (S a) (S k) hSa hSk)
            have hend : Hid (∀ V, FolI w go gs n B (wmid k a S) V → FolI w go gs n B (wmid k (a + 1) S) (V.setCell ⟨gs, a, none⟩ (.int .u64 ((S a ||| S k : Nat) : Int)))) := fun V hV => hV.set hne (by rw [wmid_done]; unfold wturn; rw [if_pos ht]) fun i _ e => wmid_next S e
            have hmk : Hid (wmid k a S k = S k) := wmid_mid k a S
            have hma : Hid (wmid k a S a = S a) := wmid_here k a S
            have hJ1' := hide' hJ1
            clear hJ hJ1 ht hb64
            generalize hor : S a ||| S k = z at *
            clear hor
            generalize S a = x at *
            generalize S k = y at *
            go_wp2_with (go_at_call 23; refine (hHas.out _).mono ?_; rintro e w2 ⟨rfl, hb2⟩; have hJ2 := hJ1'.out.over hb2; have z2 := hb2.size; have d1 := hJ2.hd; have d2 : w2.cell? ⟨wr.heap.size, 0, none⟩ = some (.int .u64 (x : Int)) := ((hb2.cell (p := ⟨wr.heap.size, 0, none⟩) (by simp)).trans (by simp)); have d3 := hJ2.at hlt; rw [hmk.out] at d3)
            have hI2 := hide' hJ2
            simp only [World.size_alloc] at z2
            clear hJ2 hb2 hJ1' c1 c2 hHas
            have hi0 : Hid (w2.drew.cell? ⟨go, 1, none⟩ = some (.slice (some ⟨gs, 0, none⟩) n n) ∧ w2.drew.cell? ⟨wr.heap.size, 0, none⟩ = some (.int .u64 (x : Int)) ∧ w2.drew.cell? ⟨gs, k, none⟩ = some (.int .u64 (y : Int))) := ⟨d1, d2, d3⟩
            go_region_held3 (fun V => V.cell? ⟨go, 1, none⟩ = some (.slice (some ⟨gs, 0, none⟩) n n) ∧ V.cell? ⟨wr.heap.size, 0, none⟩ = some (.int .u64 (x : Int)) ∧ V.cell? ⟨gs, k, none⟩ = some (.int .u64 (y : Int))) (first | (exact keepS hne (by omega) hak.out (by assumption)) | (exact keepF (by assumption) hb3) | (exact hi0.out)) (first | (go_at_call 20; refine (KO.out _).mono ?_; rintro e w3 ⟨rfl, hb3⟩; have hI3 := hide' ((hI2.out.over (Below.refl _ w2).drew).over hb3); have c3 := hI3.out.at hla; rw [hma.out] at c3; have f3 := hI3.out.frz a))
            go_wp2
            go_roundw
            case rel => exact ⟨a + 1, by omega, by go_num, hend.out _ hI3.out⟩
            case measure => simp [intOf]; omega
          · have hf : (S a).testBit k = false := by simpa using ht
            rw [hf] at hHas
            have hJ2 : Hid _ := (hJ1.congr (G := wmid k (a + 1) S) fun i _ => by
              by_cases e : i = a
              · subst e; rw [wmid_here, wmid_done]; unfold wturn; rw [if_neg ht]
              · exact wmid_next S e)
            clear hJ hJ1 ht hf
            go_wp2_with (go_at_call 23; refine (hHas.out _).mono ?_; rintro e w2 ⟨rfl, hb2⟩)
            go_roundw
            case rel => exact ⟨a + 1, by omega, by go_num, hJ2.out.over hb2⟩
            case measure => simp [intOf]; omega
        · obtain rfl : a = n := by omega
          go_wp2
          go_roundw
          case rel => exact ⟨k + 1, by omega, by go_num, hJ.congr fun i hi => by rw [wmid_end S hi, hcl.out]⟩
          case measure => simp [intOf]; omega
    · obtain rfl : k = n := by omega
      go_wp2
      go_end0
      exact ⟨⟨_, rfl⟩, hI⟩
end Go.Proofs.YtjimiabfgmchiaaDoor

/- part.Search where keep is nil: all of it. -/
import Derived.Test.YtomjcimibpcpbaaPSrch
namespace Go.Proofs.Ytomjcimibpcpbaa
open Go.RowKit
set_option maxRecDepth 100000 in
set_option maxHeartbeats 1000000 in
theorem fillF (W0 : World) (a n most : Nat) (hn : n ≤ 12) (hmo : most ≤ 65536) : ∀ (d p bl : Nat), p + d = n → bl ≤ p → ∀ (W : World) (tag : Nat → Nat) (k : Nat) (ov : Value) (vs : List Value) (rows : Nat → List Int), Sx W0 W a n most tag k ov vs rows → k < most →
    Calls Try.prog 41 #[.int .i64 (p : Int), .int .i64 (bl : Int), .pointer (some ⟨a, 0, none⟩), .pointer (some ⟨a + 5, 0, none⟩), .pointer (some ⟨a + 4, 0, none⟩), .pointer (some ⟨a + 1, 0, none⟩), .pointer (some ⟨a + 6, 0, none⟩), .pointer (some ⟨a + 7, 0, none⟩)] W fun e w' => e = .returned (.tuple #[]) ∧ Hid (Sk W0 w' a n most) := by
  intro d
  induction d with
  | zero =>
    intro p bl hp hbl W tag k ov vs rows h hk
    obtain rfl : p = n := by omega
    exact fillEnd W0 a p most hn hmo bl W tag k ov vs rows h hk
  | succ d ih =>
    intro p bl hp hbl W tag k ov vs rows h hk
    have ih' := hide' ih
    have h0 : Hid (Sk W0 W a n most) := ⟨tag, k, ov, vs, rows, h, by omega⟩
    have cn := cell_blk h.bn
    have hpn : ((p : Int) == (n : Int)) = false := by simp; omega
    have hpl : (p : Int) < (n : Int) := by omega
    clear h hk ih
    go_enter Try.func41, Try.ntmps41
    go_wp2
    clear cn
    go_loopw [10] (fun v wr => ∃ c : Nat, c ≤ bl + 1 ∧ v = .int .i64 c ∧ Hid (Sk W0 wr a n most)) (fun v _ => ((bl : Int) + 1 - intOf v).toNat)
    case atStart => exact ⟨0, by omega, rfl, h0⟩
    case round =>
      clear h0
      obtain ⟨c, hc, rfl, hS⟩ := hrel
      obtain ⟨tag, k, ov, vs, rows, h, hk⟩ := hS.out
      have ct := cell_blk h.bt
      have cm := cell_blk h.bm
      obtain ⟨og, cg, rfl⟩ := K.own_shape h.told.outer
      by_cases hcb : c ≤ bl
      · have hcbI : (c : Int) ≤ (bl : Int) := by omega
        by_cases hkm : k < most
        · have hkmI : (k : Int) < (most : Int) := by omega
          have cr := cell_blk h.br
          obtain ⟨xs, hrow⟩ := h.row
          have hxl : xs.length = n := by have := hrow.1; simp [cellsI] at this; omega
          obtain ⟨x, hx⟩ : ∃ x, xs[p]? = some x := ⟨_, List.getElem?_eq_getElem (by omega)⟩
          have cx : wr.cell? ⟨a + 3, p, none⟩ = some (.int .i64 x) := by
            rw [hrow.cellAt p (by omega)]
            simp [cellsI, hx]
          have fx := hrow.frozenAt p
          have hp1 := hide' (h.put p (c : Int))
          have cf := cell_blk hp1.out.bf
          have cg1 := cell_blk hp1.out.bg
          unfold keptV at cf
          unfold fillV at cg1
          have KK := hide' (keptF a ((p : Int) + 1) _ (cell_blk hp1.out.bk))
          have KF1 : Hid (∀ V, Below (wr.setCell ⟨a + 3, p, none⟩ (.int .i64 (c : Int))).heap.size (wr.setCell ⟨a + 3, p, none⟩ (.int .i64 (c : Int))) V → Calls Try.prog 41 #[.int .i64 ((p : Int) + 1), .int .i64 ((c : Int) + 1), .pointer (some ⟨a, 0, none⟩), .pointer (some ⟨a + 5, 0, none⟩), .pointer (some ⟨a + 4, 0, none⟩), .pointer (some ⟨a + 1, 0, none⟩), .pointer (some ⟨a + 6, 0, none⟩), .pointer (some ⟨a + 7, 0, none⟩)] V fun e w' => e = .returned (.tuple #[]) ∧ Hid (Sk W0 w' a n most)) := fun V hV => by
            have := ih'.out (p + 1) (c + 1) (by omega) (by omega) V tag k _ vs rows (hp1.out.below hV) hkm
            rw [show ((p + 1 : Nat) : Int) = (p : Int) + 1 by omega, show ((c + 1 : Nat) : Int) = (c : Int) + 1 by omega] at this
            exact this
          have KF2 : Hid (∀ V, Below (wr.setCell ⟨a + 3, p, none⟩ (.int .i64 (c : Int))).heap.size (wr.setCell ⟨a + 3, p, none⟩ (.int .i64 (c : Int))) V → Calls Try.prog 41 #[.int .i64 ((p : Int) + 1), .int .i64 ((bl : Int)), .pointer (some ⟨a, 0, none⟩), .pointer (some ⟨a + 5, 0, none⟩), .pointer (some ⟨a + 4, 0, none⟩), .pointer (some ⟨a + 1, 0, none⟩), .pointer (some ⟨a + 6, 0, none⟩), .pointer (some ⟨a + 7, 0, none⟩)] V fun e w' => e = .returned (.tuple #[]) ∧ Hid (Sk W0 w' a n most)) := fun V hV => by
            have := ih'.out (p + 1) (bl) (by omega) (by omega) V tag k _ vs rows (hp1.out.below hV) hkm
            rw [show ((p + 1 : Nat) : Int) = (p : Int) + 1 by omega] at this
            exact this
          have hgV : Hid (∀ V, Below (wr.setCell ⟨a + 3, p, none⟩ (.int .i64 (c : Int))).heap.size (wr.setCell ⟨a + 3, p, none⟩ (.int .i64 (c : Int))) V → V.cell? ⟨a + 7, 0, none⟩ = some (fillV a)) := fun V hV => cell_blk (hp1.out.below hV).bg
          clear hrow hx h hS ih'
          by_cases hmx : (bl : Int) < (c : Int) + 1
          · have hmd : decide ((bl : Int) < (c : Int) + 1) = true := decide_eq_true hmx
            clear KF2
            go_wp2_with (first | (go_at_call 40; refine KK.out.mono ?_; rintro e w3 ⟨rfl, hb3⟩; have cg3 := hgV.out _ hb3; unfold fillV at cg3))
            all_goals
              refine (KF1.out _ hb3).mono ?_
              rintro e w4 ⟨rfl, hS4⟩
              clear KF1 KK hgV hb3 cg3
              go_wp2
              exact ⟨⟨c + 1, by omega, by go_num, hS4⟩, by simp [intOf]; omega⟩
          · have hmd : decide ((bl : Int) < (c : Int) + 1) = false := decide_eq_false hmx
            clear KF1
            go_wp2_with (first | (go_at_call 40; refine KK.out.mono ?_; rintro e w3 ⟨rfl, hb3⟩; have cg3 := hgV.out _ hb3; unfold fillV at cg3))
            all_goals
              refine (KF2.out _ hb3).mono ?_
              rintro e w4 ⟨rfl, hS4⟩
              clear KF2 KK hgV hb3 cg3
              go_wp2
              exact ⟨⟨c + 1, by omega, by go_num, hS4⟩, by simp [intOf]; omega⟩
        · have hkmI : ¬ (k : Int) < (most : Int) := by omega
          have hkd : decide ((k : Int) < (most : Int)) = false := decide_eq_false hkmI
          clear h ih'
          go_wp2
          first | go_end0 | refine bodyPost_ret (results_none rfl _ _ _) rfl ?_
          exact ⟨rfl, hS⟩
      · have hcbI : ¬ (c : Int) ≤ (bl : Int) := by omega
        have hcd : decide ((c : Int) ≤ (bl : Int)) = false := decide_eq_false hcbI
        clear h ih'
        go_wp2
        first | go_end0 | refine bodyPost_ret (results_none rfl _ _ _) rfl ?_
        exact ⟨rfl, hS⟩
end Go.Proofs.Ytomjcimibpcpbaa

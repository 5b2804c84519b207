/- part.Search with the law's keep: its recursion. -/
import Derived.Test.YtlffhpggfhpgnaaQFill
import Derived.Test.YtlffhpggfhpgnaaQGo
namespace Go.Proofs.Ytlffhpggfhpgnaa
open Go.RowKit
theorem sr_ask {K : List Nat → Bool} {most d : Nat} {a : List Nat} {s : SS} {FA : List (List Nat)} {c : Nat} (hc : c ≤ blks 0 a) (hp : ((List.range (blks 0 a + 1)).foldl (srStep K most (srS K most d) a) s).1 <+: FA) : (srStep K most (srS K most d) a ((List.range c).foldl (srStep K most (srS K most d) a) s) c).1 <+: FA := by
  obtain ⟨k, hk⟩ : ∃ k, blks 0 a + 1 = (c + 1) + k := ⟨blks 0 a - c, by omega⟩
  rw [hk, List.range_add, List.foldl_append, List.range_succ, List.foldl_append] at hp
  exact List.IsPrefix.trans (sr_fold_mono K most d a _ _) hp
theorem take_put {xs : List Int} {p : List Nat} {c n : Nat} (hx : xs.length = n) (hp : p.length < n) (h : xs.take p.length = ints p) : (xs.set p.length (c : Int)).take (p ++ [c]).length = ints (p ++ [c]) := by
  rw [List.length_append, List.length_singleton, List.take_add_one, List.getElem?_set_self (by omega), ints_snoc, ← h, List.take_set_of_le (Nat.le_refl _)]
  rfl
theorem Sk.cut {W1 W : World} {kv : Value} {a n most : Nat} {p : List Nat} {c : Nat} {s : SS} (h : Sk W1 W kv a n most (p ++ [c]) s) : Sk W1 W kv a n most p s := by
  obtain ⟨tag, ov, vs, xs, h1, h2⟩ := h
  refine ⟨tag, ov, vs, xs, h1, ?_⟩
  have h3 : (xs.take (p ++ [c]).length).take p.length = (ints (p ++ [c])).take p.length := by rw [h2]
  rw [List.take_take, ints_snoc, List.length_append, List.length_singleton, Nat.min_eq_left (by omega), List.take_left' (by rw [ints_len])] at h3
  exact h3
set_option maxRecDepth 100000 in
set_option maxHeartbeats 2000000 in
theorem fillQ (W1 : World) (bs tp tb : Nat) (nn mm mo ba : Int) (of : Option Addr) (cf : Nat) (av : Value) (F : List Int) (A FA : List (List Nat)) (hE : Ev W1 bs tp tb nn mm mo ba (.slice of F.length cf) av F A) (hAF : A = FA.take 3000) (hFA : FA.length ≤ 100000) (a n most : Nat) (hn : n ≤ 12) (hmo : most ≤ 65536) : ∀ (d : Nat) (p : List Nat), p.length + d = n → Leg 0 p → ∀ (W : World) (s : SS), s.2.length < most → Sk W1 W (keepV bs tp W1) a n most p s → (srS (keptP F mo ba) most d p s).1 <+: FA →
    Calls Try.prog 14 #[.int .i64 (p.length : Int), .int .i64 (blks 0 p : Int), .pointer (some ⟨a, 0, none⟩), .pointer (some ⟨a + 5, 0, none⟩), .pointer (some ⟨a + 4, 0, none⟩), .pointer (some ⟨a + 1, 0, none⟩), .pointer (some ⟨a + 6, 0, none⟩), .pointer (some ⟨a + 7, 0, none⟩)] W fun e w' => e = .returned (.tuple #[]) ∧ Hid (Sk W1 w' (keepV bs tp W1) a n most p (srS (keptP F mo ba) most d p s)) := by
  intro d
  induction d with
  | zero =>
    intro p hp _ W s hs h0 _
    have := fillEnd W1 (keepV bs tp W1) a n most hn hmo (blks 0 p : Int) p (by omega) W s hs h0
    rw [show (p.length : Int) = (n : Int) by omega]
    exact this
  | succ d ih =>
    intro p hp hL W s hs h0' hpre
    have ih' := hide' ih
    have h0 := hide' h0'
    obtain ⟨tag0, ov0, vs0, xs0, hx0, _⟩ := h0'
    have cn := cell_blk hx0.bn
    have hb := blks_leg hL
    have hpn : ((p.length : Int) == (n : Int)) = false := by simp; omega
    have hpl : (p.length : Int) < (n : Int) := by omega
    have hpl' : p.length < n := by omega
    have hpre' : Hid (((List.range (blks 0 p + 1)).foldl (srStep (keptP F mo ba) most (srS (keptP F mo ba) most d) p) s).1 <+: FA) := hpre
    have hD := hide' (show srS (keptP F mo ba) most (d + 1) p s = (List.range (blks 0 p + 1)).foldl (srStep (keptP F mo ba) most (srS (keptP F mo ba) most d) p) s from rfl)
    have hp' := hide' hp
    have hL' := hide' hL
    have hE' := hide' hE
    have hAF' := hide' hAF
    clear hx0 hs ih hpre hp hL hE hAF
    go_enter Try.func14, Try.ntmps14
    go_wp2
    clear cn
    go_loopw [10] (fun v wr => ∃ c : Nat, c ≤ blks 0 p + 1 ∧ v = .int .i64 c ∧ Hid (Sk W1 wr (keepV bs tp W1) a n most p ((List.range c).foldl (srStep (keptP F mo ba) most (srS (keptP F mo ba) most d) p) s))) (fun v _ => ((blks 0 p : Int) + 1 - intOf v).toNat)
    case atStart => exact ⟨0, by omega, rfl, h0⟩
    case round =>
      clear h0
      obtain ⟨c, hc, rfl, hS⟩ := hrel
      have hST := hide' (show (List.range (c + 1)).foldl (srStep (keptP F mo ba) most (srS (keptP F mo ba) most d) p) s = srStep (keptP F mo ba) most (srS (keptP F mo ba) most d) p ((List.range c).foldl (srStep (keptP F mo ba) most (srS (keptP F mo ba) most d) p) s) c by rw [List.range_succ, List.foldl_append]; rfl)
      have hSP := hide' (fun hx => fold_stop (f := srStep (keptP F mo ba) most (srS (keptP F mo ba) most d) p) (s := s) (m := blks 0 p + 1) hc (fun l => sr_full l hx))
      have hAK : Hid (c ≤ blks 0 p → (srStep (keptP F mo ba) most (srS (keptP F mo ba) most d) p ((List.range c).foldl (srStep (keptP F mo ba) most (srS (keptP F mo ba) most d) p) s) c).1 <+: FA) := fun h => sr_ask h hpre'.out
      generalize hr : (List.range c).foldl (srStep (keptP F mo ba) most (srS (keptP F mo ba) most d) p) s = r at *
      obtain ⟨tag, ov, vs, xs, h, htk⟩ := hS.out
      have ct := cell_blk h.bt
      have cm := cell_blk h.bm
      obtain ⟨og, cg, rfl⟩ := K.own_shape h.told.outer
      by_cases hcb : c ≤ blks 0 p
      · have hcbI : (c : Int) ≤ (blks 0 p : Int) := by omega
        by_cases hkm : r.2.length < most
        · have hkmI : (r.2.length : Int) < (most : Int) := by omega
          have cr := cell_blk h.br
          have hxl : xs.length = n := by have := h.row.1; simp [cellsI] at this; omega
          obtain ⟨x, hx⟩ : ∃ x, xs[p.length]? = some x := ⟨_, List.getElem?_eq_getElem (by omega)⟩
          have cx : wr.cell? ⟨a + 3, p.length, none⟩ = some (.int .i64 x) := by
            rw [h.row.cellAt p.length (by omega)]
            simp [cellsI, hx]
          have fx := h.row.frozenAt p.length
          have hp1 := hide' (h.put p.length (c : Int))
          have htk1 := hide' (take_put (c := c) hxl hpl' htk)
          have cf1 := cell_blk hp1.out.bf
          unfold keptV at cf1
          have hstep := hAK.out hcb
          have hal1 : (p ++ [c]).length = p.length + 1 := by simp
          have hask1 : r.1 ++ [p ++ [c]] <+: FA := by
            unfold srStep at hstep
            rw [if_neg (by omega)] at hstep
            split at hstep
            · exact List.IsPrefix.trans (sr_mono _ _ d _ (r.1 ++ [p ++ [c]], r.2)) hstep
            · exact hstep
          have hrl : r.1.length ≤ 100000 := by
            have := hask1.length_le
            rw [List.length_append, List.length_singleton] at this
            omega
          have hLc := hide' (leg_snoc hL'.out hcb)
          have hbs := blks_snoc p c
          have hqb : ∀ y ∈ p ++ [c], y ≤ 25 := fun y hy => by have h1 := lt_blks (b := 0) hy; omega
          have KK := hide' (keptQ W1 bs tp tb nn mm mo ba of cf av F A hE'.out (by rw [hAF'.out, List.length_take]; omega) a n most hn (p ++ [c]) (by omega) (by omega) hqb _ tag _ vs _ r hrl hp1.out htk1.out (fun hh => ask_at hAF'.out hask1 hh))
          rw [hal1, show ((p.length + 1 : Nat) : Int) = (p.length : Int) + 1 by omega] at KK
          have hGS : Hid (∀ b, (decide (r.1.length + 1 ≤ 3000) && keptP F mo ba (p ++ [c])) = b → srStep (keptP F mo ba) most (srS (keptP F mo ba) most d) p r c = if b then srS (keptP F mo ba) most d (p ++ [c]) (r.1 ++ [p ++ [c]], r.2) else (r.1 ++ [p ++ [c]], r.2)) := fun b hb => by
            unfold srStep
            rw [if_neg (by omega), hb]
          have hgV : Hid (∀ V s', Sx W1 V (keepV bs tp W1) a n most tag (.slice og r.2.length cg) vs (xs.set p.length (c : Int)) s' → V.cell? ⟨a + 7, 0, none⟩ = some (fillV a)) := fun V s' hV => cell_blk hV.bg
          have hmx : (max (blks 0 p : Int) ((c : Int) + 1)) = ((blks 0 (p ++ [c]) : Nat) : Int) := by rw [hbs]; omega
          cases hb1 : (decide (r.1.length + 1 ≤ 3000) && keptP F mo ba (p ++ [c]))
          · rw [hb1] at KK
            clear hx h hS ih' hSP hr hask1 hstep hqb hAK hmx hbs
            go_wp2_with (first | (go_at_call 13; refine KK.out.mono ?_; rintro e w3 ⟨rfl, hX3⟩))
            exact ⟨⟨c + 1, by omega, by go_num, by show Sk _ _ _ _ _ _ _ _; rw [hST.out, hGS.out _ hb1]; exact Sk.cut ⟨_, _, _, _, hX3.out, htk1.out⟩⟩, by simp [intOf]; omega⟩
          · rw [hb1] at KK
            have hpr2 : Hid ((srS (keptP F mo ba) most d (p ++ [c]) (r.1 ++ [p ++ [c]], r.2)).1 <+: FA) := by
              have h1 := hGS.out true hb1
              rw [if_pos rfl] at h1
              rw [← h1]; exact hstep
            have KF : Hid (∀ V, Sx W1 V (keepV bs tp W1) a n most tag (.slice og r.2.length cg) vs (xs.set p.length (c : Int)) (r.1 ++ [p ++ [c]], r.2) → Calls Try.prog 14 #[.int .i64 ((p.length : Int) + 1), .int .i64 (blks 0 (p ++ [c]) : Int), .pointer (some ⟨a, 0, none⟩), .pointer (some ⟨a + 5, 0, none⟩), .pointer (some ⟨a + 4, 0, none⟩), .pointer (some ⟨a + 1, 0, none⟩), .pointer (some ⟨a + 6, 0, none⟩), .pointer (some ⟨a + 7, 0, none⟩)] V fun e w' => e = .returned (.tuple #[]) ∧ Hid (Sk W1 w' (keepV bs tp W1) a n most (p ++ [c]) (srS (keptP F mo ba) most d (p ++ [c]) (r.1 ++ [p ++ [c]], r.2)))) := fun V hV => by
              have := ih'.out (p ++ [c]) (by rw [hal1]; have := hp'.out; omega) hLc.out V (r.1 ++ [p ++ [c]], r.2) hkm ⟨_, _, _, _, hV, htk1.out⟩ hpr2.out
              rw [hal1, show ((p.length + 1 : Nat) : Int) = (p.length : Int) + 1 by omega] at this
              exact this
            clear hx h hS ih' hSP hr hask1 hstep hqb hAK
            by_cases hmx2 : (blks 0 p : Int) < (c : Int) + 1
            · have hmd : decide ((blks 0 p : Int) < (c : Int) + 1) = true := decide_eq_true hmx2
              have hbe : ((blks 0 (p ++ [c]) : Nat) : Int) = (c : Int) + 1 := by rw [hbs]; omega
              rw [hbe] at KF
              clear hmx hbs hbe
              go_wp2_with (first | (go_at_call 13; refine KK.out.mono ?_; rintro e w3 ⟨rfl, hX3⟩; have cg3 := hgV.out _ _ hX3.out; unfold fillV at cg3))
              all_goals
                refine (KF.out _ hX3.out).mono ?_
                rintro e w4 ⟨rfl, hS4⟩
                clear KF KK hgV cg3
                go_wp2
                exact ⟨⟨c + 1, by omega, by go_num, by show Sk _ _ _ _ _ _ _ _; rw [hST.out, hGS.out _ hb1]; exact hS4.out.cut⟩, by simp [intOf]; omega⟩
            · have hmd : decide ((blks 0 p : Int) < (c : Int) + 1) = false := decide_eq_false hmx2
              have hbe : ((blks 0 (p ++ [c]) : Nat) : Int) = (blks 0 p : Int) := by rw [hbs]; omega
              rw [hbe] at KF
              clear hmx hbs hbe
              go_wp2_with (first | (go_at_call 13; refine KK.out.mono ?_; rintro e w3 ⟨rfl, hX3⟩; have cg3 := hgV.out _ _ hX3.out; unfold fillV at cg3))
              all_goals
                refine (KF.out _ hX3.out).mono ?_
                rintro e w4 ⟨rfl, hS4⟩
                clear KF KK hgV cg3
                go_wp2
                exact ⟨⟨c + 1, by omega, by go_num, by show Sk _ _ _ _ _ _ _ _; rw [hST.out, hGS.out _ hb1]; exact hS4.out.cut⟩, by simp [intOf]; omega⟩
        · have hkmI : ¬ (r.2.length : Int) < (most : Int) := by omega
          have hkd : decide ((r.2.length : Int) < (most : Int)) = false := decide_eq_false hkmI
          have hEq := hide' (hSP.out (by omega))
          clear h ih' hSP hr
          go_wp2
          first | go_end0 | refine bodyPost_ret (results_none rfl _ _ _) rfl ?_
          exact ⟨rfl, by show Sk _ _ _ _ _ _ _ _; rw [hD.out, hEq.out]; exact hS⟩
      · have hcbI : ¬ (c : Int) ≤ (blks 0 p : Int) := by omega
        have hcd : decide ((c : Int) ≤ (blks 0 p : Int)) = false := decide_eq_false hcbI
        obtain rfl : c = blks 0 p + 1 := by omega
        clear h ih' hSP
        go_wp2
        first | go_end0 | refine bodyPost_ret (results_none rfl _ _ _) rfl ?_
        exact ⟨rfl, by show Sk _ _ _ _ _ _ _ _; rw [hD.out, hr]; exact hS⟩
end Go.Proofs.Ytlffhpggfhpgnaa

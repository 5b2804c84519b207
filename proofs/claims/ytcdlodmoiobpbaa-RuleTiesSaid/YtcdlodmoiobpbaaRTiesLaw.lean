/- RuleTies: it returns true. -/
import Derived.Test.YtcdlodmoiobpbaaRDClash
namespace Go.Proofs.Ytcdlodmoiobpbaa
open Go.RowKit
set_option maxRecDepth 100000 in
set_option maxHeartbeats 8000000 in
theorem ruleTies_walk (n : Int) (L0 : List Rl) (or : Option Addr) (cr : Nat) (oB : Option Addr) (lB cB : Nat) (on : Option Addr) (ln cn : Nat) (w : World) (hr : RowR w (.slice or L0.length cr) L0) :
    Calls Try.prog 3 #[.agg #[.int .i64 n, .slice or L0.length cr, .slice oB lB cB, .slice on ln cn]] w fun e w' => e = .returned (.bool true) ∧ Below w.heap.size w w' := by
  have hB : Hid (Below w.heap.size w (w.alloc (.cells #[.int .i64 n, .slice or L0.length cr, .slice oB lB cB, .slice on ln cn] 26))) := (Below.refl _ w).alloc (Nat.le_refl _) _
  have hbox : Hid (∀ V, Below (w.alloc (.cells #[.int .i64 n, .slice or L0.length cr, .slice oB lB cB, .slice on ln cn] 26)).heap.size (w.alloc (.cells #[.int .i64 n, .slice or L0.length cr, .slice oB lB cB, .slice on ln cn] 26)) V → V.cell? ⟨w.heap.size, 0, none⟩ = some (.int .i64 n)) := fun V hV => by
    have e : V.heap[w.heap.size]? = some (.cells #[.int .i64 n, .slice or L0.length cr, .slice oB lB cB, .slice on ln cn] 26) := by
      rw [hV.block _ (by simp)]
      exact heap_new w _
    simp [World.cell?, e]
  have K1 := hide' (twinR L0 _ _ (hr.below hB.out (Nat.le_refl _)))
  have K9 := hide' wakesR
  clear hr
  go_enter Try.func3, Try.ntmps3
  go_wp2_with fail
  refine K1.out.mono ?_
  rintro e w1 ⟨ol, cl, rfl, hr1, hb1⟩
  have hx : Hid (∀ V, Below w1.heap.size w1 V → V.cell? ⟨w.heap.size, 0, none⟩ = some (.int .i64 n)) := fun V hV => hbox.out V (hb1.trans (hV.mono hb1.size))
  have hB1 : Hid (Below w.heap.size w w1) := hB.out.trans (hb1.mono hB.out.size)
  have hTw := twin_twin L0
  have hlen := twin_len L0
  have hst : ∀ r ∈ twin L0, r.steps.length ≤ 1000 := fun r h => by have := twin_steps h; omega
  clear K1 hb1 hB hbox
  generalize twin L0 = L at *
  have KW : Hid (∀ V, Below w1.heap.size w1 V → Calls Try.prog 4 #[.slice ol L.length cl] V fun e w' => ∃ o1 k1, e = .returned (.slice o1 L.length k1) ∧ Hid (RowR w' (.slice o1 L.length k1) L) ∧ Below V.heap.size V w') := fun V hV => by
    have := twinR L _ V (hr1.below hV (Nat.le_refl _))
    rwa [hTw] at this
  have KR : Hid (∀ V, Below w1.heap.size w1 V → Calls Try.prog 7 #[.int .i64 n, .slice ol L.length cl] V fun e w' => e = .returned (.bool (rgt n L)) ∧ Below V.heap.size V w') := fun V hV => rRight n L _ V (hr1.below hV (Nat.le_refl _)) (by omega) hst
  have hd : Hid (Below w1.heap.size w1 w1.drew) := (Below.refl _ _).drew
  cases hg : rgt n L with
  | false =>
    rw [hg] at KR
    have KT : Hid (∀ V o1 k1, RowR V (.slice o1 L.length k1) L → Calls Try.prog 5 #[.int .i64 n, .slice o1 L.length k1] V fun e w' => e = .returned (.tuple #[.slice none 0 0, .int .i64 1]) ∧ Below V.heap.size V w') := fun V o1 k1 h => tiesN n L _ V h (by omega) hst hg
    have KF : Hid (∀ V o1 k1, RowR V (.slice o1 L.length k1) L → Calls Try.prog 6 #[.int .i64 n, .slice o1 L.length k1] V fun e w' => e = .returned (.tuple #[.slice none 0 0, .int .i64 1]) ∧ Below V.heap.size V w') := fun V o1 k1 h => foesN n L _ V h (by omega) hst hg
    have KC : Hid (∀ V o1 k1, RowR V (.slice o1 L.length k1) L → Calls Try.prog 8 #[.int .i64 n, .slice o1 L.length k1] V fun e w' => e = .returned (.bool false) ∧ Below V.heap.size V w') := fun V o1 k1 h => clashN n L _ V h (by omega) hst hg
    clear hr1 hTw hst hg
    generalize RowR = RR at *
    generalize L.length = q at *
    go_wp2_with fail
    go_region_held3 (fun V => V.cell? ⟨w.heap.size, 0, none⟩ = some (.int .i64 n)) (first | (exact hx.out _ hd.out) | (exact hx.out _ h2.out) | (exact hx.out _ h3.out)) (first | (go_at_call 4; refine (KW.out _ hd.out).mono ?_; rintro e w2 ⟨o1, k1, rfl, hr2, hb⟩; have h2 : Hid (Below w1.heap.size w1 w2) := hd.out.trans hb; clear hb) | (go_at_call 5; refine (KT.out _ _ _ hr2.out).mono ?_; rintro e w3 ⟨rfl, hb⟩; have h3 : Hid (Below w1.heap.size w1 w3) := h2.out.trans (hb.mono h2.out.size); clear hb))
    have hd3 : Hid (Below w1.heap.size w1 w3.drew) := h3.out.drew
    clear hr2 KT h2 hd
    go_upto_region 3 with fail
    go_region_held3 (fun V => V.cell? ⟨w.heap.size, 0, none⟩ = some (.int .i64 n)) (first | (exact hx.out _ hd3.out) | (exact hx.out _ h4.out) | (exact hx.out _ h5.out)) (first | (go_at_call 4; refine (KW.out _ hd3.out).mono ?_; rintro e w4 ⟨o4, k4, rfl, hr4, hb⟩; have h4 : Hid (Below w1.heap.size w1 w4) := hd3.out.trans (hb.mono hd3.out.size); clear hb) | (go_at_call 6; refine (KF.out _ _ _ hr4.out).mono ?_; rintro e w5 ⟨rfl, hb⟩; have h5 : Hid (Below w1.heap.size w1 w5) := h4.out.trans (hb.mono h4.out.size); clear hb))
    clear hr4 KF hd3 h3 h4
    have x5 := hx.out _ h5.out
    go_upto_region 5 with (go_at_call 7; refine (KR.out _ h5.out).mono ?_; rintro e w6 ⟨rfl, hb⟩; have h6 : Hid (Below w1.heap.size w1 w6) := h5.out.trans (hb.mono h5.out.size); clear hb)
    have hd6 : Hid (Below w1.heap.size w1 w6.drew) := h6.out.drew
    clear KR h5 x5
    go_region_held3 (fun V => V.cell? ⟨w.heap.size, 0, none⟩ = some (.int .i64 n)) (first | (exact hx.out _ hd6.out) | (exact hx.out _ h7.out) | (exact hx.out _ h8.out) | (exact hx.out _ h9.out)) (first | (go_at_call 4; refine (KW.out _ hd6.out).mono ?_; rintro e w7 ⟨o7, k7, rfl, hr7, hb⟩; have h7 : Hid (Below w1.heap.size w1 w7) := hd6.out.trans (hb.mono hd6.out.size); clear hb) | (go_at_call 8; refine (KC.out _ _ _ hr7.out).mono ?_; rintro e w8 ⟨rfl, hb⟩; have h8 : Hid (Below w1.heap.size w1 w8) := h7.out.trans (hb.mono h7.out.size); clear hb) | (go_at_call 9; refine (K9.out _).mono ?_; rintro e w9 ⟨rfl, hb⟩; have h9 : Hid (Below w1.heap.size w1 w9) := h8.out.trans (hb.mono h8.out.size); clear hb))
    clear KW KC K9
    go_wp2
    go_ret
    exact ⟨rfl, hB1.out.trans (h9.out.mono hB1.out.size)⟩
  | true =>
    rw [hg] at KR
    obtain ⟨m, rfl, hm12, _⟩ := rgt_nat hg
    have hal : (tie m L).length = m := tieC_len _ _ _
    have KT : Hid (∀ V o1 k1, RowR V (.slice o1 L.length k1) L → Calls Try.prog 5 #[.int .i64 (m : Int), .slice o1 L.length k1] V fun e w' => ∃ o2 c2, e = .returned (.tuple #[.slice o2 m c2, .int .i64 0]) ∧ Hid (RowI w' (.slice o2 m c2) (ints (tie m L))) ∧ Below V.heap.size V w') := fun V o1 k1 h => tiesF m L _ V h (by omega) hst m rfl hg
    have KF : Hid (∀ V o1 k1, RowR V (.slice o1 L.length k1) L → Calls Try.prog 6 #[.int .i64 (m : Int), .slice o1 L.length k1] V fun e w' => ∃ g, e = .returned (.tuple #[.slice (some ⟨g, 0, none⟩) m m, .int .i64 0]) ∧ Hid (RowU w' g m (foe m L)) ∧ Below V.heap.size V w') := fun V o1 k1 h => foesF L _ V h (by omega) hst m hg
    have KC : Hid (∀ V o1 k1, RowR V (.slice o1 L.length k1) L → Calls Try.prog 8 #[.int .i64 (m : Int), .slice o1 L.length k1] V fun e w' => e = .returned (.bool (clash m L)) ∧ Below V.heap.size V w') := fun V o1 k1 h => clashF L _ V h (by omega) hst m hg
    have QT : Hid (∀ V, Below w1.heap.size w1 V → Calls Try.prog 11 #[.int .i64 (m : Int), .slice ol L.length cl] V fun e w' => ∃ g, e = .returned (.slice (some ⟨g, 0, none⟩) m m) ∧ Hid (RowI w' (.slice (some ⟨g, 0, none⟩) m m) (ints (tie m L))) ∧ Hid (Below V.heap.size V w')) := fun V hV => rTies L _ V (hr1.below hV (Nat.le_refl _)) (by omega) m hg
    have QF : Hid (∀ V, Below w1.heap.size w1 V → Calls Try.prog 13 #[.int .i64 (m : Int), .slice ol L.length cl] V fun e w' => ∃ g, e = .returned (.slice (some ⟨g, 0, none⟩) m m) ∧ Hid (RowU w' g m (foe m L)) ∧ Hid (Below V.heap.size V w')) := fun V hV => rFoes L _ V (hr1.below hV (Nat.le_refl _)) (by omega) hst m hg
    have QC : Hid (∀ V, Below w1.heap.size w1 V → Calls Try.prog 14 #[.int .i64 (m : Int), .slice ol L.length cl] V fun e w' => e = .returned (.bool (clash m L)) ∧ Below V.heap.size V w') := fun V hV => rClash L _ V (hr1.below hV (Nat.le_refl _)) (by omega) hst m hg
    have KI : Hid (∀ V o2 c2 g, RowI V (.slice o2 m c2) (ints (tie m L)) → RowI V (.slice (some ⟨g, 0, none⟩) m m) (ints (tie m L)) → Calls Try.prog 10 #[.slice o2 m c2, .slice (some ⟨g, 0, none⟩) m m] V fun e w' => e = .returned (.bool true) ∧ Below V.heap.size V w') := fun V o2 c2 g h1 h2 => by
      have := keepInts _ _ _ _ V h1 h2 (by rw [ints_len, hal]; omega) (by rw [ints_len, hal]; omega)
      rwa [decide_eq_true rfl] at this
    have KU : Hid (∀ V g1 g2, RowU V g1 m (foe m L) → RowU V g2 m (foe m L) → Calls Try.prog 12 #[.slice (some ⟨g1, 0, none⟩) m m, .slice (some ⟨g2, 0, none⟩) m m] V fun e w' => e = .returned (.bool true) ∧ Below V.heap.size V w') := fun V g1 g2 h1 h2 => keepRowsT g1 g2 m _ V h1 h2 (by omega)
    have RIb : Hid (∀ V V' o2 c2, RowI V (.slice o2 m c2) (ints (tie m L)) → Below V.heap.size V V' → RowI V' (.slice o2 m c2) (ints (tie m L))) := fun V V' o2 c2 h hb => h.below hb (Nat.le_refl _)
    have RUb : Hid (∀ V V' g, RowU V g m (foe m L) → Below V.heap.size V V' → RowU V' g m (foe m L)) := fun V V' g h hb => h.below hb
    clear hr1 hTw hst hg hal
    generalize RowR = RR at *
    generalize RowI = RI at *
    generalize RowU = RU at *
    generalize L.length = q at *
    generalize clash m L = bC at *
    generalize foe m L = FO at *
    generalize ints (tie m L) = TI at *
    go_wp2_with fail
    go_region_held3 (fun V => V.cell? ⟨w.heap.size, 0, none⟩ = some (.int .i64 (m : Int))) (first | (exact hx.out _ hd.out) | (exact hx.out _ h2.out) | (exact hx.out _ h3.out)) (first | (go_at_call 4; refine (KW.out _ hd.out).mono ?_; rintro e w2 ⟨o1, k1, rfl, hr2, hb⟩; have h2 : Hid (Below w1.heap.size w1 w2) := hd.out.trans hb; clear hb) | (go_at_call 5; refine (KT.out _ _ _ hr2.out).mono ?_; rintro e w3 ⟨oT, cT, rfl, hrT, hb⟩; have h3 : Hid (Below w1.heap.size w1 w3) := h2.out.trans (hb.mono h2.out.size); clear hb))
    have hd3 : Hid (Below w1.heap.size w1 w3.drew) := h3.out.drew
    have hs3 : Hid (Below w3.heap.size w3 w3.drew) := (Below.refl _ _).drew
    clear hr2 KT h2 hd
    go_upto_region 3 with fail
    go_region_held3 (fun V => V.cell? ⟨w.heap.size, 0, none⟩ = some (.int .i64 (m : Int))) (first | (exact hx.out _ hd3.out) | (exact hx.out _ h4.out) | (exact hx.out _ h5.out)) (first | (go_at_call 4; refine (KW.out _ hd3.out).mono ?_; rintro e w4 ⟨o4, k4, rfl, hr4, hb⟩; have h4 : Hid (Below w1.heap.size w1 w4) := hd3.out.trans (hb.mono hd3.out.size); have hs4 : Hid (Below w3.heap.size w3 w4) := hs3.out.trans (hb.mono hs3.out.size); clear hb) | (go_at_call 6; refine (KF.out _ _ _ hr4.out).mono ?_; rintro e w5 ⟨gF, rfl, hrF, hb⟩; have h5 : Hid (Below w1.heap.size w1 w5) := h4.out.trans (hb.mono h4.out.size); have hs5 : Hid (Below w3.heap.size w3 w5) := hs4.out.trans (hb.mono hs4.out.size); clear hb))
    clear hr4 KF hd3 h3 h4 hs3 hs4
    have x5 := hx.out _ h5.out
    go_upto_region 6 with (go_at_call 7; refine (KR.out _ h5.out).mono ?_; rintro e w6 ⟨rfl, hb⟩; have h6 : Hid (Below w1.heap.size w1 w6) := h5.out.trans (hb.mono h5.out.size); have hs6 : Hid (Below w3.heap.size w3 w6) := hs5.out.trans (hb.mono hs5.out.size); have hf6 := hide' hb; clear hb)
    have hd6 : Hid (Below w1.heap.size w1 w6.drew) := h6.out.drew
    have rT := hide' (RIb.out _ _ _ _ hrT.out hs6.out.drew)
    have rF := hide' (RUb.out _ _ _ hrF.out hf6.out.drew)
    clear KR h5 x5 hs5 hs6 hf6 hrT hrF h6
    go_region_held3 (fun V => V.cell? ⟨w.heap.size, 0, none⟩ = some (.int .i64 (m : Int))) (first | (exact hx.out _ hd6.out) | (exact hx.out _ h7.out) | (exact hx.out _ h8.out) | (exact hx.out _ h9.out) | (exact hx.out _ h10.out) | (exact hx.out _ h11.out) | (exact hx.out _ h12.out) | (exact hx.out _ h13.out) | (exact hx.out _ h14.out)) (first | (go_at_call 11; refine (QT.out _ hd6.out).mono ?_; rintro e w7 ⟨gT, rfl, hr7, hb⟩; have h7 : Hid (Below w1.heap.size w1 w7) := hd6.out.trans (hb.out.mono hd6.out.size); have rT7 := hide' (RIb.out _ _ _ _ rT.out hb.out); have rF7 := hide' (RUb.out _ _ _ rF.out hb.out); clear hb) | (go_at_call 10; refine (KI.out _ _ _ _ rT7.out hr7.out).mono ?_; rintro e w8 ⟨rfl, hb⟩; have h8 : Hid (Below w1.heap.size w1 w8) := h7.out.trans (hb.mono h7.out.size); have rF8 := hide' (RUb.out _ _ _ rF7.out hb); clear hb) | (go_at_call 13; refine (QF.out _ h8.out).mono ?_; rintro e w9 ⟨gU, rfl, hr9, hb⟩; have h9 : Hid (Below w1.heap.size w1 w9) := h8.out.trans (hb.out.mono h8.out.size); have rF9 := hide' (RUb.out _ _ _ rF8.out hb.out); clear hb) | (go_at_call 12; refine (KU.out _ _ _ rF9.out hr9.out).mono ?_; rintro e w10 ⟨rfl, hb⟩; have h10 : Hid (Below w1.heap.size w1 w10) := h9.out.trans (hb.mono h9.out.size); clear hb) | (go_at_call 4; refine (KW.out _ h10.out).mono ?_; rintro e w11 ⟨o11, k11, rfl, hr11, hb⟩; have h11 : Hid (Below w1.heap.size w1 w11) := h10.out.trans (hb.mono h10.out.size); clear hb) | (go_at_call 8; refine (KC.out _ _ _ hr11.out).mono ?_; rintro e w12 ⟨rfl, hb⟩; have h12 : Hid (Below w1.heap.size w1 w12) := h11.out.trans (hb.mono h11.out.size); clear hb) | (go_at_call 14; refine (QC.out _ h12.out).mono ?_; rintro e w13 ⟨rfl, hb⟩; have h13 : Hid (Below w1.heap.size w1 w13) := h12.out.trans (hb.mono h12.out.size); clear hb) | (go_at_call 9; refine (K9.out _).mono ?_; rintro e w14 ⟨rfl, hb⟩; have h14 : Hid (Below w1.heap.size w1 w14) := h13.out.trans (hb.mono h13.out.size); clear hb))
    all_goals
      go_wp2
      go_ret
      exact ⟨rfl, hB1.out.trans (h14.out.mono hB1.out.size)⟩
end Go.Proofs.Ytcdlodmoiobpbaa

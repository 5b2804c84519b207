/- SolveLeast, walked. -/
import Derived.Test.YtmcnnfldobfddaaGreatDoorJ02
import Derived.Test.YtmcnnfldobfddaaGreatDoorJ26
import Derived.Test.YtmcnnfldobfddaaGreatDoorJ36
namespace Go.Proofs.YtmcnnfldobfddaaGreatDoor.S
open Go.RowKit Go.Shelf
set_option maxRecDepth 100000 in
set_option maxHeartbeats 16000000 in
theorem solveLeast_walk (P : Pb) (wv fv rv : Value) (w : World) (h : PbV w P wv fv rv) (hb : ∀ z ∈ P.who, z < 18446744073709551616) (ht : M.Tab w) :
    Calls Tryz.prog 3 #[pbV P wv fv rv] w fun e w' => e = .returned (.bool true) ∧ Below w.heap.size w w' := by
  have hB0 : Hid (Below w.heap.size w (w.alloc (.cells #[.int .i64 P.users, wv, fv, rv] 26))) := (Below.refl _ w).alloc (Nat.le_refl _) _
  have K0 := hide' (cutC P wv fv rv _ (h.below hB0.out))
  have hk := hide' (cutP_ok hb)
  have ht' := hide' ht
  have hGw := ht.2
  have hQb : Hid (∀ V (a b c : Value), PbV V (cutP P) a b c → Calls Tryz.prog 8 #[pbV (cutP P) a b c] V fun e w' => ∃ va vb vc, e = .returned (pbV (cutP P) va vb vc) ∧ Hid (PbV w' (cutP P) va vb vc) ∧ Hid (Below V.heap.size V w') ∧ Hid (∀ ad n c, va = .slice (some ad) n c → V.heap.size ≤ ad.block ∧ ad.block < w'.heap.size)) := fun V a b c hq => cutD P a b c V hq
  have hQl : Hid ((cutP P).who.length ≤ 20) := by show (P.who.take 20).length ≤ 20; rw [List.length_take]; omega
  clear h ht hb
  unfold pbV at K0 hQb ⊢
  generalize cutP P = Q at *
  go_enter Tryz.func3, Tryz.ntmps3
  go_wp2_with fail
  refine K0.out.mono ?_
  rintro e w1 ⟨qw, qf, qr, rfl, hq1, hb1, ho1⟩
  have hB1 : Hid (Below w.heap.size w w1) := hB0.out.trans (hb1.out.mono hB0.out.size)
  obtain ⟨ow, cw, of, cf, or, cr, rfl, rfl, rfl⟩ := hq1.out.shape
  have hs0 := hB0.out.size
  clear hb1 hB0 K0
  go_wp2_with fail
  refine (newF _).mono ?_
  rintro e w3 ⟨rfl, hg3, hb3⟩
  have hS := hide' (SvS.start hB1.out hq1.out ht'.out hg3.out hb3.out)
  have hz : (w1.alloc (.cells #[.int .i64 Q.users, .slice ow Q.who.length cw, .slice of Q.fixed.length cf, .slice or Q.rules.length cr] 26)).heap.size = w1.heap.size + 1 := by simp
  have hne : Hid (∀ ad n c, Value.slice ow Q.who.length cw = .slice (some ad) n c → ad.block ≠ (w1.alloc (.cells #[.int .i64 Q.users, .slice ow Q.who.length cw, .slice of Q.fixed.length cf, .slice or Q.rules.length cr] 26)).heap.size) := fun ad n c e => by have := (ho1.out ad n c e).2; omega
  have hgp : Hid (w1.heap.size ≠ (w1.alloc (.cells #[.int .i64 Q.users, .slice ow Q.who.length cw, .slice of Q.fixed.length cf, .slice or Q.rules.length cr] 26)).heap.size) := by show _ ≠ _; omega
  have hgs : Hid (w.heap.size ≤ (w1.alloc (.cells #[.int .i64 Q.users, .slice ow Q.who.length cw, .slice of Q.fixed.length cf, .slice or Q.rules.length cr] 26)).heap.size) := by have := hB1.out.size; show _ ≤ _; omega
  clear hg3 hb3 hq1 ho1 hs0 hz hB1 ht'
  generalize (w1.alloc (.cells #[.int .i64 Q.users, .slice ow Q.who.length cw, .slice of Q.fixed.length cf, .slice or Q.rules.length cr] 26)).heap.size = gs at *
  generalize w1.heap.size = g at *
  have hG : Hid (1 ≤ gs) := Nat.le_trans hGw hgs.out
  have K1 : Hid (∀ V a b c, SvS w Q (.slice ow Q.who.length cw) (.slice of Q.fixed.length cf) (.slice or Q.rules.length cr) g gs a b c V → Calls Tryz.prog 8 #[.agg #[.int .i64 Q.users, .slice ow Q.who.length cw, .slice of Q.fixed.length cf, .slice or Q.rules.length cr]] V fun e w' => ∃ va vb vc, e = .returned (.agg #[.int .i64 Q.users, va, vb, vc]) ∧ Hid (PbV w' Q va vb vc) ∧ Hid (Below V.heap.size V w') ∧ Hid (∀ ad n c, va = .slice (some ad) n c → V.heap.size ≤ ad.block ∧ ad.block < w'.heap.size)) := fun V a b c hV => hQb.out V _ _ _ hV.pv
  have K7 : Hid (∀ V, SvS w Q (.slice ow Q.who.length cw) (.slice of Q.fixed.length cf) (.slice or Q.rules.length cr) g gs 0 0 0 V → Calls Tryz.prog 10 #[] V fun e w' => e = .returned (.bool true) ∧ Below V.heap.size V w') := fun V hV => wakesF V hV.tab
  have K8 : Hid (∀ V va vb vc, SvS w Q (.slice ow Q.who.length cw) (.slice of Q.fixed.length cf) (.slice or Q.rules.length cr) g gs 0 0 0 V → PbV V Q va vb vc → (∀ ad n c, va = .slice (some ad) n c → ad.block ≠ gs) → Calls Tryz.prog 11 #[.pointer (some ⟨gs, 0, none⟩), .agg #[.int .i64 Q.users, va, vb, vc]] V (LeP V Q gs 0 0 0)) := fun V va vb vc hV hq hn => leastPF Q va vb vc gs 0 0 0 V hq hk.out hV.gg hG.out hV.tab hn (by decide) (by decide) (by decide)
  have KD : Hid (∀ V a b c, SvS w Q (.slice ow Q.who.length cw) (.slice of Q.fixed.length cf) (.slice or Q.rules.length cr) g gs a b c V → Calls Tryz.prog 12 #[.agg #[.int .i64 Q.users, .slice ow Q.who.length cw, .slice of Q.fixed.length cf, .slice or Q.rules.length cr]] V fun e w' => ∃ o n c t, e = .returned (.tuple #[.slice o n c, .bool t]) ∧ Hid (LdQ V Q (.slice o n c) t w') ∧ Below V.heap.size V w') := fun V a b c hV => leastDF Q _ _ _ V hV.pv hk.out hV.tab
  have K6 : Hid (∀ V a b c va vb vc, SvS w Q (.slice ow Q.who.length cw) (.slice of Q.fixed.length cf) (.slice or Q.rules.length cr) g gs a b c V → PbV V Q va vb vc → a ≤ 200000000000000 → b ≤ 200000000000000 → c ≤ 200000000000000 → Calls Tryz.prog 14 #[.pointer (some ⟨gs, 0, none⟩), .agg #[.int .i64 Q.users, va, vb, vc]] V (CaP V Q gs a b c)) := fun V a b c va vb vc hV hq h1 h2 h3 => canF Q va vb vc gs a b c V hq hk.out hV.gg hG.out hV.tab (by omega) (by omega) (by omega)
  clear hk hQb
  go_wp2_with fail
  refine (K7.out _ hS.out).mono ?_
  rintro e w4 ⟨rfl, hb4⟩
  have hS4 := hide' (hS.out.over hb4)
  have hgl : Hid (gs < w4.heap.size) := hS4.out.gg.lt
  clear hb4 hS K7
  have q := hS4.out.pb.all
  go_wp2_with fail
  refine (K1.out _ _ _ _ hS4.out).mono ?_
  rintro e w5 ⟨va, vb, vc, rfl, hq5, hb5, ho5⟩
  have hS5 := hide' (hS4.out.over hb5.out)
  have hn5 : Hid (∀ ad n c, va = .slice (some ad) n c → ad.block ≠ gs) := fun ad n c e => by have := (ho5.out ad n c e).1; have := hgl.out; omega
  clear q hb5 ho5 hS4
  go_wp2_with fail
  refine (K8.out _ _ _ _ hS5.out hq5.out hn5.out).mono ?_
  intro e w6 hLe
  obtain ⟨⟨a6, b6, c6, hg6, hgc⟩, hf6, hor⟩ := hLe
  have hle := hgc.out.le (by decide)
  have hS6 := hide' (hS5.out.fr hf6.out hg6.out hgs.out hne.out hgp.out hG.out)
  obtain ⟨ov, nv, cv, tv, L, rfl, hls, hL20, hLn, hrow⟩ : ∃ (ov : Option Addr) (nv cv : Nat) (tv : Bool) (L : List Int), e = .returned (.tuple #[.slice ov nv cv, .bool tv]) ∧ Hid (LsP Q (if tv = true then some L else none)) ∧ L.length ≤ 20 ∧ Hid (tv = false → L = []) ∧ Hid (RowI w6 (.slice ov nv cv) L) := by
    rcases hor with ⟨rfl, hl⟩ | ⟨v, l, rfl, hl, ho⟩
    · exact ⟨none, 0, 0, false, [], rfl, hl.out, Nat.zero_le _, fun _ => rfl, none, 0, rfl, ⟨Nat.le_refl _, fun _ => rfl⟩, fun i z hz => by cases hz⟩
    · obtain ⟨o, c, rfl⟩ := own_shp ho.out
      exact ⟨o, _, c, true, l, rfl, hl.out, by rw [(holP_of hl.out.1).2.1]; exact hQl.out, fun h => (by cases h), RowI.of_owns ho.out⟩
  have hcan : Hid (canB Q = tv) := by
    have h1 := hls.out
    show _ = _
    cases tv with
    | true => exact (canB_iff Q).2 ⟨L, h1.1⟩
    | false =>
      cases hc : canB Q with
      | false => rfl
      | true => obtain ⟨M', hM'⟩ := (canB_iff Q).1 hc; rw [h1 M'] at hM'; cases hM'
  clear hor hS5 hf6 hg6 hq5 hn5 hgc K8
  have q := hS6.out.pb.all
  go_wp2_with fail
  refine (KD.out _ _ _ _ hS6.out).mono ?_
  rintro e w7 ⟨od, nd, cd, td, rfl, hQ, hb7⟩
  obtain ⟨hte, hrd⟩ : td = tv ∧ RowI w7 (.slice od nd cd) L := by
    rcases hQ.out with ⟨rfl, hv, hn⟩ | ⟨rfl, l, hl, ho⟩
    · have e1 := LsP.one hls.out hn
      cases tv with
      | true => cases e1
      | false =>
        injection hv with e2 e3 e4
        subst e2 e3 e4
        rw [hLn.out rfl]
        exact ⟨rfl, none, 0, rfl, ⟨Nat.le_refl _, fun _ => rfl⟩, fun i z hz => by cases hz⟩
    · have e1 := LsP.one hls.out hl
      cases tv with
      | false => cases e1
      | true =>
        cases e1
        exact ⟨rfl, RowI.of_owns ho⟩
  subst hte
  have hS7 := hide' (hS6.out.over hb7)
  have KI := hide' (keepInts L L (.slice ov nv cv) (.slice od nd cd) w7 (hrow.out.below hb7 (Nat.le_refl _)) hrd (by omega) (by omega))
  rw [decide_eq_true rfl] at KI
  clear q hQ hb7 hrow hrd hS6 KD hls hLn
  have K6' : Hid (∀ V a b c va vb vc, SvS w Q (.slice ow Q.who.length cw) (.slice of Q.fixed.length cf) (.slice or Q.rules.length cr) g gs a b c V → PbV V Q va vb vc → a ≤ 200000000000000 → b ≤ 200000000000000 → c ≤ 200000000000000 → Calls Tryz.prog 14 #[.pointer (some ⟨gs, 0, none⟩), .agg #[.int .i64 Q.users, va, vb, vc]] V fun e w' => e = .returned (.bool td) ∧ Below w.heap.size w w') := fun V a b c va vb vc hV hq h1 h2 h3 => by
    refine (K6.out V a b c va vb vc hV hq h1 h2 h3).mono ?_
    rintro e w' ⟨rfl, a', b', c', hg, _, hf⟩
    exact ⟨by rw [hcan.out], (hV.fr hf.out hg.out hgs.out hne.out hgp.out hG.out).be⟩
  clear K6 hcan
  cases td
  all_goals
    go_wp2_with fail
    refine KI.out.mono ?_
    rintro e w8 ⟨rfl, hb8⟩
    have hS8 := hide' (hS7.out.over hb8)
    clear KI hS7 hb8
    have q := hS8.out.pb.all
    go_wp2_with fail
    refine (K1.out _ _ _ _ hS8.out).mono ?_
    rintro e w9 ⟨va, vb, vc, rfl, hq9, hb9, ho9⟩
    have hS9 := hide' (hS8.out.over hb9.out)
    have KC := hide' (K6'.out _ _ _ _ va vb vc hS9.out hq9.out (by omega) (by omega) (by omega))
    obtain ⟨o1, c1, o2, c2, o3, c3, rfl, rfl, rfl⟩ := hq9.out.shape
    clear q hS8 hb9 ho9 hq9 hS9 K6' K1
    go_wp2_with fail
    refine KC.out.mono ?_
    rintro e w10 ⟨rfl, hB⟩
    have hB' := hide' hB
    clear hB KC
    go_wp2
    go_ret
    exact ⟨rfl, hB'.out⟩
end Go.Proofs.YtmcnnfldobfddaaGreatDoor.S

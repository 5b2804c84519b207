/- Read, walked. -/
import Derived.Test.YtfajgbdnfphajaaZdE
namespace Go.Proofs.Ytfajgbdnfphajaa.S
open Go.RowKit Go.Shelf
theorem rd_bad {L : List Nat} {e : Nat} (h : rdN L = e) (h0 : e ≠ 0) : rdN L = e ∧ rdP L = ⟨0, [], [], []⟩ ∧ rdL L = [] := by
  refine ⟨h, ?_, ?_⟩
  · unfold rdP; rw [if_neg (by rw [h]; exact h0)]
  · unfold rdL; rw [if_neg (by rw [h]; exact h0)]
set_option maxRecDepth 100000 in
set_option maxHeartbeats 8000000 in
theorem readF (L : List Nat) (oa : Option Addr) (cap : Nat) (w : World) (h : RowB w (.slice oa L.length cap) L) (hb : ∀ b ∈ L, b < 256) (hcap : L.length ≤ cap) (hlow : ∀ ad, oa = some ad → ad.block < w.heap.size) (hl : L.length ≤ 100000) :
    Calls Try.prog 5 #[.slice oa L.length cap] w (ReP w L) := by
  have hbA : Below w.heap.size w (w.alloc (.cells #[.int .i64 0, .slice none 0 0, .slice none 0 0, .slice none 0 0] 27)) := (Below.refl _ w).alloc (Nat.le_refl _) _
  have hbB := (Below.refl _ (w.alloc (.cells #[.int .i64 0, .slice none 0 0, .slice none 0 0, .slice none 0 0] 27))).alloc (Nat.le_refl _) (.cells #[.slice oa L.length cap, .bool false] 45)
  have hzA : (w.alloc (.cells #[.int .i64 0, .slice none 0 0, .slice none 0 0, .slice none 0 0] 27)).heap.size = w.heap.size + 1 := by simp
  have hzB : ((w.alloc (.cells #[.int .i64 0, .slice none 0 0, .slice none 0 0, .slice none 0 0] 27)).alloc (.cells #[.slice oa L.length cap, .bool false] 45)).heap.size = w.heap.size + 2 := by simp
  have hq0 : QAt (w.alloc (.cells #[.int .i64 0, .slice none 0 0, .slice none 0 0, .slice none 0 0] 27)) w.heap.size 0 (.slice none 0 0) (.slice none 0 0) (.slice none 0 0) := QAt.block (heap_new w _)
  rw [hzA] at hbB
  have hq1 := hide' (hq0.of (hbB.block w.heap.size (Nat.lt_succ_self _)))
  have hw1 : Hid (Below w.heap.size w ((w.alloc (.cells #[.int .i64 0, .slice none 0 0, .slice none 0 0, .slice none 0 0] 27)).alloc (.cells #[.slice oa L.length cap, .bool false] 45))) := hbA.trans (hbB.mono (Nat.le_succ _))
  have hrd : Hid (Rd (w.heap.size + 2) ((w.alloc (.cells #[.int .i64 0, .slice none 0 0, .slice none 0 0, .slice none 0 0] 27)).alloc (.cells #[.slice oa L.length cap, .bool false] 45)) (w.heap.size + 1) (.slice oa L.length cap) (L, false)) := by
    refine ⟨?_, h.below hw1.out (Nat.le_refl _), hb, fun a n c e => by cases e; exact hcap, fun ad n c e => by cases e; have := hlow ad rfl; omega, by omega⟩
    have hr := World.rowIs_alloc (w.alloc (.cells #[.int .i64 0, .slice none 0 0, .slice none 0 0, .slice none 0 0] 27)) #[.slice oa L.length cap, .bool false] 45 (rdF (.slice oa L.length cap) false) fun i hi => by
      have hi : i < 2 := hi
      rcases (show i = 0 ∨ i = 1 by omega) with rfl | rfl <;> rfl
    rw [hzA] at hr
    exact hr
  have hok := hide' (rcP_ok (s := (L, false)) hb)
  have hlL := hide' (rcL_len (s := (L, false)) hb)
  clear h hb hcap hlow hbA hbB hq0
  go_enter Try.func5, Try.ntmps5
  go_wp2_with fail
  clear hzA
  generalize (w.alloc (.cells #[.int .i64 0, .slice none 0 0, .slice none 0 0, .slice none 0 0] 27)).alloc (.cells #[.slice oa L.length cap, .bool false] 45) = w1 at *
  refine (readCF (w.heap.size + 2) (w.heap.size + 1) _ (L, false) w1 hrd.out (by omega) hl).mono ?_
  rintro e w2 ⟨va, vb, vc, vp, v2, E, rfl, hrows, hrd2, hfr⟩
  have hsz2 : w.heap.size + 2 ≤ w2.heap.size := by have := hfr.out.size; omega
  have hR2 : Hid (Re w (rcP (L, false)) w2.heap.size va vb vc vp (rcL (L, false)) E (w2.alloc (.cells #[.int .i64 (rcP (L, false)).users, va, vb, vc] 27))) := by
    obtain ⟨k1, k2, k3, k4, k5⟩ := hrows.out
    rw [hzB] at k1 k2 k3 k5
    have hbx : Below w2.heap.size w2 (w2.alloc (.cells #[.int .i64 (rcP (L, false)).users, va, vb, vc] 27)) := (Below.refl _ w2).alloc (Nat.le_refl _) _
    have hq2 := hq1.out.of (hfr.out.block w.heap.size hq1.out.lt (by omega))
    have hb2 : Below w.heap.size w w2 := hfr.out.new hw1.out (by omega) (by omega)
    exact ⟨hq2.of (hbx.block _ hq2.lt), heap_new w2 _, own_lowB k1 hbx, own_lowB k2 hbx, k3.below hbx (Nat.le_refl _), own_lowB k5 hbx, k4, hb2.trans (hbx.mono hb2.size)⟩
  have hrd3 := hide' (hrd2.out.over (((Below.refl _ w2).alloc (Nat.le_refl _) (.cells #[.int .i64 (rcP (L, false)).users, va, vb, vc] 27)).mono hsz2))
  obtain ⟨oA, nA, cA, rfl⟩ : ∃ a b c, va = .slice a b c := by obtain ⟨a, c, e⟩ := own_shp hR2.out.r1; exact ⟨a, _, c, e⟩
  obtain ⟨oB, nB, cB, rfl⟩ : ∃ a b c, vb = .slice a b c := by obtain ⟨a, c, e⟩ := own_shp hR2.out.r2; exact ⟨a, _, c, e⟩
  obtain ⟨oC, nC, cC, rfl⟩ : ∃ a b c, vc = .slice a b c := by obtain ⟨a, c, e⟩ := own_shp hR2.out.r3.row; exact ⟨a, _, c, e⟩
  obtain ⟨oP, nP, cP, rfl⟩ : ∃ a b c, vp = .slice a b c := by obtain ⟨a, c, e⟩ := own_shp hR2.out.rp; exact ⟨a, _, c, e⟩
  clear hrows hrd2 hfr hrd hw1 hq1 hzB
  go_upto_region 3 with fail
  have KF : Hid (∀ V, Re w (rcP (L, false)) w2.heap.size (.slice oA nA cA) (.slice oB nB cB) (.slice oC nC cC) (.slice oP nP cP) (rcL (L, false)) E V → Calls Try.prog 17 #[.agg #[.int .i64 (rcP (L, false)).users, .slice oA nA cA, .slice oB nB cB, .slice oC nC cC], .slice oP nP cP] V (FlP V (rcP (L, false)) (rcL (L, false)))) := fun V hV => flawsPF (rcP (L, false)) _ _ _ (rcL (L, false)) _ V hV.pv (RowI.of_owns hV.rp) hlL.out hok.out
  generalize w2.alloc (.cells #[.int .i64 (rcP (L, false)).users, .slice oA nA cA, .slice oB nB cB, .slice oC nC cC] 27) = w3 at *
  generalize w2.heap.size = gp at *
  have c1 := hrd3.out.c1
  have c0 := hrd3.out.c0
  obtain ⟨o2, n2, e2⟩ := hrd3.out.shp
  subst e2
  clear hok hlL hsz2
  have hFl : Hid (rdF_ L = (!(rcS (L, false)).2 && decide ((rcS (L, false)).1.length = 0))) := rfl
  have hR := hR2
  clear hR2
  by_cases hwr : (rcS (L, false)).2 = true
  · as_aux_lemma =>
    have hP : Hid (rdN L = 3 ∧ rdP L = ⟨0, [], [], []⟩ ∧ rdL L = []) := rd_bad (by unfold rdN; rw [if_neg (by rw [hFl.out, hwr]; simp)]) (by decide)
    rw [hwr] at c1
    have f0 := hR.out.z.frz 0
    have y0 := hR.out.z.c0
    have f1 := (hR.out.z.s0 0).frz 1
    have y1 := (hR.out.z.s0 0).c1
    have f2 := ((hR.out.z.s0 0).s1 (.slice none 0 0)).frz 2
    have y2 := ((hR.out.z.s0 0).s1 (.slice none 0 0)).c2
    have f3 := (((hR.out.z.s0 0).s1 (.slice none 0 0)).s2 (.slice none 0 0)).frz 3
    have y3 := (((hR.out.z.s0 0).s1 (.slice none 0 0)).s2 (.slice none 0 0)).c3
    have x0 := ((((hR.out.z.s0 0).s1 (.slice none 0 0)).s2 (.slice none 0 0)).s3 (.slice none 0 0)).c0
    have x1 := ((((hR.out.z.s0 0).s1 (.slice none 0 0)).s2 (.slice none 0 0)).s3 (.slice none 0 0)).c1
    have x2 := ((((hR.out.z.s0 0).s1 (.slice none 0 0)).s2 (.slice none 0 0)).s3 (.slice none 0 0)).c2
    have x3 := ((((hR.out.z.s0 0).s1 (.slice none 0 0)).s2 (.slice none 0 0)).s3 (.slice none 0 0)).c3
    have hF := hide' (hR.out.fin (.int .i64 0) (.slice none 0 0) (.slice none 0 0) (.slice none 0 0))
    clear KF hrd3 hFl hwr hR
    go_wp2
    refine bodyPost_ret (v := .tuple #[.agg #[.int .i64 0, .slice none 0 0, .slice none 0 0, .slice none 0 0], .slice none 0 0, .int .i64 3]) (by simp [results, Try.results5, go_sem, x0, x1, x2, x3]) rfl ?_
    unfold ReP
    rw [hP.out.1, hP.out.2.1, hP.out.2.2]
    exact ⟨_, _, _, _, rfl, nil_pv _, hF.out.2.2⟩
  · have hwr' : (rcS (L, false)).2 = false := by cases q : (rcS (L, false)).2; rfl; exact absurd q hwr
    rw [hwr'] at c1
    by_cases hln : (rcS (L, false)).1.length = 0
    case neg =>
      as_aux_lemma =>
      have hP : Hid (rdN L = 3 ∧ rdP L = ⟨0, [], [], []⟩ ∧ rdL L = []) := rd_bad (by unfold rdN; rw [if_neg (by rw [hFl.out, decide_eq_false hln]; simp)]) (by decide)
      have hln' : (0 : Int) < ((rcS (L, false)).1.length : Int) := by omega
      generalize (rcS (L, false)).1.length = nl at *
      have f0 := hR.out.z.frz 0
      have y0 := hR.out.z.c0
      have f1 := (hR.out.z.s0 0).frz 1
      have y1 := (hR.out.z.s0 0).c1
      have f2 := ((hR.out.z.s0 0).s1 (.slice none 0 0)).frz 2
      have y2 := ((hR.out.z.s0 0).s1 (.slice none 0 0)).c2
      have f3 := (((hR.out.z.s0 0).s1 (.slice none 0 0)).s2 (.slice none 0 0)).frz 3
      have y3 := (((hR.out.z.s0 0).s1 (.slice none 0 0)).s2 (.slice none 0 0)).c3
      have x0 := ((((hR.out.z.s0 0).s1 (.slice none 0 0)).s2 (.slice none 0 0)).s3 (.slice none 0 0)).c0
      have x1 := ((((hR.out.z.s0 0).s1 (.slice none 0 0)).s2 (.slice none 0 0)).s3 (.slice none 0 0)).c1
      have x2 := ((((hR.out.z.s0 0).s1 (.slice none 0 0)).s2 (.slice none 0 0)).s3 (.slice none 0 0)).c2
      have x3 := ((((hR.out.z.s0 0).s1 (.slice none 0 0)).s2 (.slice none 0 0)).s3 (.slice none 0 0)).c3
      have hF := hide' (hR.out.fin (.int .i64 0) (.slice none 0 0) (.slice none 0 0) (.slice none 0 0))
      clear KF hrd3 hFl hwr hwr' hR hln
      go_wp2
      refine bodyPost_ret (v := .tuple #[.agg #[.int .i64 0, .slice none 0 0, .slice none 0 0, .slice none 0 0], .slice none 0 0, .int .i64 3]) (by simp [results, Try.results5, go_sem, x0, x1, x2, x3]) rfl ?_
      unfold ReP
      rw [hP.out.1, hP.out.2.1, hP.out.2.2]
      exact ⟨_, _, _, _, rfl, nil_pv _, hF.out.2.2⟩
    case pos =>
      have hTr : rdF_ L = true := by rw [hFl.out, hwr', decide_eq_true hln]; rfl
      rw [hln] at c0
      have q0 := hR.out.pb.c0
      have q1 := hR.out.pb.c1
      have q2 := hR.out.pb.c2
      have q3 := hR.out.pb.c3
      unfold FlP flwR at KF
      have hfl : Hid (chkN (rcP (L, false)) = 0 → decide ((flwL (rcP (L, false)) (rcL (L, false))).length = 0) = holP (rcP (L, false)) (rcL (L, false))) := fun hC => flw_hol hC _
      by_cases hC : chkN (rcP (L, false)) = 0
      case neg =>
        as_aux_lemma =>
        have hP : Hid (rdN L = 3 ∧ rdP L = ⟨0, [], [], []⟩ ∧ rdL L = []) := rd_bad (by unfold rdN; rw [if_neg (fun q => hC q.2)]) (by decide)
        have hne : (((chkN (rcP (L, false)) : Nat) : Int) != 0) = true := by rw [bne_iff_ne]; omega
        have hne2 : ((chkN (rcP (L, false)) : Nat) : Int) ≠ 0 := by omega
        rw [if_neg hC] at KF
        generalize chkN (rcP (L, false)) = cc at *
        clear hfl hFl hwr hwr' hTr hrd3 hln
        go_wp2_with fail
        refine (KF.out _ hR.out).mono ?_
        rintro e w4 ⟨v4, rfl, hO4, hb4⟩
        obtain ⟨o4, c4, rfl⟩ := own_shp hO4.out
        have hR4 := hide' (hR.out.over hb4.out)
        clear q0 q1 q2 q3 c0 c1 hR hO4 hb4 KF
        have hR := hR4
        clear hR4
        have f0 := hR.out.z.frz 0
        have y0 := hR.out.z.c0
        have f1 := (hR.out.z.s0 0).frz 1
        have y1 := (hR.out.z.s0 0).c1
        have f2 := ((hR.out.z.s0 0).s1 (.slice none 0 0)).frz 2
        have y2 := ((hR.out.z.s0 0).s1 (.slice none 0 0)).c2
        have f3 := (((hR.out.z.s0 0).s1 (.slice none 0 0)).s2 (.slice none 0 0)).frz 3
        have y3 := (((hR.out.z.s0 0).s1 (.slice none 0 0)).s2 (.slice none 0 0)).c3
        have x0 := ((((hR.out.z.s0 0).s1 (.slice none 0 0)).s2 (.slice none 0 0)).s3 (.slice none 0 0)).c0
        have x1 := ((((hR.out.z.s0 0).s1 (.slice none 0 0)).s2 (.slice none 0 0)).s3 (.slice none 0 0)).c1
        have x2 := ((((hR.out.z.s0 0).s1 (.slice none 0 0)).s2 (.slice none 0 0)).s3 (.slice none 0 0)).c2
        have x3 := ((((hR.out.z.s0 0).s1 (.slice none 0 0)).s2 (.slice none 0 0)).s3 (.slice none 0 0)).c3
        have hF := hide' (hR.out.fin (.int .i64 0) (.slice none 0 0) (.slice none 0 0) (.slice none 0 0))
        clear hR hC
        go_wp2
        refine bodyPost_ret (v := .tuple #[.agg #[.int .i64 0, .slice none 0 0, .slice none 0 0, .slice none 0 0], .slice none 0 0, .int .i64 3]) (by simp [results, Try.results5, go_sem, x0, x1, x2, x3]) rfl ?_
        unfold ReP
        rw [hP.out.1, hP.out.2.1, hP.out.2.2]
        exact ⟨_, _, _, _, rfl, nil_pv _, hF.out.2.2⟩
      case pos =>
        have hfl' := hfl.out hC
        rw [if_pos hC, hC] at KF
        cases hh : holP (rcP (L, false)) (rcL (L, false)) with
        | false =>
          as_aux_lemma =>
          have hP : Hid (rdN L = 52 ∧ rdP L = ⟨0, [], [], []⟩ ∧ rdL L = []) := rd_bad (by unfold rdN; rw [if_pos ⟨hTr, hC⟩, hh, if_neg (by decide)]) (by decide)
          rw [hh] at hfl'
          have hlp : (0 : Int) < ((flwL (rcP (L, false)) (rcL (L, false))).length : Int) := by have := of_decide_eq_false hfl'; omega
          generalize flwL (rcP (L, false)) (rcL (L, false)) = F at *
          clear hfl hFl hwr hwr' hTr hrd3 hln hfl' hh hC
          go_wp2_with fail
          refine (KF.out _ hR.out).mono ?_
          rintro e w4 ⟨v4, rfl, hO4, hb4⟩
          obtain ⟨o4, c4, rfl⟩ := own_shp hO4.out
          have hR4 := hide' (hR.out.over hb4.out)
          clear q0 q1 q2 q3 c0 c1 hR hO4 hb4 KF
          have hR := hR4
          clear hR4
          have f0 := hR.out.z.frz 0
          have y0 := hR.out.z.c0
          have f1 := (hR.out.z.s0 0).frz 1
          have y1 := (hR.out.z.s0 0).c1
          have f2 := ((hR.out.z.s0 0).s1 (.slice none 0 0)).frz 2
          have y2 := ((hR.out.z.s0 0).s1 (.slice none 0 0)).c2
          have f3 := (((hR.out.z.s0 0).s1 (.slice none 0 0)).s2 (.slice none 0 0)).frz 3
          have y3 := (((hR.out.z.s0 0).s1 (.slice none 0 0)).s2 (.slice none 0 0)).c3
          have x0 := ((((hR.out.z.s0 0).s1 (.slice none 0 0)).s2 (.slice none 0 0)).s3 (.slice none 0 0)).c0
          have x1 := ((((hR.out.z.s0 0).s1 (.slice none 0 0)).s2 (.slice none 0 0)).s3 (.slice none 0 0)).c1
          have x2 := ((((hR.out.z.s0 0).s1 (.slice none 0 0)).s2 (.slice none 0 0)).s3 (.slice none 0 0)).c2
          have x3 := ((((hR.out.z.s0 0).s1 (.slice none 0 0)).s2 (.slice none 0 0)).s3 (.slice none 0 0)).c3
          have hF := hide' (hR.out.fin (.int .i64 0) (.slice none 0 0) (.slice none 0 0) (.slice none 0 0))
          clear hR
          go_wp2
          refine bodyPost_ret (v := .tuple #[.agg #[.int .i64 0, .slice none 0 0, .slice none 0 0, .slice none 0 0], .slice none 0 0, .int .i64 52]) (by simp [results, Try.results5, go_sem, x0, x1, x2, x3]) rfl ?_
          unfold ReP
          rw [hP.out.1, hP.out.2.1, hP.out.2.2]
          exact ⟨_, _, _, _, rfl, nil_pv _, hF.out.2.2⟩
        | true =>
          as_aux_lemma =>
          have hN0 : rdN L = 0 := by unfold rdN; rw [if_pos ⟨hTr, hC⟩, hh, if_pos rfl]
          have hP : Hid (rdN L = 0 ∧ rdP L = rcP (L, false) ∧ rdL L = rcL (L, false)) := ⟨hN0, by unfold rdP; rw [if_pos hN0], by unfold rdL; rw [if_pos hN0]⟩
          rw [hh] at hfl'
          have hlp : (flwL (rcP (L, false)) (rcL (L, false))).length = 0 := of_decide_eq_true hfl'
          rw [hlp] at KF
          clear hfl hFl hwr hwr' hTr hrd3 hln hfl' hh hC hlp hN0
          go_wp2_with fail
          refine (KF.out _ hR.out).mono ?_
          rintro e w4 ⟨v4, rfl, hO4, hb4⟩
          obtain ⟨o4, c4, rfl⟩ := own_shp hO4.out
          have hR4 := hide' (hR.out.over hb4.out)
          clear q0 q1 q2 q3 c0 c1 hR hO4 hb4 KF
          have hR := hR4
          clear hR4
          have q0 := hR.out.pb.c0
          have q1 := hR.out.pb.c1
          have q2 := hR.out.pb.c2
          have q3 := hR.out.pb.c3
          have f0 := hR.out.z.frz 0
          have y0 := hR.out.z.c0
          have f1 := (hR.out.z.s0 (rcP (L, false)).users).frz 1
          have y1 := (hR.out.z.s0 (rcP (L, false)).users).c1
          have f2 := ((hR.out.z.s0 (rcP (L, false)).users).s1 (.slice oA nA cA)).frz 2
          have y2 := ((hR.out.z.s0 (rcP (L, false)).users).s1 (.slice oA nA cA)).c2
          have f3 := (((hR.out.z.s0 (rcP (L, false)).users).s1 (.slice oA nA cA)).s2 (.slice oB nB cB)).frz 3
          have y3 := (((hR.out.z.s0 (rcP (L, false)).users).s1 (.slice oA nA cA)).s2 (.slice oB nB cB)).c3
          have x0 := ((((hR.out.z.s0 (rcP (L, false)).users).s1 (.slice oA nA cA)).s2 (.slice oB nB cB)).s3 (.slice oC nC cC)).c0
          have x1 := ((((hR.out.z.s0 (rcP (L, false)).users).s1 (.slice oA nA cA)).s2 (.slice oB nB cB)).s3 (.slice oC nC cC)).c1
          have x2 := ((((hR.out.z.s0 (rcP (L, false)).users).s1 (.slice oA nA cA)).s2 (.slice oB nB cB)).s3 (.slice oC nC cC)).c2
          have x3 := ((((hR.out.z.s0 (rcP (L, false)).users).s1 (.slice oA nA cA)).s2 (.slice oB nB cB)).s3 (.slice oC nC cC)).c3
          have hF := hide' (hR.out.fin (.int .i64 (rcP (L, false)).users) (.slice oA nA cA) (.slice oB nB cB) (.slice oC nC cC))
          clear hR
          go_wp2
          refine bodyPost_ret (v := .tuple #[.agg #[.int .i64 (rcP (L, false)).users, .slice oA nA cA, .slice oB nB cB, .slice oC nC cC], .slice oP nP cP, .int .i64 0]) (by simp [results, Try.results5, go_sem, x0, x1, x2, x3]) rfl ?_
          unfold ReP
          rw [hP.out.1, hP.out.2.1, hP.out.2.2]
          exact ⟨_, _, _, _, rfl, ⟨hF.out.1, hF.out.2.1⟩, hF.out.2.2⟩
end Go.Proofs.Ytfajgbdnfphajaa.S

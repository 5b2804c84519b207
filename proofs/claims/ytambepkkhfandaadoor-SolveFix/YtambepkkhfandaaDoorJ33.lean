/- The document's Fix. -/
import Derived.Test.YtambepkkhfandaaDoorJ30
import Derived.Test.YtambepkkhfandaaDoorJ32
namespace Go.Proofs.YtambepkkhfandaaDoor.S
open Go.RowKit Go.Shelf
/-- What Twin answers, in its box. -/
theorem Fp.twin {w : World} {P : Pb} {wv fv rv : Value} {V V' : World} {va0 vb0 va vb vc : Value} {L1 : List Nat} {L2 : List Int} {E : List (Rl × Value)} (h : Fp w P wv fv rv V va0 vb0 L1 L2) (hb : Below V.heap.size V V') (h1 : V'.ownsRow V.heap.size 46 1 va P.who.length (cellsW P.who)) (h2 : V'.ownsRow V.heap.size 3 1 vb P.fixed.length (cellsI P.fixed)) (h3 : TwS V.heap.size V' vc E) (hd : ∀ p ∈ E, ∀ g, vb.ownBlock = some g → p.2.ownBlock ≠ some g) :
    Fq w P wv fv rv V'.heap.size (V'.alloc (.cells #[.int .i64 P.users, va, vb, vc] 26)) P.users va vb vc va vb vc P.who P.fixed E := by
  have k := h.over hb
  have hA : Below V'.heap.size V' (V'.alloc (.cells #[.int .i64 P.users, va, vb, vc] 26)) := (Below.refl _ V').alloc (Nat.le_refl _) _
  have k2 := k.over hA
  exact ⟨k2.pb, k2.z, QAt.block (heap_new V' _), own_below (own_down h1 h.sz) hA (Nat.le_refl _), own_below (own_down h2 h.sz) hA (Nat.le_refl _), TwS.below ⟨own_down h3.row h.sz, fun p hp => own_down (h3.inner p hp) h.sz⟩ hA (Nat.le_refl _), hd, k.sz, k2.be⟩
set_option maxRecDepth 100000 in
set_option maxHeartbeats 8000000 in
theorem fixD (P : Pb) (wv fv rv : Value) (s x : Int) (w : World) (h : PbV w P wv fv rv) (hk : Pok P) :
    Calls Tryd.prog 10 #[pbV P wv fv rv, .int .i64 s, .int .i64 x] w (FxP w P s x) := by
  have hS0 := hide' (Fp.start h)
  have KC : Hid (∀ V, PbV V P wv fv rv → Calls Tryd.prog 27 #[pbV P wv fv rv] V fun e w' => e = .returned (.int .i64 (chkN P : Int)) ∧ Below V.heap.size V w') := fun V hV => rCheckF P wv fv rv V hV hk
  have KT : Hid (∀ V, PbV V P wv fv rv → Calls Tryd.prog 28 #[pbV P wv fv rv] V (TwD V P)) := fun V hV => twinD P wv fv rv V hV hk
  have hs := h.shape
  have hk' := hide' hk
  obtain ⟨ow, cw, of, cf, or, cr, rfl, rfl, rfl⟩ := hs
  unfold pbV at KC KT ⊢
  clear h hk
  go_enter Tryd.func10, Tryd.ntmps10
  go_wp2_with fail
  generalize (w.alloc (.cells #[.int .i64 P.users, .slice ow P.who.length cw, .slice of P.fixed.length cf, .slice or P.rules.length cr] 26)).alloc (.cells #[.int .i64 0, .slice none 0 0, .slice none 0 0, .slice none 0 0] 26) = w1 at *
  refine (KC.out _ hS0.out.pv).mono ?_
  rintro e w2 ⟨rfl, hb2⟩
  have hS2 := hide' (hS0.out.over hb2)
  clear hS0 hb2 KC
  by_cases hC : chkN P = 0
  case neg =>
    as_aux_lemma =>
    have hn : fxN P s x = chkN P := by unfold fxN; rw [if_neg hC]
    have hP : FxE P s x (chkN P) := ⟨hn, by unfold fxP; rw [if_neg (by rw [hn]; exact hC)]⟩
    clear hn
    have hne : ¬ ((chkN P : Nat) : Int) = 0 := by omega
    have hne2 : (((chkN P : Nat) : Int) != 0) = true := by rw [bne_iff_ne]; exact hne
    generalize chkN P = cc at *
    clear KT hk'
    have f0 := hS2.out.z.frz 0
    have y0 := hS2.out.z.c0
    have f1 := (hS2.out.z.s0C 0).frz 1
    have y1 := (hS2.out.z.s0C 0).c1
    have f2 := ((hS2.out.z.s0C 0).s1 (.slice none 0 0)).frz 2
    have y2 := ((hS2.out.z.s0C 0).s1 (.slice none 0 0)).c2
    have f3 := (((hS2.out.z.s0C 0).s1 (.slice none 0 0)).s2 (.slice none 0 0)).frz 3
    have y3 := (((hS2.out.z.s0C 0).s1 (.slice none 0 0)).s2 (.slice none 0 0)).c3
    have x0 := ((((hS2.out.z.s0C 0).s1 (.slice none 0 0)).s2 (.slice none 0 0)).s3 (.slice none 0 0)).c0
    have x1 := ((((hS2.out.z.s0C 0).s1 (.slice none 0 0)).s2 (.slice none 0 0)).s3 (.slice none 0 0)).c1
    have x2 := ((((hS2.out.z.s0C 0).s1 (.slice none 0 0)).s2 (.slice none 0 0)).s3 (.slice none 0 0)).c2
    have x3 := ((((hS2.out.z.s0C 0).s1 (.slice none 0 0)).s2 (.slice none 0 0)).s3 (.slice none 0 0)).c3
    have hF := hide' (hS2.out.res (.int .i64 0) (.slice none 0 0) (.slice none 0 0) (.slice none 0 0))
    clear hS2
    go_wp2
    refine bodyPost_ret (v := .tuple #[.agg #[.int .i64 0, .slice none 0 0, .slice none 0 0, .slice none 0 0], .int .i64 (cc : Int)]) (by simp [results, Tryd.results10, go_sem, x0, x1, x2, x3]) rfl ?_
    unfold FxP
    rw [hP.n, hP.p]
    exact ⟨_, _, _, rfl, nil_pvF _, hF.out, fun ad n c e => by cases e⟩
  rw [hC]
  go_upto_region 4 with fail
  have q0 := hS2.out.pb.c0
  have q1 := hS2.out.pb.c1
  have q2 := hS2.out.pb.c2
  have q3 := hS2.out.pb.c3
  by_cases hs0 : s < 0
  · as_aux_lemma =>
    have hn : fxN P s x = 1 := by unfold fxN; rw [if_pos hC, if_pos (.inl hs0)]
    have hP : FxE P s x 1 := ⟨hn, by unfold fxP; rw [if_neg (by rw [hn]; decide)]⟩
    clear hn KT hk' hC
    have f0 := hS2.out.z.frz 0
    have y0 := hS2.out.z.c0
    have f1 := (hS2.out.z.s0C 0).frz 1
    have y1 := (hS2.out.z.s0C 0).c1
    have f2 := ((hS2.out.z.s0C 0).s1 (.slice none 0 0)).frz 2
    have y2 := ((hS2.out.z.s0C 0).s1 (.slice none 0 0)).c2
    have f3 := (((hS2.out.z.s0C 0).s1 (.slice none 0 0)).s2 (.slice none 0 0)).frz 3
    have y3 := (((hS2.out.z.s0C 0).s1 (.slice none 0 0)).s2 (.slice none 0 0)).c3
    have x0 := ((((hS2.out.z.s0C 0).s1 (.slice none 0 0)).s2 (.slice none 0 0)).s3 (.slice none 0 0)).c0
    have x1 := ((((hS2.out.z.s0C 0).s1 (.slice none 0 0)).s2 (.slice none 0 0)).s3 (.slice none 0 0)).c1
    have x2 := ((((hS2.out.z.s0C 0).s1 (.slice none 0 0)).s2 (.slice none 0 0)).s3 (.slice none 0 0)).c2
    have x3 := ((((hS2.out.z.s0C 0).s1 (.slice none 0 0)).s2 (.slice none 0 0)).s3 (.slice none 0 0)).c3
    have hF := hide' (hS2.out.res (.int .i64 0) (.slice none 0 0) (.slice none 0 0) (.slice none 0 0))
    clear hS2
    go_wp2
    refine bodyPost_ret (v := .tuple #[.agg #[.int .i64 0, .slice none 0 0, .slice none 0 0, .slice none 0 0], .int .i64 1]) (by simp [results, Tryd.results10, go_sem, x0, x1, x2, x3]) rfl ?_
    unfold FxP
    rw [hP.n, hP.p]
    exact ⟨_, _, _, rfl, nil_pvF _, hF.out, fun ad n c e => by cases e⟩
  by_cases hs1 : (P.who.length : Int) ≤ s
  · as_aux_lemma =>
    have hn : fxN P s x = 1 := by unfold fxN; rw [if_pos hC, if_pos (.inr (.inl hs1))]
    have hP : FxE P s x 1 := ⟨hn, by unfold fxP; rw [if_neg (by rw [hn]; decide)]⟩
    clear hn KT hk' hC
    have f0 := hS2.out.z.frz 0
    have y0 := hS2.out.z.c0
    have f1 := (hS2.out.z.s0C 0).frz 1
    have y1 := (hS2.out.z.s0C 0).c1
    have f2 := ((hS2.out.z.s0C 0).s1 (.slice none 0 0)).frz 2
    have y2 := ((hS2.out.z.s0C 0).s1 (.slice none 0 0)).c2
    have f3 := (((hS2.out.z.s0C 0).s1 (.slice none 0 0)).s2 (.slice none 0 0)).frz 3
    have y3 := (((hS2.out.z.s0C 0).s1 (.slice none 0 0)).s2 (.slice none 0 0)).c3
    have x0 := ((((hS2.out.z.s0C 0).s1 (.slice none 0 0)).s2 (.slice none 0 0)).s3 (.slice none 0 0)).c0
    have x1 := ((((hS2.out.z.s0C 0).s1 (.slice none 0 0)).s2 (.slice none 0 0)).s3 (.slice none 0 0)).c1
    have x2 := ((((hS2.out.z.s0C 0).s1 (.slice none 0 0)).s2 (.slice none 0 0)).s3 (.slice none 0 0)).c2
    have x3 := ((((hS2.out.z.s0C 0).s1 (.slice none 0 0)).s2 (.slice none 0 0)).s3 (.slice none 0 0)).c3
    have hF := hide' (hS2.out.res (.int .i64 0) (.slice none 0 0) (.slice none 0 0) (.slice none 0 0))
    clear hS2
    go_wp2
    refine bodyPost_ret (v := .tuple #[.agg #[.int .i64 0, .slice none 0 0, .slice none 0 0, .slice none 0 0], .int .i64 1]) (by simp [results, Tryd.results10, go_sem, x0, x1, x2, x3]) rfl ?_
    unfold FxP
    rw [hP.n, hP.p]
    exact ⟨_, _, _, rfl, nil_pvF _, hF.out, fun ad n c e => by cases e⟩
  by_cases hx0 : x < 0
  · as_aux_lemma =>
    have hn : fxN P s x = 1 := by unfold fxN; rw [if_pos hC, if_pos (.inr (.inr (by unfold isU; rw [decide_eq_false (by omega)]; rfl)))]
    have hP : FxE P s x 1 := ⟨hn, by unfold fxP; rw [if_neg (by rw [hn]; decide)]⟩
    clear hn KT hk' hC
    have f0 := hS2.out.z.frz 0
    have y0 := hS2.out.z.c0
    have f1 := (hS2.out.z.s0C 0).frz 1
    have y1 := (hS2.out.z.s0C 0).c1
    have f2 := ((hS2.out.z.s0C 0).s1 (.slice none 0 0)).frz 2
    have y2 := ((hS2.out.z.s0C 0).s1 (.slice none 0 0)).c2
    have f3 := (((hS2.out.z.s0C 0).s1 (.slice none 0 0)).s2 (.slice none 0 0)).frz 3
    have y3 := (((hS2.out.z.s0C 0).s1 (.slice none 0 0)).s2 (.slice none 0 0)).c3
    have x0 := ((((hS2.out.z.s0C 0).s1 (.slice none 0 0)).s2 (.slice none 0 0)).s3 (.slice none 0 0)).c0
    have x1 := ((((hS2.out.z.s0C 0).s1 (.slice none 0 0)).s2 (.slice none 0 0)).s3 (.slice none 0 0)).c1
    have x2 := ((((hS2.out.z.s0C 0).s1 (.slice none 0 0)).s2 (.slice none 0 0)).s3 (.slice none 0 0)).c2
    have x3 := ((((hS2.out.z.s0C 0).s1 (.slice none 0 0)).s2 (.slice none 0 0)).s3 (.slice none 0 0)).c3
    have hF := hide' (hS2.out.res (.int .i64 0) (.slice none 0 0) (.slice none 0 0) (.slice none 0 0))
    clear hS2
    go_wp2
    refine bodyPost_ret (v := .tuple #[.agg #[.int .i64 0, .slice none 0 0, .slice none 0 0, .slice none 0 0], .int .i64 1]) (by simp [results, Tryd.results10, go_sem, x0, x1, x2, x3]) rfl ?_
    unfold FxP
    rw [hP.n, hP.p]
    exact ⟨_, _, _, rfl, nil_pvF _, hF.out, fun ad n c e => by cases e⟩
  by_cases hx1 : P.users ≤ x
  · as_aux_lemma =>
    have hn : fxN P s x = 1 := by unfold fxN; rw [if_pos hC, if_pos (.inr (.inr (by unfold isU; rw [decide_eq_false (show ¬ x < P.users by omega)]; simp)))]
    have hP : FxE P s x 1 := ⟨hn, by unfold fxP; rw [if_neg (by rw [hn]; decide)]⟩
    clear hn KT hk' hC
    have f0 := hS2.out.z.frz 0
    have y0 := hS2.out.z.c0
    have f1 := (hS2.out.z.s0C 0).frz 1
    have y1 := (hS2.out.z.s0C 0).c1
    have f2 := ((hS2.out.z.s0C 0).s1 (.slice none 0 0)).frz 2
    have y2 := ((hS2.out.z.s0C 0).s1 (.slice none 0 0)).c2
    have f3 := (((hS2.out.z.s0C 0).s1 (.slice none 0 0)).s2 (.slice none 0 0)).frz 3
    have y3 := (((hS2.out.z.s0C 0).s1 (.slice none 0 0)).s2 (.slice none 0 0)).c3
    have x0 := ((((hS2.out.z.s0C 0).s1 (.slice none 0 0)).s2 (.slice none 0 0)).s3 (.slice none 0 0)).c0
    have x1 := ((((hS2.out.z.s0C 0).s1 (.slice none 0 0)).s2 (.slice none 0 0)).s3 (.slice none 0 0)).c1
    have x2 := ((((hS2.out.z.s0C 0).s1 (.slice none 0 0)).s2 (.slice none 0 0)).s3 (.slice none 0 0)).c2
    have x3 := ((((hS2.out.z.s0C 0).s1 (.slice none 0 0)).s2 (.slice none 0 0)).s3 (.slice none 0 0)).c3
    have hF := hide' (hS2.out.res (.int .i64 0) (.slice none 0 0) (.slice none 0 0) (.slice none 0 0))
    clear hS2
    go_wp2
    refine bodyPost_ret (v := .tuple #[.agg #[.int .i64 0, .slice none 0 0, .slice none 0 0, .slice none 0 0], .int .i64 1]) (by simp [results, Tryd.results10, go_sem, x0, x1, x2, x3]) rfl ?_
    unfold FxP
    rw [hP.n, hP.p]
    exact ⟨_, _, _, rfl, nil_pvF _, hF.out, fun ad n c e => by cases e⟩
  have hx : isU P x = true := by unfold isU; rw [decide_eq_true (show 0 ≤ x by omega), decide_eq_true (show x < P.users by omega)]; rfl
  have hn0 : fxN P s x = 0 := by
    unfold fxN
    rw [if_pos hC, if_neg (fun q => ?_)]
    rcases q with q | q | q
    · omega
    · omega
    · rw [hx] at q; cases q
  have hPy : FxY P s x := ⟨hn0, by unfold fxP; rw [if_pos hn0]⟩
  obtain ⟨g12, g0, g64, g32, gF, gW, gR⟩ := chkN_zero hC
  have hfl : Hid (P.fixed.length = P.who.length) := (fixB_of gF g64).1
  clear hn0 hC hx gF gW gR g0 g64
  go_upto_region 6 with fail
  go_wp2_with fail
  refine (KT.out _ hS2.out.pv).mono ?_
  rintro e w4 ⟨oa, na, ca, ob, nb, cb, oc, nc, cc, E, rfl, hO, hb4⟩
  have hE := hide' hO.out.2.2.2.1
  have hQ := hide' (hS2.out.twin hb4.out hO.out.1 hO.out.2.1 hO.out.2.2.1 hO.out.2.2.2.2)
  clear hO hb4 hS2 KT q0 q1 q2 q3
  go_upto_region 7 with fail
  generalize w4.alloc (.cells #[.int .i64 P.users, .slice oa na ca, .slice ob nb cb, .slice oc nc cc] 26) = W5 at *
  generalize w4.heap.size = gq at *
  obtain ⟨k, rfl⟩ := Int.eq_ofNat_of_zero_le (show 0 ≤ s by omega)
  have hkw : k < P.fixed.length := by have := hfl.out; omega
  obtain ⟨gf, hgf⟩ : ∃ gf, Value.slice ob nb cb = .slice (some ⟨gf, 0, none⟩) P.fixed.length cb := by
    rcases hQ.out.r2.2 with ⟨_, h0⟩ | ⟨g, cap, cur, e, h1, _⟩
    · omega
    · injection e with e1 e2 e3
      exact ⟨g, by rw [e1, e2]⟩
  injection hgf with hg1 hg2 _
  subst hg1
  subst hg2
  obtain ⟨y, hy⟩ : ∃ y, P.fixed[k]? = some y := ⟨_, List.getElem?_eq_getElem hkw⟩
  have ck : W5.cell? ⟨gf, k, none⟩ = some (.int .i64 y) := by
    rw [hQ.out.r2.cellAt k (by omega)]
    unfold cellsI
    rw [List.getElem?_map, hy]
    rfl
  have fk := hQ.out.r2.frozenAt k
  have q2 := hQ.out.qb.c2
  have hQ2 := hide' (hQ.out.setF k x)
  have hkI : (k : Int) < (P.fixed.length : Int) := by omega
  have hR : FxY P (k : Int) x := hPy
  clear hQ hy hPy hk'
  go_upto_region 8 with fail
  clear ck fk q2
  generalize W5.setCell ⟨gf, k, none⟩ (.int .i64 x) = W9 at *
  have p0 := hQ2.out.qb.c0
  have p1 := hQ2.out.qb.c1
  have p2 := hQ2.out.qb.c2
  have p3 := hQ2.out.qb.c3
  have f0 := hQ2.out.z.frz 0
  have y0 := hQ2.out.z.c0
  have f1 := (hQ2.out.z.s0C P.users).frz 1
  have y1 := (hQ2.out.z.s0C P.users).c1
  have f2 := ((hQ2.out.z.s0C P.users).s1 (.slice oa na ca)).frz 2
  have y2 := ((hQ2.out.z.s0C P.users).s1 (.slice oa na ca)).c2
  have f3 := (((hQ2.out.z.s0C P.users).s1 (.slice oa na ca)).s2 (.slice (some ⟨gf, 0, none⟩) P.fixed.length cb)).frz 3
  have y3 := (((hQ2.out.z.s0C P.users).s1 (.slice oa na ca)).s2 (.slice (some ⟨gf, 0, none⟩) P.fixed.length cb)).c3
  have x0 := ((((hQ2.out.z.s0C P.users).s1 (.slice oa na ca)).s2 (.slice (some ⟨gf, 0, none⟩) P.fixed.length cb)).s3 (.slice oc nc cc)).c0
  have x1 := ((((hQ2.out.z.s0C P.users).s1 (.slice oa na ca)).s2 (.slice (some ⟨gf, 0, none⟩) P.fixed.length cb)).s3 (.slice oc nc cc)).c1
  have x2 := ((((hQ2.out.z.s0C P.users).s1 (.slice oa na ca)).s2 (.slice (some ⟨gf, 0, none⟩) P.fixed.length cb)).s3 (.slice oc nc cc)).c2
  have x3 := ((((hQ2.out.z.s0C P.users).s1 (.slice oa na ca)).s2 (.slice (some ⟨gf, 0, none⟩) P.fixed.length cb)).s3 (.slice oc nc cc)).c3
  have hF := hide' (hQ2.out.fin (.int .i64 P.users) (.slice oa na ca) (.slice (some ⟨gf, 0, none⟩) P.fixed.length cb) (.slice oc nc cc))
  clear hQ2
  go_wp2
  refine bodyPost_ret (v := .tuple #[.agg #[.int .i64 P.users, .slice oa na ca, .slice (some ⟨gf, 0, none⟩) P.fixed.length cb, .slice oc nc cc], .int .i64 0]) (by simp [results, Tryd.results10, go_sem, x0, x1, x2, x3]) rfl ?_
  unfold FxP
  rw [hR.n, hR.p, Int.toNat_natCast, ← hE.out]
  exact ⟨_, _, _, rfl, hF.out.1, hF.out.2.1, hF.out.2.2⟩
end Go.Proofs.YtambepkkhfandaaDoor.S

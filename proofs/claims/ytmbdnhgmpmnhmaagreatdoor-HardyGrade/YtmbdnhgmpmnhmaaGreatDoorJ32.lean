/- The document's Lose. -/
import Derived.Test.YtmbdnhgmpmnhmaaGreatDoorJ28
import Derived.Test.YtmbdnhgmpmnhmaaGreatDoorJ30
import Derived.Test.YtmbdnhgmpmnhmaaGreatDoorJ31
namespace Go.Proofs.YtmbdnhgmpmnhmaaGreatDoor.S
open Go.RowKit Go.Shelf
theorem twS_down {B C : Nat} {W : World} {v : Value} {E : List (Rl × Value)} (h : TwS B W v E) (hc : C ≤ B) : TwS C W v E := ⟨own_down h.row hc, fun p hp => own_down (h.inner p hp) hc⟩
/-- What Twin answers, in its box. -/
theorem Fp.twinH {w : World} {P : Pb} {wv fv rv : Value} {V V' : World} {va0 vb0 va vb vc : Value} {L1 : List Nat} {L2 : List Int} {E : List (Rl × Value)} (h : Fp w P wv fv rv V va0 vb0 L1 L2) (hb : Below V.heap.size V V') (h1 : V'.ownsRow V.heap.size 27 1 va P.who.length (cellsW P.who)) (h2 : V'.ownsRow V.heap.size 3 1 vb P.fixed.length (cellsI P.fixed)) (h3 : TwS V.heap.size V' vc E) (h4 : ∀ p ∈ E, ∀ g, vb.ownBlock = some g → p.2.ownBlock ≠ some g) :
    Fq w P wv fv rv V'.heap.size (V'.alloc (.cells #[.int .i64 P.users, va, vb, vc] 26)) P.users va vb vc va vb vc P.who P.fixed E := by
  have k := h.over hb
  have hA : Below V'.heap.size V' (V'.alloc (.cells #[.int .i64 P.users, va, vb, vc] 26)) := (Below.refl _ V').alloc (Nat.le_refl _) _
  have k2 := k.over hA
  exact ⟨k2.pb, k2.z, QAt.block (heap_new V' _), own_below (own_down h1 h.sz) hA (Nat.le_refl _), own_below (own_down h2 h.sz) hA (Nat.le_refl _), (twS_down h3 h.sz).below hA (Nat.le_refl _), h4, k.sz, k2.be⟩
/-- The words of the first j steps lost. -/
def mnJ (L : List Nat) (x j : Nat) : List Nat := (L.take j).map (fun z => mnW z x) ++ L.drop j
theorem mnJ_len (L : List Nat) (x j : Nat) (h : j ≤ L.length) : (mnJ L x j).length = L.length := by
  unfold mnJ
  rw [List.length_append, List.length_map, List.length_take, List.length_drop]
  omega
theorem mnJ_at {L : List Nat} {x j z : Nat} (h : L[j]? = some z) : (mnJ L x j)[j]? = some z := by
  obtain ⟨hl, _⟩ := List.getElem?_eq_some_iff.1 h
  have e : ((L.take j).map fun z => mnW z x).length = j := by rw [List.length_map, List.length_take]; omega
  unfold mnJ
  rw [List.getElem?_append_right (by omega), e, List.getElem?_drop, Nat.sub_self, Nat.add_zero, h]
theorem mnJ_succ {L : List Nat} {x j z : Nat} (h : L[j]? = some z) : mnJ L x (j + 1) = (mnJ L x j).set j (mnW z x) := by
  obtain ⟨hl, hz⟩ := List.getElem?_eq_some_iff.1 h
  have e : ((L.take j).map fun z => mnW z x).length = j := by rw [List.length_map, List.length_take]; omega
  unfold mnJ
  rw [List.set_append_right _ _ (by omega), e, Nat.sub_self, List.take_add_one, h, List.map_append]
  rw [List.drop_eq_getElem_cons hl, hz]
  simp
set_option maxRecDepth 100000 in
set_option maxHeartbeats 4000000 in
theorem loseD (P : Pb) (wv fv rv : Value) (x : Nat) (hx : x < 18446744073709551616) (w : World) (h : PbV w P wv fv rv) (hk : Pok P) :
    Calls Tryz.prog 8 #[pbV P wv fv rv, .int .u64 (x : Int)] w (WtP w (loP P x) (chkN P)) := by
  have hX0 := hide' (Fp.start h)
  have KC : Hid (∀ V, PbV V P wv fv rv → Calls Tryz.prog 22 #[pbV P wv fv rv] V fun e w' => e = .returned (.int .i64 (chkN P : Int)) ∧ Below V.heap.size V w') := fun V hV => rCheckF P wv fv rv V hV hk
  have KT : Hid (∀ V, PbV V P wv fv rv → Calls Tryz.prog 23 #[pbV P wv fv rv] V (TwD V P)) := fun V hV => twinD P wv fv rv V hV hk
  have hwb : Hid (∀ z ∈ P.who, z < 18446744073709551616) := hk.b
  obtain ⟨ow, cw, of, cf, or, cr, rfl, rfl, rfl⟩ := h.shape
  unfold pbV at KC KT ⊢
  unfold TwD at KT
  have hwl : P.who.length ≤ 1000 := hk.w
  clear h hk
  go_enter Tryz.func8, Tryz.ntmps8
  have q0 := hX0.out.pb.c0
  have q1 := hX0.out.pb.c1
  have q2 := hX0.out.pb.c2
  have q3 := hX0.out.pb.c3
  go_wp2_with fail
  clear q0 q1 q2 q3
  generalize (w.alloc (.cells #[.int .i64 P.users, .slice ow P.who.length cw, .slice of P.fixed.length cf, .slice or P.rules.length cr] 26)).alloc (.cells #[.int .i64 0, .slice none 0 0, .slice none 0 0, .slice none 0 0] 26) = w1 at *
  refine (KC.out _ hX0.out.pv).mono ?_
  rintro e w2 ⟨rfl, hb2⟩
  have hX2 := hide' (hX0.out.over hb2)
  clear hX0 hb2 KC
  by_cases hC : chkN P = 0
  case neg =>
    as_aux_lemma =>
    have hP : Hid (loP P x = ⟨0, [], [], []⟩) := by show _ = _; unfold loP; rw [if_neg hC]
    have hne : ¬ ((chkN P : Nat) : Int) = 0 := by omega
    have hne2 : (((chkN P : Nat) : Int) != 0) = true := by rw [bne_iff_ne]; exact hne
    generalize chkN P = cc at *
    have f0 := hX2.out.z.frz 0
    have y0 := hX2.out.z.c0
    have f1 := (hX2.out.z.s0C 0).frz 1
    have y1 := (hX2.out.z.s0C 0).c1
    have f2 := ((hX2.out.z.s0C 0).s1 (.slice none 0 0)).frz 2
    have y2 := ((hX2.out.z.s0C 0).s1 (.slice none 0 0)).c2
    have f3 := (((hX2.out.z.s0C 0).s1 (.slice none 0 0)).s2 (.slice none 0 0)).frz 3
    have y3 := (((hX2.out.z.s0C 0).s1 (.slice none 0 0)).s2 (.slice none 0 0)).c3
    have x0 := ((((hX2.out.z.s0C 0).s1 (.slice none 0 0)).s2 (.slice none 0 0)).s3 (.slice none 0 0)).c0
    have x1 := ((((hX2.out.z.s0C 0).s1 (.slice none 0 0)).s2 (.slice none 0 0)).s3 (.slice none 0 0)).c1
    have x2 := ((((hX2.out.z.s0C 0).s1 (.slice none 0 0)).s2 (.slice none 0 0)).s3 (.slice none 0 0)).c2
    have x3 := ((((hX2.out.z.s0C 0).s1 (.slice none 0 0)).s2 (.slice none 0 0)).s3 (.slice none 0 0)).c3
    have hF := hide' (hX2.out.resC (.int .i64 0) (.slice none 0 0) (.slice none 0 0) (.slice none 0 0))
    clear hX2 KT
    go_wp2
    refine bodyPost_ret (v := .tuple #[.agg #[.int .i64 0, .slice none 0 0, .slice none 0 0, .slice none 0 0], .int .i64 (cc : Int)]) (by simp [results, Tryz.results8, go_sem, x0, x1, x2, x3]) rfl ?_
    unfold WtP
    rw [hP.out]
    exact ⟨_, _, _, _, _, _, _, _, _, rfl, nil_pvC _, hF.out, fun ad n c e => (by cases e), fun W2 _ => nil_pvC W2⟩
  have hne2 : (((chkN P : Nat) : Int) != 0) = false := by rw [hC]; rfl
  have hP : Hid (loP P x = lesP P x ∧ chkN P = 0) := by refine ⟨?_, hC⟩; unfold loP; rw [if_pos hC]
  clear hC
  generalize hcc : ((chkN P : Nat) : Int) = cc at *
  clear hcc
  have q0 := hX2.out.pb.c0
  have q1 := hX2.out.pb.c1
  have q2 := hX2.out.pb.c2
  have q3 := hX2.out.pb.c3
  go_wp2_with fail
  refine (KT.out _ hX2.out.pv).mono ?_
  rintro e w5 ⟨oa, na, ca, ob, nb, cb, oc, nc, cc0, E, rfl, hO, hb5⟩
  have hQ := hide' (hX2.out.twinH hb5.out hO.out.1 hO.out.2.1 hO.out.2.2.1 hO.out.2.2.2.2)
  have hE : Hid (E.map Prod.fst = P.rules) := hO.out.2.2.2.1
  have hna : na = P.who.length := by obtain ⟨_, _, e⟩ := own_shp hO.out.1; injection e
  have hnb : nb = P.fixed.length := by obtain ⟨_, _, e⟩ := own_shp hO.out.2.1; injection e
  subst hna hnb
  clear hO hb5 hX2 q0 q1 q2 q3 KT
  go_upto_region 4 with fail
  generalize w5.heap.size = gq at *
  generalize w5.alloc (.cells #[.int .i64 P.users, .slice oa P.who.length ca, .slice ob P.fixed.length cb, .slice oc nc cc0] 26) = w6 at *
  clear w5
  have hQ0 : Hid (Fq w P (.slice ow P.who.length cw) (.slice of P.fixed.length cf) (.slice or P.rules.length cr) gq w6 P.users (.slice oa P.who.length ca) (.slice ob P.fixed.length cb) (.slice oc nc cc0) (.slice oa P.who.length ca) (.slice ob P.fixed.length cb) (.slice oc nc cc0) (mnJ P.who x 0) P.fixed E) := hQ
  clear hQ
  go_wp2
  go_loopw [8] (fun kv wr => ∃ j : Nat, j ≤ P.who.length ∧ kv = .int .i64 (j : Int) ∧ Hid (Fq w P (.slice ow P.who.length cw) (.slice of P.fixed.length cf) (.slice or P.rules.length cr) gq wr P.users (.slice oa P.who.length ca) (.slice ob P.fixed.length cb) (.slice oc nc cc0) (.slice oa P.who.length ca) (.slice ob P.fixed.length cb) (.slice oc nc cc0) (mnJ P.who x j) P.fixed E)) (fun kv _ => ((P.who.length : Int) - intOf kv).toNat)
  case atStart => exact ⟨0, Nat.zero_le _, rfl, hQ0⟩
  case round =>
    clear hQ0
    obtain ⟨j, hj, rfl, hQ⟩ := hrel
    have c1 := hQ.out.qb.c1
    by_cases hlt : j < P.who.length
    · have hlt' : (j : Int) < (P.who.length : Int) := by omega
      have hj0 : ¬ (j : Int) < 0 := by omega
      obtain ⟨z, hz⟩ : ∃ z, P.who[j]? = some z := ⟨_, List.getElem?_eq_getElem hlt⟩
      have hz64 := hwb.out z (List.mem_of_getElem? hz)
      have han := u64_andNot_nat z x hz64 hx
      obtain ⟨y, hy⟩ : ∃ y, y = mnW z x := ⟨_, rfl⟩
      rw [show (z &&& (18446744073709551615 - x)) = y from hy.symm] at han
      have hl := mnJ_len P.who x j hj
      have e1 := hide' (mnJ_succ (x := x) hz)
      rw [← hy] at e1
      have hm := mnJ_at (x := x) hz
      obtain ⟨gw, hgw⟩ : ∃ gw, oa = some ⟨gw, 0, none⟩ := by
        rcases hQ.out.r1.2 with ⟨e, e'⟩ | ⟨gw, cap, cur, e, _⟩
        · omega
        · injection e with e2; exact ⟨gw, e2⟩
      subst hgw
      generalize mnJ P.who x j = M1 at *
      have hQ8 := hQ
      rw [← hl] at hQ8
      have hQa := hide' (hQ8.out.setW j y)
      have z1 : wr.cell? ⟨gw, j, none⟩ = some (.int .u64 (z : Int)) := by rw [hQ8.out.r1.cellAt j (by omega)]; unfold cellsW; rw [List.getElem?_map, hm]; rfl
      have z2 := hQ8.out.r1.frozenAt j
      have hfin : Hid (Fq w P (.slice ow P.who.length cw) (.slice of P.fixed.length cf) (.slice or P.rules.length cr) gq (wr.setCell ⟨gw, j, none⟩ (.int .u64 (y : Int))).drew P.users (.slice (some ⟨gw, 0, none⟩) P.who.length ca) (.slice ob P.fixed.length cb) (.slice oc nc cc0) (.slice (some ⟨gw, 0, none⟩) P.who.length ca) (.slice ob P.fixed.length cb) (.slice oc nc cc0) (mnJ P.who x (j + 1)) P.fixed E) := by
        have k := hQa.out.over (Below.refl _ _).drew
        rw [hl] at k
        rw [e1.out]
        exact k
      clear hQ hQ8 hQa hz hm hl hwb hz64 hy e1
      go_upto_region 8 with fail
      go_region
      all_goals
        go_wp2
        exact ⟨⟨j + 1, by omega, by go_num, hfin⟩, by simp [intOf]; omega⟩
    · obtain rfl : j = P.who.length := by omega
      have hM : Hid (mnJ P.who x P.who.length = (lesP P x).who) := by
        show _ = P.who.map _
        unfold mnJ
        rw [List.take_length, List.drop_length, List.append_nil]
      rw [hM.out] at hQ
      have p0 := hQ.out.qb.c0
      have p1 := hQ.out.qb.c1
      have p2 := hQ.out.qb.c2
      have p3 := hQ.out.qb.c3
      have f0 := hQ.out.z.frz 0
      have y0 := hQ.out.z.c0
      have f1 := (hQ.out.z.s0C P.users).frz 1
      have y1 := (hQ.out.z.s0C P.users).c1
      have f2 := ((hQ.out.z.s0C P.users).s1 (.slice oa P.who.length ca)).frz 2
      have y2 := ((hQ.out.z.s0C P.users).s1 (.slice oa P.who.length ca)).c2
      have f3 := (((hQ.out.z.s0C P.users).s1 (.slice oa P.who.length ca)).s2 (.slice ob P.fixed.length cb)).frz 3
      have y3 := (((hQ.out.z.s0C P.users).s1 (.slice oa P.who.length ca)).s2 (.slice ob P.fixed.length cb)).c3
      have x0 := ((((hQ.out.z.s0C P.users).s1 (.slice oa P.who.length ca)).s2 (.slice ob P.fixed.length cb)).s3 (.slice oc nc cc0)).c0
      have x1 := ((((hQ.out.z.s0C P.users).s1 (.slice oa P.who.length ca)).s2 (.slice ob P.fixed.length cb)).s3 (.slice oc nc cc0)).c1
      have x2 := ((((hQ.out.z.s0C P.users).s1 (.slice oa P.who.length ca)).s2 (.slice ob P.fixed.length cb)).s3 (.slice oc nc cc0)).c2
      have x3 := ((((hQ.out.z.s0C P.users).s1 (.slice oa P.who.length ca)).s2 (.slice ob P.fixed.length cb)).s3 (.slice oc nc cc0)).c3
      have hF := hide' (hQ.out.fin (.int .i64 P.users) (.slice oa P.who.length ca) (.slice ob P.fixed.length cb) (.slice oc nc cc0))
      rw [hE.out] at hF
      clear hQ hwb c1 hM
      go_wp2
      refine bodyPost_ret (v := .tuple #[.agg #[.int .i64 P.users, .slice oa P.who.length ca, .slice ob P.fixed.length cb, .slice oc nc cc0], .int .i64 0]) (by simp [results, Tryz.results8, go_sem, x0, x1, x2, x3]) rfl ?_
      unfold WtP
      rw [hP.out.1, hP.out.2]
      exact ⟨_, _, _, _, _, _, _, _, _, rfl, hF.out.1, hF.out.2.1, hF.out.2.2.1, hF.out.2.2.2⟩
end Go.Proofs.YtmbdnhgmpmnhmaaGreatDoor.S

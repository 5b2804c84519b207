/- certificate: a problem and a plan written down. -/
import Derived.Test.YtfajgbdnfphajaaZpC
namespace Go.Proofs.Ytfajgbdnfphajaa.S
open Go.RowKit Go.Shelf
set_option maxRecDepth 100000 in
set_option maxHeartbeats 8000000 in
theorem certF (P : Pb) (wv fv rv : Value) (L : List Int) (lv : Value) (w : World) (h : PbV w P wv fv rv) (hL : RowI w lv L) (hk : Pok P) (hh : holP P L = true) :
    Calls Try.prog 24 #[pbV P wv fv rv, lv] w (PuP w w.heap.size (certL P L)) := by
  have hC : chkN P = 0 := by unfold holP at hh; simp only [Bool.and_eq_true, decide_eq_true_eq] at hh; exact hh.1.1.1
  have hl : L.length = P.who.length := by unfold holP at hh; simp only [Bool.and_eq_true, decide_eq_true_eq] at hh; exact hh.1.1.2
  have hok : ∀ (t : Nat) (x : Int), L[t]? = some x → 0 ≤ x ∧ x < 64 := fun t x ht => by
    unfold holP at hh
    simp only [Bool.and_eq_true, decide_eq_true_eq] at hh
    have h3 := hh.1.2
    unfold okA at h3
    rw [List.all_eq_true] at h3
    have h4 := h3 t (List.mem_range.2 (List.getElem?_eq_some_iff.1 ht).1)
    rw [show L.getD t 0 = x by simp [List.getD_eq_getElem?_getD, ht]] at h4
    unfold okU at h4
    rw [Bool.and_eq_true] at h4
    have h5 := (isU_iff P x).1 h4.1
    have h6 := (chkN_zero hC).2.2.1
    omega
  obtain ⟨g12, g0, g64, g32, gF, gW, gR⟩ := chkN_zero hC
  obtain ⟨gl, gx⟩ := fixB_of gF g64
  have hs := h.shape
  have hst := hide' (Ce.start w P wv fv rv)
  have h' := hide' h
  have hgl : Hid (∀ j, j < P.who.length → ∃ (z : Nat) (y x : Int), P.who[j]? = some z ∧ P.fixed[j]? = some y ∧ L[j]? = some x ∧ z < 18446744073709551616 ∧ (0 ≤ y + 1 ∧ y + 1 < 9223372036854775808) ∧ (0 ≤ x ∧ x < 9223372036854775808)) := fun j hj => by
    have e1 := List.getElem?_eq_getElem (show j < P.who.length from hj)
    have e2 := List.getElem?_eq_getElem (show j < P.fixed.length by omega)
    have e3 := List.getElem?_eq_getElem (show j < L.length by omega)
    have e4 := gx _ (List.mem_of_getElem? e2)
    have e5 := hok _ _ e3
    exact ⟨_, _, _, e1, e2, e3, hk.b _ (List.mem_of_getElem? e1), by omega, by omega⟩
  have hrs : Hid (∀ (j : Nat) (r : Rl), P.rules[j]? = some r → 0 ≤ r.kind ∧ r.kind ≤ 5 ∧ 0 ≤ r.k ∧ r.k ≤ 999999999 ∧ (∀ s ∈ r.steps, 0 ≤ s ∧ s < 12) ∧ r.steps.length ≤ 12) := fun j r hr => by
    have := List.all_eq_true.1 gR r (List.mem_of_getElem? hr)
    exact rule_small this
  have hgl2 : Hid (P.fixed.length = P.who.length) := gl
  obtain ⟨ow, cw, of, cf, or, cr, rfl, rfl, rfl⟩ := hs
  obtain ⟨ol, cl, rfl, _, hcl⟩ := hL
  have hcl' := hide' hcl
  unfold PuP
  unfold pbV
  rw [hl]
  have hU1 : P.users < 9223372036854775808 := by omega
  have hfx : P.fixed.length ≤ 1000 := hk.f
  clear hcl h hC hl hok gx gF gW gR hh hk gl
  go_enter Try.func24, Try.ntmps24
  go_wp2_with fail
  refine (hst.out.putU 2 20547 2 rfl (by decide) (by decide) (by decide)).mono ?_
  rintro e w1 ⟨o1, n1, c1, rfl, hC1, _⟩
  have q0 := hC1.out.pb.c0
  clear hst
  go_wp2_with fail
  refine (hC1.out.putI 1 1 P.users rfl (by decide) (by simp [be_len]) g0 hU1).mono ?_
  rintro e w2 ⟨o2, n2, c2, rfl, hC2, _⟩
  have q1 := hC2.out.pb.c1
  clear hC1 q0
  go_wp2_with fail
  refine (hC2.out.putI 1 1 (P.who.length : Int) rfl (by decide) (by simp [be_len]) (by omega) (by omega)).mono ?_
  rintro e w3 ⟨o3, n3, c3, rfl, hC3', _⟩
  have hC3 : Hid (Ce w P (.slice ow P.who.length cw) (.slice of P.fixed.length cf) (.slice or P.rules.length cr) w3 (.slice o3 n3 c3) (hdB P ++ stsB P L 0)) := by
    have := hC3'.out
    rw [Int.toNat_natCast] at this
    rw [show hdB P ++ stsB P L 0 = hdB P by simp [stsB]]
    exact this
  clear hC2 q1 hC3'
  go_upto_block 0 with fail
  go_cut [5, 6, 7] from 22 to 48 (fun v _ _ wx => Hid (Ce w P (.slice ow P.who.length cw) (.slice of P.fixed.length cf) (.slice or P.rules.length cr) wx v (hdB P ++ stsB P L P.who.length)))
  case first =>
    as_aux_lemma =>
    go_wp2_with fail
    go_loopw [5, 6, 7, 24] (fun v _ _ p wr => ∃ j : Nat, j ≤ P.who.length ∧ p = .int .i64 (j : Int) ∧ Hid (Ce w P (.slice ow P.who.length cw) (.slice of P.fixed.length cf) (.slice or P.rules.length cr) wr v (hdB P ++ stsB P L j))) (fun _ _ _ p _ => ((P.who.length : Int) - intOf p).toNat)
    case atStart => exact ⟨0, Nat.zero_le _, rfl, hC3⟩
    case round =>
      clear hC3
      obtain ⟨j, hj, rfl, hC⟩ := hrel
      obtain ⟨ov, nv, cv, rfl⟩ := hC.out.shp
      by_cases hlt : j < P.who.length
      · have hlt' : (j : Int) < (P.who.length : Int) := by omega
        have hltf : (j : Int) < (P.fixed.length : Int) := by have := hgl2.out; omega
        have hj0 : ¬ (j : Int) < 0 := by omega
        obtain ⟨z, y, x, hz, hy, hx, hzb, hyb, hxb⟩ := hgl.out j hlt
        obtain ⟨g1, p1, rfl, a1⟩ := hcl'.out j x hx
        obtain ⟨ow', cw', ew, _, hcw⟩ := h'.out.who
        obtain ⟨of', cf', ef, _, hcf⟩ := h'.out.fixed
        obtain ⟨g2, p2, r2, a2⟩ := hcw j z hz
        obtain ⟨g3, p3, r3, a3⟩ := hcf j y hy
        cases ew
        cases ef
        subst r2
        subst r3
        have a1' := M.cell_over a1 hC.out.be
        have q1 := hC.out.pb.c1
        have a2' := M.cell_over a2 hC.out.be
        have hE := hide' (stB_at hz hy hx)
        have hE2 := hide' (stsB_succ P L j)
        have hlen : (hdB P ++ stsB P L j).length ≤ 1000 := by rw [List.length_append, hdB_len, stsB_len]; omega
        have a3h := hide' a3
        generalize hA : hdB P ++ stsB P L j = A at *
        have hA' := hide' hA
        clear hz hy hx a1 a2 a3 hcw hcf h' hgl hrs hA
        go_wp2_with fail
        refine (hC.out.putU 8 z 8 rfl (by decide) (by omega) hzb).mono ?_
        rintro e w4 ⟨o4, n4, c4, rfl, hC4, _⟩
        have q2 := hC4.out.pb.c2
        have a3' := M.cell_over a3h.out hC4.out.be
        clear hC q1 a1' a2'
        have hy1 : y - -1 = y + 1 := by omega
        have hyw : IntKind.i64.wrap (y + 1) = y + 1 := by
          have := hyb
          simp only [IntKind.wrap, IntKind.bits, IntKind.signed]
          simp
          omega
        go_wp2_with fail
        refine (hC4.out.putI 1 1 (y + 1) rfl (by decide) (by simp [be_len]; omega) hyb.1 hyb.2).mono ?_
        rintro e w5 ⟨o5, n5, c5, rfl, hC5, _⟩
        clear hC4 q2 a3' hy1 hyw
        go_wp2_with fail
        refine (hC5.out.putI 1 1 x rfl (by decide) (by simp [be_len]; omega) hxb.1 hxb.2).mono ?_
        rintro e w6 ⟨o6, n6, c6, rfl, hC6, _⟩
        have hC7 : Hid (Ce w P (.slice (some ⟨g2, p2, none⟩) P.who.length cw) (.slice (some ⟨g3, p3, none⟩) P.fixed.length cf) (.slice or P.rules.length cr) w6 (.slice o6 n6 c6) (hdB P ++ stsB P L (j + 1))) := by
          have := hC6.out
          unfold Hid
          rw [hE2.out, hE.out, ← List.append_assoc, hA'.out]
          simpa [List.append_assoc] using this
        clear hC5 hC6
        go_wp2
        exact ⟨⟨j + 1, by omega, by go_num, hC7⟩, by simp [intOf]; omega⟩
      · obtain rfl : j = P.who.length := by omega
        clear hcl' hgl h' hrs
        go_wp2
        go_meet
        exact hC
  case rest =>
  have hC := hcut
  obtain ⟨ov, nv, cv, rfl⟩ := hC.out.shp
  have q3 := hC.out.pb.c3
  have hlA : (hdB P ++ stsB P L P.who.length).length ≤ 1000 := by rw [List.length_append, hdB_len, stsB_len]; omega
  clear hcl' hgl hC3 hcut
  go_wp2_with fail
  refine (hC.out.putI 1 1 (P.rules.length : Int) rfl (by decide) (by omega) (by omega) (by omega)).mono ?_
  rintro e w4 ⟨o4, n4, c4, rfl, hC4', _⟩
  have hfin : Hid (certL P L = (hdB P ++ stsB P L P.who.length ++ be 1 P.rules.length) ++ rusB P.rules) := rfl
  have hC4 : Hid (Ce w P (.slice ow P.who.length cw) (.slice of P.fixed.length cf) (.slice or P.rules.length cr) w4 (.slice o4 n4 c4) ((hdB P ++ stsB P L P.who.length ++ be 1 P.rules.length) ++ rusB (P.rules.take 0))) := by
    have := hC4'.out
    rw [Int.toNat_natCast] at this
    rw [show rusB (P.rules.take 0) = [] from rfl, List.append_nil]
    exact this
  have hlB : (hdB P ++ stsB P L P.who.length ++ be 1 P.rules.length).length ≤ 1001 := by rw [List.length_append, be_len]; omega
  generalize hdB P ++ stsB P L P.who.length ++ be 1 P.rules.length = A at *
  have hlr : Hid (∀ j, (rusB (P.rules.take j)).length ≤ 33000) := fun j => by
    have h1 : ∀ r ∈ P.rules.take j, r.steps.length ≤ 1000 := fun r hr => by
      obtain ⟨i, hi⟩ := List.getElem?_of_mem (List.mem_of_mem_take hr)
      have := (hrs.out i r hi).2.2.2.2.2
      omega
    have h2 := rusB_le h1
    rw [List.length_take] at h2
    omega
  have q3' := hC4.out.pb.c3
  clear hC hC4' q3 hlA
  go_wp2
  go_loopw [5, 9, 11, 56] (fun v _ _ p wr => ∃ j : Nat, j ≤ P.rules.length ∧ p = .int .i64 (j : Int) ∧ Hid (Ce w P (.slice ow P.who.length cw) (.slice of P.fixed.length cf) (.slice or P.rules.length cr) wr v (A ++ rusB (P.rules.take j)))) (fun _ _ _ p _ => ((P.rules.length : Int) - intOf p).toNat)
  case atStart => exact ⟨0, Nat.zero_le _, rfl, hC4⟩
  case round =>
    clear hC4 q3'
    obtain ⟨j, hj, rfl, hC⟩ := hrel
    obtain ⟨ov, nv, cv, rfl⟩ := hC.out.shp
    by_cases hlt : j < P.rules.length
    · as_aux_lemma =>
      have hlt' : (j : Int) < (P.rules.length : Int) := by omega
      obtain ⟨r, hx⟩ : ∃ r, P.rules[j]? = some r := ⟨_, List.getElem?_eq_getElem hlt⟩
      obtain ⟨oa3, ca3, e3, _, hcr⟩ := h'.out.rules
      obtain ⟨g, o, sv, r3, d1, d2, d3, d4⟩ := hcr j r hx
      injection e3 with e3a e3b e3c
      subst e3a
      subst r3
      have e1 := M.cell_over d1 hC.out.be
      have e2 := M.cell_over d2 hC.out.be
      have e4 := M.cell_over d3 hC.out.be
      obtain ⟨hr1, hr2, hr3, hr4, hr5, hr6⟩ := hrs.out j r hx
      have hr5' := hide' hr5
      have hTk := hide' (rusB_take hx)
      have hl5 := hlr.out j
      have hlen : (A ++ rusB (P.rules.take j)).length ≤ 40000 := by rw [List.length_append]; omega
      obtain ⟨osv, csv, rfl, _, hcs⟩ := d4
      have hcs' := hide' hcs
      have hA : Hid (A ++ rusB (P.rules.take (j + 1)) = A ++ rusB (P.rules.take j) ++ ruB r) := by unfold Hid; rw [hTk.out, List.append_assoc]
      have hbx := hide' (hC.out.over ((Below.refl _ wr).alloc (Nat.le_refl _) (.cells #[.int .i64 r.kind, .int .i64 r.k, .slice osv r.steps.length csv] 62)))
      have hnb : Hid ((wr.alloc (.cells #[.int .i64 r.kind, .int .i64 r.k, .slice osv r.steps.length csv] 62)).heap[wr.heap.size]? = some (.cells #[.int .i64 r.kind, .int .i64 r.k, .slice osv r.steps.length csv] 62 (0, 0))) := heap_new wr _
      generalize A ++ rusB (P.rules.take j) = D at *
      clear d1 d2 d3 hx hcr hC hTk hl5 hlr hcs hr5 e3b e3c h' hlB hrs
      go_wp2_with fail
      refine (hbx.out.putI 1 1 r.kind rfl (by decide) (by omega) hr1 (by omega)).mono ?_
      rintro e w5 ⟨o5, n5, c5, rfl, hC5, hf5⟩
      have hn5 := hide' (hf5.out.block _ _ _ _ (by decide) hnb.out)
      have k1 : w5.cell? ⟨wr.heap.size, 1, none⟩ = some (.int .i64 r.k) := by have := hn5.out; simp [World.cell?, this]
      clear e1 e2 e4 hf5 hbx hnb
      go_wp2_with fail
      refine (hC5.out.putI 4 4 r.k rfl (by decide) (by simp [be_len]; omega) hr3 (by omega)).mono ?_
      rintro e w6 ⟨o6, n6, c6, rfl, hC6, hf6⟩
      have hn6 := hide' (hf6.out.block _ _ _ _ (by decide) hn5.out)
      have k2 : w6.cell? ⟨wr.heap.size, 2, none⟩ = some (.slice osv r.steps.length csv) := by have := hn6.out; simp [World.cell?, this]
      clear k1 hf6 hC5 hn5
      go_wp2_with fail
      refine (hC6.out.putI 1 1 (r.steps.length : Int) rfl (by decide) (by simp [be_len]; omega) (by omega) (by omega)).mono ?_
      rintro e w7 ⟨o7, n7, c7, rfl, hC7, hf7⟩
      have hn7 := hide' (hf7.out.block _ _ _ _ (by decide) hn6.out)
      have k3 : w7.cell? ⟨wr.heap.size, 2, none⟩ = some (.slice osv r.steps.length csv) := by have := hn7.out; simp [World.cell?, this]
      clear k2 hf7 hC6 hn6 hn7
      rw [Int.toNat_natCast] at hC7
      have hA2 : Hid (D ++ ruB r = (D ++ be 1 r.kind.toNat ++ be 4 r.k.toNat ++ be 1 r.steps.length) ++ spB (r.steps.take r.steps.length)) := by unfold Hid ruB; rw [List.take_length]; simp
      have hC8 : Hid (Ce w P (.slice ow P.who.length cw) (.slice of P.fixed.length cf) (.slice (some ⟨g, o, none⟩) P.rules.length cr) w7 (.slice o7 n7 c7) ((D ++ be 1 r.kind.toNat ++ be 4 r.k.toNat ++ be 1 r.steps.length) ++ spB (r.steps.take 0))) := by
        have := hC7.out
        rw [show spB (r.steps.take 0) = [] from rfl, List.append_nil]
        exact this
      have hlD : (D ++ be 1 r.kind.toNat ++ be 4 r.k.toNat ++ be 1 r.steps.length).length ≤ 50000 := by simp [be_len]; omega
      generalize D ++ be 1 r.kind.toNat ++ be 4 r.k.toNat ++ be 1 r.steps.length = D2 at *
      clear hC7
      generalize wr.heap.size = gr at *
      go_wp2
      go_loopw [5, 11, 76] (fun v _ p wr => ∃ i : Nat, i ≤ r.steps.length ∧ p = .int .i64 (i : Int) ∧ Hid (Ce w P (.slice ow P.who.length cw) (.slice of P.fixed.length cf) (.slice (some ⟨g, o, none⟩) P.rules.length cr) wr v (D2 ++ spB (r.steps.take i)))) (fun _ _ p _ => ((r.steps.length : Int) - intOf p).toNat)
      case atStart => exact ⟨0, Nat.zero_le _, rfl, hC8⟩
      case round =>
        clear hC8 k3
        obtain ⟨i, hi, rfl, hC⟩ := hrel
        obtain ⟨ov2, nv2, cv2, rfl⟩ := hC.out.shp
        by_cases hlt2 : i < r.steps.length
        · have hlt3 : (i : Int) < (r.steps.length : Int) := by omega
          obtain ⟨z, hz⟩ : ∃ z, r.steps[i]? = some z := ⟨_, List.getElem?_eq_getElem hlt2⟩
          obtain ⟨g8, o8, rfl, d8⟩ := hcs'.out i z hz
          have c8 := M.cell_over d8 hC.out.be
          have hzr := hr5'.out z (List.mem_of_getElem? hz)
          have hE := hide' (spB_take hz)
          have hl9 : (D2 ++ spB (r.steps.take i)).length ≤ 60000 := by rw [List.length_append, spB_len, List.length_take]; omega
          have hA3 : Hid (D2 ++ spB (r.steps.take i) ++ be 1 z.toNat = D2 ++ spB (r.steps.take (i + 1))) := by unfold Hid; rw [hE.out, List.append_assoc]
          generalize D2 ++ spB (r.steps.take i) = D3 at *
          clear hz d8 hcs' hr5' hE hA2 hA hlD
          go_wp2_with fail
          refine (hC.out.putI 1 1 z rfl (by decide) (by omega) hzr.1 (by omega)).mono ?_
          rintro e w9 ⟨o9, n9, c9, rfl, hC9, _⟩
          rw [hA3.out] at hC9
          clear hC c8
          go_wp2
          exact ⟨⟨i + 1, by omega, by go_num, hC9⟩, by simp [intOf]; omega⟩
        · obtain rfl : i = r.steps.length := by omega
          rw [← hA2.out, ← hA.out] at hC
          clear hcs' hr5' hA hA2
          go_wp2
          exact ⟨⟨j + 1, by omega, by go_num, hC⟩, by simp [intOf]; omega⟩
    · as_aux_lemma =>
      obtain rfl : j = P.rules.length := by omega
      rw [List.take_length, ← hfin.out] at hC
      clear hrs hlr h'
      go_wp2
      go_ret
      exact ⟨_, rfl, owns_lowS hC.out.own (Nat.le_succ _), hC.out.be, FzB.below hC.out.be⟩
end Go.Proofs.Ytfajgbdnfphajaa.S

/- JournalCuts, walked. -/
import Derived.Test.YtcbddkfbpgjknaaJnC0
namespace Go.Proofs.Ytcbddkfbpgjknaa
open Go.RowKit
/-- What stands between the rounds: the last record. -/
structure Cz (w : World) (B : Nat) (v : Value) (R : List Nat) (V : World) : Prop where
  be : Below w.heap.size w V
  own : V.ownsRow B 5 1 v R.length (cellsB R)
theorem Cz.up {w : World} {B : Nat} {v : Value} {R : List Nat} {V V' : World} (h : Cz w B v R V) (hb : Below V.heap.size V V') : Cz w B v R V' := ⟨h.be.trans (hb.mono h.be.size), own_up h.own hb⟩
theorem RowR.at {w : World} {oa : Option Addr} {n cap : Nat} {F : List (List Nat)} (h : RowR w (.slice oa n cap) F) {i : Nat} {r : List Nat} (hr : F[i]? = some r) : ∃ g o u, oa = some ⟨g, o, none⟩ ∧ Hid (∀ w', Below w.heap.size w w' → w'.cell? ⟨g, o + i, none⟩ = some u) ∧ Hid (RowC w u r) := by
  obtain ⟨oa', cap', e, h1⟩ := h
  injection e with e1 e2 e3
  subst e1
  obtain ⟨g, o, u, e1, e2, e3⟩ := h1 i r hr
  exact ⟨g, o, u, e1, fun w' hb => (hb.cell (p := ⟨g, o + i, none⟩) (cell_lt e2)).trans e2, e3⟩
set_option maxRecDepth 100000 in
set_option maxHeartbeats 16000000 in
theorem journalCuts_walk (F : List (List Nat)) (fv lv : Value) (L : List Nat) (w : World) (hF : RowR w fv F) (hFb : ∀ r ∈ F, B256 r) (hL : RowC w lv L) (hLb : B256 L) : Calls Try.prog 6 #[fv, lv] w fun e w' => e = .returned (.bool true) ∧ Below w.heap.size w w' := by
  have hF' := hide' hF
  have hFb' := hide' hFb
  obtain ⟨of, cf, rfl, _⟩ := hF
  have hL' := hide' hL
  obtain ⟨ol, cl, rfl, _⟩ := hL
  clear hFb
  have K1 := hide' (wakesJ w)
  have KF := hide' (fun V (hV : Below w.heap.size w V) => fewV L _ V 200 (by omega) (hL'.out.below hV (Nat.le_refl _)))
  rw [show ((200 : Nat) : Int) = 200 from rfl] at KF
  have hRl : Hid ((L.take 200).length ≤ 200) := by unfold Hid; rw [List.length_take]; omega
  have hRb := hide' (hLb.take 200)
  clear hLb
  generalize L.take 200 = R at *
  generalize L.length = ll at *
  generalize hm : F.length = m at *
  have hm' := hide' hm
  clear hm hL'
  go_enter Try.func6, Try.ntmps6
  go_upto_block 0 with (first | (go_at_call 9; refine K1.out.mono ?_; rintro e w1 ⟨rfl, hw1⟩; have hw1' := hide' hw1; clear hw1) | (go_at_call 12; refine (KF.out _ hw1'.out).mono ?_; rintro e w2 ⟨o1, n1, c1, rfl, hn1, hown2, hb2⟩))
  have hC : Hid (Cz w w1.heap.size (.slice o1 n1 c1) R w2) := ⟨hw1'.out.trans (hb2.out.mono hw1'.out.size), hown2.out⟩
  generalize w1.heap.size = B at *
  clear hown2 hb2 KF K1 hw1'
  have hnl : n1 ≤ 200 := by rw [hn1.out]; exact hRl.out
  have hsp : Hid (spn n1 ≤ 13) := by unfold Hid spn; omega
  have hsn : Hid (spn n1 = spn R.length) := by unfold Hid; rw [hn1.out]
  have hdiv : Hid (((n1 : Int) + 15) / 16 = (spn n1 : Int)) := by unfold Hid spn; omega
  go_wp2_with fail
  go_loopw [7, 8, 9, 10, 11, 12, 13, 14, 15, 16, 17, 18, 19, 20] (fun kv _ _ _ _ _ _ _ _ _ _ _ _ _ wr => ∃ k : Nat, kv = .int .i64 (k : Int) ∧ k ≤ spn n1 + 2 ∧ Hid (Cz w B (.slice o1 n1 c1) R wr)) (fun kv _ _ _ _ _ _ _ _ _ _ _ _ _ _ => ((40 : Int) - intOf kv).toNat)
  case atStart => exact ⟨0, rfl, by omega, hC⟩
  case round =>
    clear hC
    obtain ⟨k, rfl, hk, hC⟩ := hrel
    have hk40 : k < 40 := by have := hsp.out; omega
    have hk40' : (k : Int) < 40 := by omega
    obtain ⟨W0, rfl⟩ : ∃ W, W = wr := ⟨_, rfl⟩
    have KN := hide' (newF 100 W0 (by omega) (by omega))
    unfold NewP at KN
    rw [show ((100 : Nat) : Int) = 100 from rfl] at KN
    go_wp2_with fail
    refine KN.out.mono ?_
    rintro e w4 ⟨g, gb, rfl, hd4, hge4, hb4⟩
    have KO := hide' (kz_open2 (w := W0) hd4.out (by omega) (by omega) hb4.out hge4.out.1 hge4.out.2)
    unfold KoF at KO
    go_wp2_with fail
    refine KO.out.mono ?_
    rintro e w5 ⟨gj, oj, cj, kl, D, J, GG, rfl, hkl, hz, _, _, hJ⟩
    obtain rfl : kl = 0 := hkl.out.1
    have hfr := hide' (hJ.out.2.2.2 (newD_free 100))
    have hJ' : Hid (J.dn = false ∧ J.e ≤ 1 + 14 * 0) := ⟨hJ.out.1, by have := hJ.out.2.1; omega⟩
    clear KN KO hd4 hge4 hb4 hkl hJ
    go_upto_block 2 with fail
    go_cut [13, 14] from 48 to 67 (fun nv _ wx => ∃ (j : Nat) (K : List (List Nat)) (D : Dk) (J : Jn), nv = .int .i64 (j : Int) ∧ j ≤ 4 ∧ Hid (K.length = j) ∧ Hid (J.dn = false ∧ J.e ≤ 1 + 14 * j) ∧ Hid (Fre D) ∧ Hid (Kz W0 g gb 100 gj D J K (j + 1) wx))
    case first =>
      go_wp2_with fail
      go_loopw [13, 14] (fun nv iv wx => ∃ (j : Nat) (K : List (List Nat)) (D : Dk) (J : Jn), nv = .int .i64 (j : Int) ∧ iv = .int .i64 (j : Int) ∧ j ≤ 4 ∧ Hid (K.length = j) ∧ Hid (J.dn = false ∧ J.e ≤ 1 + 14 * j) ∧ Hid (Fre D) ∧ Hid (Kz W0 g gb 100 gj D J K (j + 1) wx)) (fun _ iv _ => ((4 : Int) - intOf iv).toNat)
      case atStart => exact ⟨0, [], D, J, rfl, rfl, by omega, rfl, hJ', hfr, hz⟩
      case round =>
        clear hz hfr hJ'
        obtain ⟨j, K, D, J, rfl, rfl, hj, hKl, hJ, hfr, hz⟩ := hrel
        by_cases hlt : j < m ∧ j < 4
        · have hlt1 : (j : Int) < (m : Int) := by omega
          have hlt2 : (j : Int) < 4 := by omega
          obtain ⟨r, hr⟩ : ∃ r, F[j]? = some r := ⟨_, List.getElem?_eq_getElem (by rw [hm'.out]; omega)⟩
          obtain ⟨g0, o0, u, rfl, hcell, hrow⟩ := hF'.out.at hr
          have hbw : Hid (Below w.heap.size w wr) := hC.out.be.trans (hz.out.be.mono hC.out.be.size)
          have c0 := hcell.out wr hbw.out
          have KF := hide' (fewV r u wr 200 (by omega) (hrow.out.below hbw.out (Nat.le_refl _)))
          rw [show ((200 : Nat) : Int) = 200 from rfl] at KF
          have hQl : Hid ((r.take 200).length ≤ 200) := by unfold Hid; rw [List.length_take]; omega
          have hQb := hide' ((hFb'.out r (List.mem_of_getElem? hr)).take 200)
          generalize r.take 200 = Q at *
          clear hr hcell hrow
          go_wp2_with fail
          refine KF.out.mono ?_
          rintro e w6 ⟨o6, n6, c6, rfl, hn6, hown6, hb6⟩
          have hz6 := hide' (hz.out.up hb6.out)
          have hsq : Hid (spn Q.length ≤ 13) := by have := hQl.out; unfold Hid spn; omega
          have KA := hide' (hz6.out.appF hfr.out hJ.out.1 (by have := hJ.out.2; have := hsq.out; omega) (RowC.of_owns hown6.out) (own_ne hown6.out (blk_lt hz.out.dk.1) (blk_lt hz.out.dk.2)) (by have := hQl.out; omega) hQb.out (by omega))
          go_wp2_with fail
          refine KA.out.mono ?_
          rintro e w7 ⟨rfl, D7, J7, hz7, hfr7, hJ7, hk7⟩
          have hJ8 : Hid (J7.dn = false ∧ J7.e ≤ 1 + 14 * (j + 1)) := ⟨hJ7.out.1, by have := hJ7.out.2; have := hJ.out.2; have := hsq.out; omega⟩
          have hKl8 : Hid ((K ++ [Q]).length = j + 1) := by unfold Hid; rw [List.length_append, hKl.out]; rfl
          generalize K ++ [Q] = K7 at *
          clear KA KF hz6 hJ7 hk7
          go_wp2
          exact ⟨⟨j + 1, K7, D7, J7, by go_num, by go_num, by omega, hKl8, hJ8, hfr7, hz7⟩, by simp [intOf]; omega⟩
        · by_cases h4 : (j : Int) < (m : Int)
          · have h2 : ¬ (j : Int) < 4 := by omega
            go_wp2_with fail
            go_meet
            case rel => exact ⟨j, K, D, J, rfl, hj, hKl, hJ, hfr, hz⟩
          · go_wp2_with fail
            go_meet
            case rel => exact ⟨j, K, D, J, rfl, hj, hKl, hJ, hfr, hz⟩
    case rest =>
      clear hz hfr hJ'
      obtain ⟨j, K, D, J, rfl, hj, hKl, hJ, hfr, hz⟩ := hcut
      have KWr := hide' (writesF hz.out.dk)
      have KFu := hide' (hz.out.fuse (k : Int) (by omega))
      go_wp2_with (first | (go_at_call 17; refine KWr.out.mono ?_; rintro e' w6 ⟨rfl, hw6⟩; obtain rfl : wc = w6 := hw6.symm))
      refine KFu.out.mono ?_
      rintro e w6 ⟨rfl, hz6, hk6⟩
      have hC6 := hide' (hC.out.up hz6.out.be)
      have hrw6 := hide' (RowC.of_owns hC6.out.own)
      go_wp2_with (at_builtin; refine app_all rfl (.tmp 74) (.tmp 75) rfl rfl _ rfl R hrw6.out (by have := hRl.out; omega) ?_; intro o7 n7 c7 w7 hn7 hown7 hb7)
      have hz7 := hide' (hz6.out.up hb7.out)
      have hroom : Hid (J.e + 1 + spn R.length < 100) := by have := hJ.out.2; have := hsp.out; have := hsn.out; unfold Hid; omega
      have hap := hide' (ap_fuse (n := 100) (k := k) (R := R) hfr.out hJ.out.1 hroom.out)
      have KA := hide' (hz7.out.app2 (RowC.of_owns hown7.out) (own_ne hown7.out (blk_lt hz6.out.dk.1) (blk_lt hz6.out.dk.2)) (by have := hRl.out; omega) hRb.out (by omega))
      refine KA.out.mono ?_
      rintro e w8 ⟨r, rfl, hr, hz8, hk8⟩
      have hC8 := hide' (hC.out.up hz8.out.be)
      have hwr8 := hide' hap.out.2.2
      clear KWr KFu hz6 hk6 hC6 hrw6 hz7 hown7 hb7 KA
      have KW8 := hide' (writesF hz8.out.dk)
      have KRs := hide' hz8.out.restart
      have hD0 := hide' (And.intro hz.out.ok.wr0 hz.out.wr)
      by_cases hlt : k < spn n1 + 2
      · have hb := hide' (hap.out.2.1 (by rw [← hsn.out]; exact hlt))
        obtain rfl : r = 50 := hr.out.trans hb.out.1
        have hw8 : Hid ((apD 100 (fuD D (k : Int)) J R).writes = D.writes + (k : Int)) := by
          unfold Hid
          rw [hwr8.out, ← hsn.out, Nat.min_eq_left (by omega)]
        have hz9 : Hid (Kz W0 g gb 100 gj (apD 100 (fuD D (k : Int)) J R) (apJ 100 (fuD D (k : Int)) J R) K (j + 1 + 1) w8) := by
          have := hz8.out
          rw [show apL 100 (fuD D (k : Int)) J R K = K by rw [hb.out.2]] at this
          exact this
        rw [hw8.out] at KW8
        have hsub : IntKind.i64.wrap (D.writes + (k : Int) - D.writes) = (k : Int) := by rw [show D.writes + (k : Int) - D.writes = (k : Int) by omega]; exact wrap_id (by omega) (by omega)
        have KRs9 := hide' hz9.out.restart
        clear hb hr hap hwr8 hw8 KRs hz8
        generalize D.writes = dw at *
        generalize apD 100 (fuD D (k : Int)) J R = D8 at *
        generalize apJ 100 (fuD D (k : Int)) J R = J8 at *
        go_wp2_with (first | (go_at_call 17; refine KW8.out.mono ?_; rintro e' w9 ⟨rfl, hw9⟩; obtain rfl : w8 = w9 := hw9.symm))
        refine KRs9.out.mono ?_
        rintro e w9 ⟨rfl, hz10, hk10⟩
        have KO := hide' (hz10.out.open2 rfl (by omega))
        unfold KoF at KO
        go_wp2_with fail
        refine KO.out.mono ?_
        rintro e w11 ⟨gj2, o2, c2, kl, D2, J2, GG2, rfl, hkl2, hz11, hrs11, hk11, hJ11⟩
        have hC11 := hide' (hC.out.up hz11.out.be)
        obtain rfl : kl = j := by rw [hkl2.out.1, hKl.out]
        clear KO hkl2 hrs11 hk11 hJ11 hz10 hk10 KRs9 KW8
        have e1 : ((kl : Int) == (kl : Int) + 1) = false := by simp; omega
        go_wp2
        exact ⟨⟨k + 1, by go_num, by omega, hC11⟩, by simp [intOf]; omega⟩
      · have hke : k = spn n1 + 2 := by omega
        have hdn := hide' (hap.out.1 (by rw [← hsn.out]; omega))
        obtain rfl : r = 0 := by rw [hr.out]; unfold apE; rw [hdn.out]
        have hw8 : Hid ((apD 100 (fuD D (k : Int)) J R).writes = D.writes + (k : Int)) := by
          unfold Hid
          rw [hwr8.out, ← hsn.out, Nat.min_eq_left (by omega)]
        have hz9 : Hid (Kz W0 g gb 100 gj (apD 100 (fuD D (k : Int)) J R) (apJ 100 (fuD D (k : Int)) J R) (K ++ [R]) (j + 1 + 1) w8) := by
          have := hz8.out
          rw [show apL 100 (fuD D (k : Int)) J R K = K ++ [R] by unfold apL; rw [hdn.out]] at this
          exact this
        rw [hw8.out] at KW8
        have hsub : IntKind.i64.wrap (D.writes + (k : Int) - D.writes) = (k : Int) := by rw [show D.writes + (k : Int) - D.writes = (k : Int) by omega]; exact wrap_id (by omega) (by omega)
        have KRs9 := hide' hz9.out.restart
        have hke' := hide' hke
        clear hr hap hwr8 hw8 KRs hz8 hdn hke hlt
        generalize D.writes = dw at *
        generalize apD 100 (fuD D (k : Int)) J R = D8 at *
        generalize apJ 100 (fuD D (k : Int)) J R = J8 at *
        go_wp2_with (first | (go_at_call 17; refine KW8.out.mono ?_; rintro e' w9 ⟨rfl, hw9⟩; obtain rfl : w8 = w9 := hw9.symm))
        refine KRs9.out.mono ?_
        rintro e w9 ⟨rfl, hz10, hk10⟩
        have KO := hide' (hz10.out.open2 rfl (by omega))
        unfold KoF at KO
        go_wp2_with fail
        refine KO.out.mono ?_
        rintro e w11 ⟨gj2, o2, c2, kl, D2, J2, GG2, rfl, hkl2, hz11, hrs11, hk11, hJ11⟩
        have hC11 := hide' (hC.out.up hz11.out.be)
        obtain rfl : kl = j + 1 := by rw [hkl2.out.1, List.length_append, hKl.out]; rfl
        have hrow11 := hrs11.out.row
        rw [hkl2.out.2.1] at hrow11
        obtain ⟨gl, ol2, u, rfl, hcu, hru⟩ := hrow11.at (i := j) (r := R) (by rw [← hKl.out]; simp)
        have c11 := hcu.out w11 (Below.refl _ _)
        have cv1 := conv_drew hru.out
        have cv2 := conv_drew (RowC.of_owns hC11.out.own)
        have e1 : ((j : Int) + 1 == (j : Int)) = false := by simp; omega
        have e3 : (j : Int) < (j : Int) + 1 := by omega
        have e4 : (k : Int) = ((n1 : Int) + 15) / 16 + 2 := by have := hdiv.out; have := hke'.out; omega
        have e4' : ((k : Int) == ((n1 : Int) + 15) / 16 + 2) = true := by simpa using e4
        have hbe11 := hide' hC11.out.be
        generalize strB R = sb at *
        clear KO hkl2 hrs11 hk11 hJ11 hz10 hk10 KRs9 KW8 hru hcu hC11 hrow11 hke' e4
        go_wp2
        go_quiet (fail)
        have hbe12 := hide' (below_drewN hbe11.out nq)
        go_wp2
        go_ret
        exact ⟨rfl, hbe12.out⟩
end Go.Proofs.Ytcbddkfbpgjknaa

/- JournalKeeps, walked. -/
import Derived.Test.YtcbddkfbpgjknaaJnY
namespace Go.Proofs.Ytcbddkfbpgjknaa
open Go.RowKit
/-- What stands between the rounds. -/
structure Kk (w : World) (g gb n B gj : Nat) (D : Dk) (J : Jn) (i : Nat) (kv : Value) (G : List (Value × List Nat)) (V : World) : Prop where
  kz : Kz w g gb n gj D J (G.map (·.2)) i V
  rs : RsO V B kv G
  lg : g < B
  lb : gb < B
  lw : w.heap.size ≤ B
  lv : B ≤ V.heap.size
  gl : G.length ≤ i
section
variable {w : World} {g gb n B gj : Nat} {D D' : Dk} {J J' : Jn} {i : Nat} {kv : Value} {G : List (Value × List Nat)} {V V' : World}
theorem Kk.up (h : Kk w g gb n B gj D J i kv G V) (hb : Below V.heap.size V V') : Kk w g gb n B gj D J i kv G V' :=
  ⟨h.kz.up hb, h.rs.below hb, h.lg, h.lb, h.lw, Nat.le_trans h.lv hb.size, h.gl⟩
theorem Kk.disk (h : Kk w g gb n B gj D J i kv G V) (hz : Kz w g gb n gj D' J (G.map (·.2)) i V') (hk : Kp g gb V V') : Kk w g gb n B gj D' J i kv G V' :=
  ⟨hz, h.rs.kp hk h.lg h.lb, h.lg, h.lb, h.lw, Nat.le_trans h.lv hk.size, h.gl⟩
theorem Kk.app (h : Kk w g gb n B gj D J i kv G V) (hz : Kz w g gb n gj D' J' (G.map (·.2)) (i + 1) V') (hk : Kj g gb gj V V') : Kk w g gb n B gj D' J' (i + 1) kv G V' :=
  ⟨hz, h.rs.kj hk h.lg h.lb h.kz.jn, h.lg, h.lb, h.lw, Nat.le_trans h.lv hk.size, Nat.le_succ_of_le h.gl⟩
theorem Kk.open {gj' : Nat} (h : Kk w g gb n B gj D J i kv G V) (hz : Kz w g gb n gj' D' J' (G.map (·.2)) (i + 1) V') (hk : Kp g gb V V') : Kk w g gb n B gj' D' J' (i + 1) kv G V' :=
  ⟨hz, h.rs.kp hk h.lg h.lb, h.lg, h.lb, h.lw, Nat.le_trans h.lv hk.size, Nat.le_succ_of_le h.gl⟩
theorem Kk.next (h : Kk w g gb n B gj D J i kv G V) : Kk w g gb n B gj D J (i + 1) kv G V := ⟨h.kz.next, h.rs, h.lg, h.lb, h.lw, h.lv, Nat.le_succ_of_le h.gl⟩
/-- A row more is kept. -/
theorem Kk.keep {kv2 : Value} {G2 : List (Value × List Nat)} {u : Value} {r : List Nat} (_ : RsO V B kv G) (hz : Kz w g gb n gj D' J' (G.map (·.2) ++ [r]) (i + 1) V) (hG : G2 = G ++ [(u, r)]) (hr : RsO V' B kv2 G2) (hb : Below B V V') (hs : KpS V V') (lg : g < B) (lb : gb < B) (lw : w.heap.size ≤ B) (lv : B ≤ V.heap.size) (gl : G.length ≤ i) : Kk w g gb n B gj D' J' (i + 1) kv2 G2 V' := by
  subst hG
  refine ⟨?_, hr, lg, lb, lw, Nat.le_trans lv hb.size, by simp; omega⟩
  rw [List.map_append]
  exact hz.upS hb hs lw
end
set_option maxRecDepth 100000 in
set_option maxHeartbeats 16000000 in
theorem journalKeeps_walk (O : List Oj) (ov : Value) (f : Int) (w : World) (hr : RowP w ov O) (hf1 : -9223372036854775808 ≤ f) (hf2 : f < 9223372036854775808) : Calls Try.prog 5 #[.int .i64 f, ov] w fun e w' => e = .returned (.bool true) ∧ Below w.heap.size w w' := by
  have hO := hide' hr
  obtain ⟨oa, cap, rfl, _, _⟩ := hr
  generalize hm : O.length = m at *
  have hm' := hide' hm
  clear hm
  have K := hide' (disksF f w hf1 hf2)
  unfold DsP at K
  clear hf1 hf2
  go_enter Try.func5, Try.ntmps5
  go_wp2_with fail
  refine K.out.mono ?_
  rintro e w1 ⟨n, g, gb, r, rb, rc, rfl, hn, hd, _, hge, hb⟩
  have K1 := hide' (wakesJ w1)
  have KB := hide' (fun V (hV : Below w1.heap.size w1 V) => blocksF (hd.out.below hV (Nat.le_refl _)) (newD_ok (n := n) hn.out.1 (by have := hn.out.2; omega)).len (by have := hn.out.2; omega))
  have hn1 := hn.out.1
  have hn2 := hn.out.2
  by_cases hn2' : n < 2
  · have hnI : (n : Int) < 2 := by omega
    have KO := hide' (fun V (hV : Below w1.heap.size w1 V) => openFew (hd.out.below hV (Nat.le_refl _)) (newD_ok (n := n) hn.out.1 (by have := hn.out.2; omega)).len hn2')
    go_wp2_with (first | (go_at_call 9; refine K1.out.mono ?_; rintro e w2 ⟨rfl, hw2⟩; have hw2' := hide' hw2; clear hw2) | (go_at_call 18; refine (KB.out _ hw2'.out).mono ?_; rintro e' w3 ⟨rfl, hw3⟩; obtain rfl : w2 = w3 := hw3.symm) | (go_at_call 15; refine (KO.out _ hw2'.out).mono ?_; rintro e' w3 ⟨rfl, hw3⟩; obtain rfl : w2 = w3 := hw3.symm))
    go_ret
    exact ⟨rfl, hb.out.trans (hw2'.out.mono hb.out.size)⟩
  · have hnI : ¬ (n : Int) < 2 := by omega
    have KO := hide' (fun V (hV : Below w1.heap.size w1 V) => kz_open (w := w) (hd.out.below hV (Nat.le_refl _)) (by omega) (by omega) (hb.out.trans (hV.mono hb.out.size)) hge.out.1 hge.out.2.1)
    unfold KoP at KO
    go_wp2_with (first | (go_at_call 9; refine K1.out.mono ?_; rintro e w2 ⟨rfl, hw2⟩; have hw2' := hide' hw2; clear hw2) | (go_at_call 18; refine (KB.out _ hw2'.out).mono ?_; rintro e' w3 ⟨rfl, hw3⟩; obtain rfl : w2 = w3 := hw3.symm))
    refine (KO.out w2 hw2'.out).mono ?_
    rintro e w3 ⟨gj, oj, cj, kl, D, J, GG, rfl, hkl, hz, _, hk3⟩
    obtain rfl : kl = 0 := hkl.out.1
    have hdn := hide' hkl.out.2.2.2
    have hQ : Hid (Kk w g gb n w3.heap.size gj D J 1 (.slice none 0 0) [] w3) := ⟨hz.out, RsO.nil _ _, blk_lt hz.out.dk.1, blk_lt hz.out.dk.2, hz.out.be.size, Nat.le_refl _, by simp⟩
    clear hz hkl hk3 KO KB K1 K hd hge hb hn hnI hn2' hw2'
    generalize w3.heap.size = B at *
    go_upto_block 0 with fail
    go_wp2_with fail
    go_loopw [10, 11, 12, 13, 14, 15, 16, 17] (fun jv _ _ kv mv iv _ _ wr => ∃ (i gj : Nat) (D : Dk) (J : Jn) (G : List (Value × List Nat)) (ok : Option Addr) (gl ck : Nat), jv = .pointer (some ⟨gj, 0, none⟩) ∧ iv = .int .i64 (i : Int) ∧ i ≤ 150 ∧ kv = .slice ok gl ck ∧ Hid (gl = G.length) ∧ Hid ((mv = .slice none 0 0 ∧ J.dn = false) ∨ ∃ o c, mv = .slice o 1 c ∧ J.dn = true) ∧ Hid (Kk w g gb n B gj D J (i + 1) (.slice ok gl ck) G wr)) (fun _ _ _ _ _ iv _ _ _ => ((150 : Int) - intOf iv).toNat)
    case atStart => exact ⟨0, gj, D, J, [], none, 0, 0, rfl, rfl, by omega, rfl, rfl, .inl ⟨rfl, hdn.out⟩, hQ⟩
    case round =>
      clear hQ hdn
      obtain ⟨i, gj, D, J, G, ok, gl, ck, rfl, rfl, hi, rfl, hgl, hmv, hQ⟩ := hrel
      by_cases hlt : i < m ∧ i < 150
      · have hlt1 : (i : Int) < (m : Int) := by omega
        have hlt2 : (i : Int) < 150 := by omega
        obtain ⟨p, hp⟩ : ∃ p, O[i]? = some p := ⟨_, List.getElem?_eq_getElem (by rw [hm'.out]; omega)⟩
        obtain ⟨go, oo, dv, rfl, hcs, hrow, hdb, hpn⟩ := hO.out.at hp
        obtain ⟨c0, c1, c2⟩ := hcs.out wr hQ.out.kz.be
        clear hp
        have hgb : gl ≤ 1000 := by have := hQ.out.gl; rw [← hgl.out] at this; omega
        by_cases h1 : p.d = 1
        · rw [h1] at c0
          have KF := hide' (fewV p.data dv wr 700 (by omega) (hrow.out.below hQ.out.kz.be (Nat.le_refl _)))
          rw [show ((700 : Nat) : Int) = 700 from rfl] at KF
          have hRl : Hid ((p.data.take 700).length ≤ 700) := by unfold Hid; rw [List.length_take]; omega
          have hRb := hide' (hdb.out.take 700)
          generalize p.data.take 700 = R at *
          go_wp2_with fail
          refine KF.out.mono ?_
          rintro e w4 ⟨o1, n1, c1', rfl, hn1, hown4, hb4⟩
          have hQ4 := hide' (hQ.out.up hb4.out)
          have hrw4 := hide' (RowC.of_owns hown4.out)
          have hok4 := hide' (own_lowB hown4.out hQ.out.lv)
          go_wp2_with (at_builtin; refine app_all rfl (.tmp 85) (.tmp 86) rfl rfl _ rfl R hrw4.out (by have := hRl.out; omega) ?_; intro o5 n5 c5 w5 hn5 hown5 hb5)
          have hQ5 := hide' (hQ4.out.up hb5.out)
          have hok5 := hide' (own_up hok4.out hb5.out)
          have KA := hide' (hQ5.out.kz.app (RowC.of_owns hown5.out) (own_ne hown5.out (Nat.lt_of_lt_of_le hQ4.out.lg hQ4.out.lv) (Nat.lt_of_lt_of_le hQ4.out.lb hQ4.out.lv)) hRl.out hRb.out (by omega))
          unfold KaP at KA
          clear hrw4 hown4 hown5 hb4 hb5 hok4 hQ4 KF hn5
          refine KA.out.mono ?_
          rintro e w6 ⟨r, D6, J6, rfl, hk6, hc6⟩
          have hok6 := hide' (own_kj hok5.out hk6.out hQ5.out.lg hQ5.out.lb hQ5.out.kz.jn)
          rcases hc6.out with ⟨rfl, hj0, hj6, hz6⟩ | ⟨rfl, hj6, hz6⟩ | ⟨rfl, hj0, hj6, hz6⟩
          · have hz6' := hide' hz6
            have hj6' := hide' hj6
            have hrs6 := hide' (hQ5.out.rs.kj hk6.out hQ5.out.lg hQ5.out.lb hQ5.out.kz.jn)
            have hlv6 := hide' (Nat.le_trans hQ5.out.lv hk6.out.size)
            obtain ⟨rfl, _⟩ | ⟨o, c, rfl, hd⟩ := hmv.out
            · have hgl1 : Hid (G.length ≤ 1000000) := by have := hQ5.out.gl; unfold Hid; omega
              clear hz6 hj6 hj0 hc6
              go_wp2_with (at_builtin; refine hrs6.out.app rfl (.tmp 94) (.tmp 96) rfl rfl rfl hlv6.out hgl1.out o1 n1 c1' R hok6.out ?_; intro o7 n7 c7 w7 G7 hG7 hn7 hrs7 hb7 hs7)
              have hQ7 := hide' (Kk.keep hrs6.out hz6'.out hG7.out hrs7.out hb7.out hs7.out hQ5.out.lg hQ5.out.lb hQ5.out.lw hlv6.out hQ5.out.gl)
              exact ⟨⟨i + 1, gj, D6, J6, G7, o7, n7, c7, rfl, by go_num, by omega, rfl, hn7, .inl ⟨rfl, hj6'.out⟩, hQ7⟩, by simp [intOf]; omega⟩
            · rw [hj0] at hd
              cases hd
          · have hQ6 := hide' (hQ5.out.app hz6 hk6.out)
            have hj6' := hide' hj6
            obtain ⟨rfl, _⟩ | ⟨o, c, rfl, hd⟩ := hmv.out
            · clear hz6 hj6 hc6
              go_wp2_with (at_builtin; refine app_nil1 rfl (.tmp 103) (.tmp 105) rfl rfl rfl o1 n1 c1' ?_; intro o7 c7 w7 hb7)
              have hQ7 := hide' (hQ6.out.up hb7.out)
              exact ⟨⟨i + 1, gj, D6, J6, G, ok, gl, ck, rfl, by go_num, by omega, rfl, hgl, .inr ⟨o7, c7, rfl, hj6'.out⟩, hQ7⟩, by simp [intOf]; omega⟩
            · clear hz6 hj6 hc6
              go_wp2
              exact ⟨⟨i + 1, gj, D6, J6, G, ok, gl, ck, rfl, by go_num, by omega, rfl, hgl, .inr ⟨o, c, rfl, hj6'.out⟩, hQ6⟩, by simp [intOf]; omega⟩
          · have hQ6 := hide' (hQ5.out.app hz6 hk6.out)
            have hj6' := hide' hj6
            obtain ⟨rfl, _⟩ | ⟨o, c, rfl, hd⟩ := hmv.out
            · clear hz6 hj6 hj0 hc6
              go_wp2
              exact ⟨⟨i + 1, gj, D6, J6, G, ok, gl, ck, rfl, by go_num, by omega, rfl, hgl, .inl ⟨rfl, hj6'.out⟩, hQ6⟩, by simp [intOf]; omega⟩
            · rw [hj0] at hd
              cases hd
        · have e1 : (p.d == 1) = false := by simpa using h1
          by_cases h2 : p.d = 2
          · rw [h2] at c0
            have KF := hide' (hQ.out.kz.fuse p.n hpn)
            go_wp2_with fail
            refine KF.out.mono ?_
            rintro e w4 ⟨rfl, hz4, hk4⟩
            have hQ4 := hide' (hQ.out.disk hz4.out hk4.out).next
            go_wp2
            exact ⟨⟨i + 1, gj, _, J, G, ok, gl, ck, rfl, by go_num, by omega, rfl, hgl, hmv, hQ4⟩, by simp [intOf]; omega⟩
          · have e2 : (p.d == 2) = false := by simpa using h2
            by_cases h34 : p.d = 3 ∨ p.d = 4
            · rcases h34 with h3 | h3 <;> rw [h3] at c0
              · have KRs := hide' hQ.out.kz.restart
                go_wp2_with fail
                refine KRs.out.mono ?_
                rintro e w4 ⟨rfl, hz4, hk4⟩
                have hQ4 := hide' (hQ.out.disk hz4.out hk4.out)
                obtain ⟨c0', c1', c2'⟩ := hcs.out w4 hQ4.out.kz.be
                clear hz4 hk4 KRs c0 c1 c2
                by_cases hn0 : p.n = 0
                · rw [hn0] at c1'
                  have KF := hide' (hQ4.out.kz.fuse 0 (by omega))
                  go_wp2_with fail
                  refine KF.out.mono ?_
                  rintro e w5 ⟨rfl, hz5, hk5⟩
                  have hQ5 := hide' (hQ4.out.disk hz5.out hk5.out)
                  obtain ⟨d0, d1, d2⟩ := hcs.out w5 hQ5.out.kz.be
                  rw [hn0] at d1
                  have KD := hide' (hQ5.out.kz.openDown (by simp [fuD, reD]))
                  have KR2 := hide' hQ5.out.kz.restart
                  clear hz5 hk5 KF c0' c1' c2'
                  go_wp2_with (first | (go_at_call 15; refine KD.out.mono ?_; rintro e' w6 ⟨rfl, hw6⟩; obtain rfl : w5 = w6 := hw6.symm))
                  refine KR2.out.mono ?_
                  rintro e w6 ⟨rfl, hz6, hk6⟩
                  have hQ6 := hide' (hQ5.out.disk hz6.out hk6.out)
                  have KO := hide' (hQ6.out.kz.open rfl (by omega))
                  unfold KoP at KO
                  clear hz6 hk6 KD KR2
                  go_wp2_with fail
                  refine KO.out.mono ?_
                  rintro e w7 ⟨gj7, o7, c7, kl, D7, J7, GG, rfl, hkl, hz7, hrs7, hk7⟩
                  have hQ7 := hide' (hQ6.out.open hz7.out hk7.out)
                  have hrs7' := hide' hrs7.out.row
                  rw [hkl.out.2.1] at hrs7'
                  have hj7 := hide' hkl.out.2.2.2
                  have hne : ((kl : Int) == (gl : Int) + 1) = false := by
                    have e1 : kl = gl := by rw [hkl.out.1, hgl.out, List.length_map]
                    simp
                    omega
                  have KRw := hide' (rowsF hrs7'.out hQ7.out.rs.row (by rw [List.length_map]; have := hQ7.out.gl; omega))
                  clear hz7 hk7 hrs7 hkl hrs7'
                  go_wp2_with fail
                  refine KRw.out.mono ?_
                  rintro e w8 ⟨rfl, hb8⟩
                  have hQ8 := hide' (hQ7.out.up hb8)
                  have KLn := hide' (lenF hQ8.out.kz.jn)
                  rw [hQ8.out.kz.cnt, List.length_map, ← hgl.out] at KLn
                  clear hb8 hQ7 KRw
                  go_wp2_with (first | (go_at_call 23; refine KLn.out.mono ?_; rintro e' w9 ⟨rfl, hw9⟩; obtain rfl : w8 = w9 := hw9.symm))
                  exact ⟨⟨i + 1, gj7, D7, J7, G, ok, gl, ck, rfl, by go_num, by omega, rfl, hgl, .inl ⟨rfl, hj7.out⟩, hQ8⟩, by simp [intOf]; omega⟩
                · have e0 : (p.n == 0) = false := by simpa using hn0
                  by_cases hn1 : p.n = 1
                  · rw [hn1] at c1'
                    have KF := hide' (hQ4.out.kz.fuse 1 (by omega))
                    go_wp2_with fail
                    refine KF.out.mono ?_
                    rintro e w5 ⟨rfl, hz5, hk5⟩
                    have hQ5 := hide' (hQ4.out.disk hz5.out hk5.out)
                    have KO := hide' (hQ5.out.kz.open (by simp [fuD, reD]) (by omega))
                    unfold KoP at KO
                    clear hz5 hk5 KF c0' c1' c2'
                    go_wp2_with fail
                    refine KO.out.mono ?_
                    rintro e w7 ⟨gj7, o7, c7, kl, D7, J7, GG, rfl, hkl, hz7, hrs7, hk7⟩
                    have hQ7 := hide' (hQ5.out.open hz7.out hk7.out)
                    have hrs7' := hide' hrs7.out.row
                    rw [hkl.out.2.1] at hrs7'
                    have hj7 := hide' hkl.out.2.2.2
                    have hne : ((kl : Int) == (gl : Int) + 1) = false := by
                      have e1 : kl = gl := by rw [hkl.out.1, hgl.out, List.length_map]
                      simp
                      omega
                    have KRw := hide' (rowsF hrs7'.out hQ7.out.rs.row (by rw [List.length_map]; have := hQ7.out.gl; omega))
                    clear hz7 hk7 hrs7 hkl hrs7'
                    go_wp2_with fail
                    refine KRw.out.mono ?_
                    rintro e w8 ⟨rfl, hb8⟩
                    have hQ8 := hide' (hQ7.out.up hb8)
                    have KLn := hide' (lenF hQ8.out.kz.jn)
                    rw [hQ8.out.kz.cnt, List.length_map, ← hgl.out] at KLn
                    clear hb8 hQ7 KRw
                    go_wp2_with (first | (go_at_call 23; refine KLn.out.mono ?_; rintro e' w9 ⟨rfl, hw9⟩; obtain rfl : w8 = w9 := hw9.symm))
                    exact ⟨⟨i + 1, gj7, D7, J7, G, ok, gl, ck, rfl, by go_num, by omega, rfl, hgl, .inl ⟨rfl, hj7.out⟩, hQ8⟩, by simp [intOf]; omega⟩
                  · have KO := hide' (hQ4.out.kz.open rfl (by omega))
                    unfold KoP at KO
                    by_cases hng : 0 ≤ p.n
                    · have hn2' : ¬ p.n < 2 := by omega
                      go_wp2_with fail
                      refine KO.out.mono ?_
                      rintro e w7 ⟨gj7, o7, c7, kl, D7, J7, GG, rfl, hkl, hz7, hrs7, hk7⟩
                      have hQ7 := hide' (hQ4.out.open hz7.out hk7.out)
                      have hrs7' := hide' hrs7.out.row
                      rw [hkl.out.2.1] at hrs7'
                      have hj7 := hide' hkl.out.2.2.2
                      have hne : ((kl : Int) == (gl : Int) + 1) = false := by
                        have e1 : kl = gl := by rw [hkl.out.1, hgl.out, List.length_map]
                        simp
                        omega
                      have KRw := hide' (rowsF hrs7'.out hQ7.out.rs.row (by rw [List.length_map]; have := hQ7.out.gl; omega))
                      clear hz7 hk7 hrs7 hkl hrs7'
                      go_wp2_with fail
                      refine KRw.out.mono ?_
                      rintro e w8 ⟨rfl, hb8⟩
                      have hQ8 := hide' (hQ7.out.up hb8)
                      have KLn := hide' (lenF hQ8.out.kz.jn)
                      rw [hQ8.out.kz.cnt, List.length_map, ← hgl.out] at KLn
                      clear hb8 hQ7 KRw
                      go_wp2_with (first | (go_at_call 23; refine KLn.out.mono ?_; rintro e' w9 ⟨rfl, hw9⟩; obtain rfl : w8 = w9 := hw9.symm))
                      exact ⟨⟨i + 1, gj7, D7, J7, G, ok, gl, ck, rfl, by go_num, by omega, rfl, hgl, .inl ⟨rfl, hj7.out⟩, hQ8⟩, by simp [intOf]; omega⟩
                    · have hn2' : p.n < 0 := by omega
                      go_wp2_with fail
                      refine KO.out.mono ?_
                      rintro e w7 ⟨gj7, o7, c7, kl, D7, J7, GG, rfl, hkl, hz7, hrs7, hk7⟩
                      have hQ7 := hide' (hQ4.out.open hz7.out hk7.out)
                      have hrs7' := hide' hrs7.out.row
                      rw [hkl.out.2.1] at hrs7'
                      have hj7 := hide' hkl.out.2.2.2
                      have hne : ((kl : Int) == (gl : Int) + 1) = false := by
                        have e1 : kl = gl := by rw [hkl.out.1, hgl.out, List.length_map]
                        simp
                        omega
                      have KRw := hide' (rowsF hrs7'.out hQ7.out.rs.row (by rw [List.length_map]; have := hQ7.out.gl; omega))
                      clear hz7 hk7 hrs7 hkl hrs7'
                      go_wp2_with fail
                      refine KRw.out.mono ?_
                      rintro e w8 ⟨rfl, hb8⟩
                      have hQ8 := hide' (hQ7.out.up hb8)
                      have KLn := hide' (lenF hQ8.out.kz.jn)
                      rw [hQ8.out.kz.cnt, List.length_map, ← hgl.out] at KLn
                      clear hb8 hQ7 KRw
                      go_wp2_with (first | (go_at_call 23; refine KLn.out.mono ?_; rintro e' w9 ⟨rfl, hw9⟩; obtain rfl : w8 = w9 := hw9.symm))
                      exact ⟨⟨i + 1, gj7, D7, J7, G, ok, gl, ck, rfl, by go_num, by omega, rfl, hgl, .inl ⟨rfl, hj7.out⟩, hQ8⟩, by simp [intOf]; omega⟩
              · have KRs := hide' hQ.out.kz.restart
                go_wp2_with fail
                refine KRs.out.mono ?_
                rintro e w4 ⟨rfl, hz4, hk4⟩
                have hQ4 := hide' (hQ.out.disk hz4.out hk4.out)
                obtain ⟨c0', c1', c2'⟩ := hcs.out w4 hQ4.out.kz.be
                clear hz4 hk4 KRs c0 c1 c2
                by_cases hn0 : p.n = 0
                · rw [hn0] at c1'
                  have KF := hide' (hQ4.out.kz.fuse 0 (by omega))
                  go_wp2_with fail
                  refine KF.out.mono ?_
                  rintro e w5 ⟨rfl, hz5, hk5⟩
                  have hQ5 := hide' (hQ4.out.disk hz5.out hk5.out)
                  obtain ⟨d0, d1, d2⟩ := hcs.out w5 hQ5.out.kz.be
                  rw [hn0] at d1
                  have KD := hide' (hQ5.out.kz.openDown (by simp [fuD, reD]))
                  have KR2 := hide' hQ5.out.kz.restart
                  clear hz5 hk5 KF c0' c1' c2'
                  go_wp2_with (first | (go_at_call 15; refine KD.out.mono ?_; rintro e' w6 ⟨rfl, hw6⟩; obtain rfl : w5 = w6 := hw6.symm))
                  refine KR2.out.mono ?_
                  rintro e w6 ⟨rfl, hz6, hk6⟩
                  have hQ6 := hide' (hQ5.out.disk hz6.out hk6.out)
                  have KO := hide' (hQ6.out.kz.open rfl (by omega))
                  unfold KoP at KO
                  clear hz6 hk6 KD KR2
                  go_wp2_with fail
                  refine KO.out.mono ?_
                  rintro e w7 ⟨gj7, o7, c7, kl, D7, J7, GG, rfl, hkl, hz7, hrs7, hk7⟩
                  have hQ7 := hide' (hQ6.out.open hz7.out hk7.out)
                  have hrs7' := hide' hrs7.out.row
                  rw [hkl.out.2.1] at hrs7'
                  have hj7 := hide' hkl.out.2.2.2
                  have hne : ((kl : Int) == (gl : Int) + 1) = false := by
                    have e1 : kl = gl := by rw [hkl.out.1, hgl.out, List.length_map]
                    simp
                    omega
                  have KRw := hide' (rowsF hrs7'.out hQ7.out.rs.row (by rw [List.length_map]; have := hQ7.out.gl; omega))
                  clear hz7 hk7 hrs7 hkl hrs7'
                  go_wp2_with fail
                  refine KRw.out.mono ?_
                  rintro e w8 ⟨rfl, hb8⟩
                  have hQ8 := hide' (hQ7.out.up hb8)
                  have KLn := hide' (lenF hQ8.out.kz.jn)
                  rw [hQ8.out.kz.cnt, List.length_map, ← hgl.out] at KLn
                  clear hb8 hQ7 KRw
                  go_wp2_with (first | (go_at_call 23; refine KLn.out.mono ?_; rintro e' w9 ⟨rfl, hw9⟩; obtain rfl : w8 = w9 := hw9.symm))
                  exact ⟨⟨i + 1, gj7, D7, J7, G, ok, gl, ck, rfl, by go_num, by omega, rfl, hgl, .inl ⟨rfl, hj7.out⟩, hQ8⟩, by simp [intOf]; omega⟩
                · have e0 : (p.n == 0) = false := by simpa using hn0
                  by_cases hn1 : p.n = 1
                  · rw [hn1] at c1'
                    have KF := hide' (hQ4.out.kz.fuse 1 (by omega))
                    go_wp2_with fail
                    refine KF.out.mono ?_
                    rintro e w5 ⟨rfl, hz5, hk5⟩
                    have hQ5 := hide' (hQ4.out.disk hz5.out hk5.out)
                    have KO := hide' (hQ5.out.kz.open (by simp [fuD, reD]) (by omega))
                    unfold KoP at KO
                    clear hz5 hk5 KF c0' c1' c2'
                    go_wp2_with fail
                    refine KO.out.mono ?_
                    rintro e w7 ⟨gj7, o7, c7, kl, D7, J7, GG, rfl, hkl, hz7, hrs7, hk7⟩
                    have hQ7 := hide' (hQ5.out.open hz7.out hk7.out)
                    have hrs7' := hide' hrs7.out.row
                    rw [hkl.out.2.1] at hrs7'
                    have hj7 := hide' hkl.out.2.2.2
                    have hne : ((kl : Int) == (gl : Int) + 1) = false := by
                      have e1 : kl = gl := by rw [hkl.out.1, hgl.out, List.length_map]
                      simp
                      omega
                    have KRw := hide' (rowsF hrs7'.out hQ7.out.rs.row (by rw [List.length_map]; have := hQ7.out.gl; omega))
                    clear hz7 hk7 hrs7 hkl hrs7'
                    go_wp2_with fail
                    refine KRw.out.mono ?_
                    rintro e w8 ⟨rfl, hb8⟩
                    have hQ8 := hide' (hQ7.out.up hb8)
                    have KLn := hide' (lenF hQ8.out.kz.jn)
                    rw [hQ8.out.kz.cnt, List.length_map, ← hgl.out] at KLn
                    clear hb8 hQ7 KRw
                    go_wp2_with (first | (go_at_call 23; refine KLn.out.mono ?_; rintro e' w9 ⟨rfl, hw9⟩; obtain rfl : w8 = w9 := hw9.symm))
                    exact ⟨⟨i + 1, gj7, D7, J7, G, ok, gl, ck, rfl, by go_num, by omega, rfl, hgl, .inl ⟨rfl, hj7.out⟩, hQ8⟩, by simp [intOf]; omega⟩
                  · have KO := hide' (hQ4.out.kz.open rfl (by omega))
                    unfold KoP at KO
                    by_cases hng : 0 ≤ p.n
                    · have hn2' : ¬ p.n < 2 := by omega
                      go_wp2_with fail
                      refine KO.out.mono ?_
                      rintro e w7 ⟨gj7, o7, c7, kl, D7, J7, GG, rfl, hkl, hz7, hrs7, hk7⟩
                      have hQ7 := hide' (hQ4.out.open hz7.out hk7.out)
                      have hrs7' := hide' hrs7.out.row
                      rw [hkl.out.2.1] at hrs7'
                      have hj7 := hide' hkl.out.2.2.2
                      have hne : ((kl : Int) == (gl : Int) + 1) = false := by
                        have e1 : kl = gl := by rw [hkl.out.1, hgl.out, List.length_map]
                        simp
                        omega
                      have KRw := hide' (rowsF hrs7'.out hQ7.out.rs.row (by rw [List.length_map]; have := hQ7.out.gl; omega))
                      clear hz7 hk7 hrs7 hkl hrs7'
                      go_wp2_with fail
                      refine KRw.out.mono ?_
                      rintro e w8 ⟨rfl, hb8⟩
                      have hQ8 := hide' (hQ7.out.up hb8)
                      have KLn := hide' (lenF hQ8.out.kz.jn)
                      rw [hQ8.out.kz.cnt, List.length_map, ← hgl.out] at KLn
                      clear hb8 hQ7 KRw
                      go_wp2_with (first | (go_at_call 23; refine KLn.out.mono ?_; rintro e' w9 ⟨rfl, hw9⟩; obtain rfl : w8 = w9 := hw9.symm))
                      exact ⟨⟨i + 1, gj7, D7, J7, G, ok, gl, ck, rfl, by go_num, by omega, rfl, hgl, .inl ⟨rfl, hj7.out⟩, hQ8⟩, by simp [intOf]; omega⟩
                    · have hn2' : p.n < 0 := by omega
                      go_wp2_with fail
                      refine KO.out.mono ?_
                      rintro e w7 ⟨gj7, o7, c7, kl, D7, J7, GG, rfl, hkl, hz7, hrs7, hk7⟩
                      have hQ7 := hide' (hQ4.out.open hz7.out hk7.out)
                      have hrs7' := hide' hrs7.out.row
                      rw [hkl.out.2.1] at hrs7'
                      have hj7 := hide' hkl.out.2.2.2
                      have hne : ((kl : Int) == (gl : Int) + 1) = false := by
                        have e1 : kl = gl := by rw [hkl.out.1, hgl.out, List.length_map]
                        simp
                        omega
                      have KRw := hide' (rowsF hrs7'.out hQ7.out.rs.row (by rw [List.length_map]; have := hQ7.out.gl; omega))
                      clear hz7 hk7 hrs7 hkl hrs7'
                      go_wp2_with fail
                      refine KRw.out.mono ?_
                      rintro e w8 ⟨rfl, hb8⟩
                      have hQ8 := hide' (hQ7.out.up hb8)
                      have KLn := hide' (lenF hQ8.out.kz.jn)
                      rw [hQ8.out.kz.cnt, List.length_map, ← hgl.out] at KLn
                      clear hb8 hQ7 KRw
                      go_wp2_with (first | (go_at_call 23; refine KLn.out.mono ?_; rintro e' w9 ⟨rfl, hw9⟩; obtain rfl : w8 = w9 := hw9.symm))
                      exact ⟨⟨i + 1, gj7, D7, J7, G, ok, gl, ck, rfl, by go_num, by omega, rfl, hgl, .inl ⟨rfl, hj7.out⟩, hQ8⟩, by simp [intOf]; omega⟩
            · have e3 : (p.d == 3) = false := by simp; omega
              have e4 : (p.d == 4) = false := by simp; omega
              have hQ4 := hide' hQ.out.next
              go_wp2
              exact ⟨⟨i + 1, gj, D, J, G, ok, gl, ck, rfl, by go_num, by omega, rfl, hgl, hmv, hQ4⟩, by simp [intOf]; omega⟩
      · by_cases h200 : (i : Int) < (m : Int)
        · have h2 : ¬ (i : Int) < 150 := by omega
          go_wp2
          go_ret
          exact ⟨rfl, hQ.out.kz.be⟩
        · go_wp2
          go_ret
          exact ⟨rfl, hQ.out.kz.be⟩
end Go.Proofs.Ytcbddkfbpgjknaa

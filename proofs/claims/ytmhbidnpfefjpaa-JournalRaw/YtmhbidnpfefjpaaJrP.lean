/- The document's Append. -/
import Derived.Test.YtmhbidnpfefjpaaJrL
namespace Go.Proofs.Ytmhbidnpfefjpaa
open Go.RowKit
/-- What the document's Append leaves. -/
def AdP (W : World) (q r rb cap n : Nat) (D : Dk) (J : Jn) (R : List Nat) (e : Ending) (w' : World) : Prop :=
  ∃ x : Int, e = .returned (.int .i64 x) ∧ Hid (x = apE n D J R) ∧ Hid (RkA w' r rb cap (apD n D J R)) ∧ Hid (RjA w' q r (apJ n D J R)) ∧ Hid (Kj r rb q W w')
theorem Lc.fin {W0 : World} {q r rb cap : Nat} {J : Jn} {D : Dk} {ws : List (Nat × List Nat)} {W : World} (h : Lc W0 q r rb cap J D ws W) : RkA (W.setCell ⟨q, 4, none⟩ (.bool true)) r rb cap (wrs D ws) ∧ RjA (W.setCell ⟨q, 4, none⟩ (.bool true)) q r { J with dn := true } ∧ Kj r rb q W0 (W.setCell ⟨q, 4, none⟩ (.bool true)) := by
  have hn := h.jn.nd h.dk
  have hk : Kp q q W (W.setCell ⟨q, 4, none⟩ (.bool true)) := (Kp.refl _ _ _).set _ _
  exact ⟨h.dk.kp hk hn.1.symm hn.1.symm hn.2.symm hn.2.symm, h.jn.set4 true, (Kj.of_kp h.kp).trans (Kj.of_kj hk)⟩
theorem Lz.fin {W0 : World} {q r rb cap n : Nat} {J : Jn} {D : Dk} {v : Value} {R : List Nat} {ws : List (Nat × List Nat)} {W : World} (h : Lz W0 q r rb cap n J D v R ws W) (e : Nat) : RkA ((W.setCell ⟨q, 2, none⟩ (.int .i64 ((J.c + 1 : Nat) : Int))).setCell ⟨q, 1, none⟩ (.int .i64 (e : Int))) r rb cap (wrs D ws) ∧ RjA ((W.setCell ⟨q, 2, none⟩ (.int .i64 ((J.c + 1 : Nat) : Int))).setCell ⟨q, 1, none⟩ (.int .i64 (e : Int))) q r { J with e := e, c := J.c + 1 } ∧ Kj r rb q W0 ((W.setCell ⟨q, 2, none⟩ (.int .i64 ((J.c + 1 : Nat) : Int))).setCell ⟨q, 1, none⟩ (.int .i64 (e : Int))) := by
  have hn := h.jn.nd h.dk
  have hk : Kp q q W ((W.setCell ⟨q, 2, none⟩ (.int .i64 ((J.c + 1 : Nat) : Int))).setCell ⟨q, 1, none⟩ (.int .i64 (e : Int))) := ((Kp.refl _ _ _).set _ _).set _ _
  exact ⟨h.dk.kp hk hn.1.symm hn.1.symm hn.2.symm hn.2.symm, (h.jn.set2 (J.c + 1)).set1 e, (Kj.of_kp h.kp).trans (Kj.of_kj hk)⟩
set_option maxRecDepth 100000 in
set_option maxHeartbeats 8000000 in
theorem appendD {W : World} {q r rb cap n : Nat} {J : Jn} {D : Dk} {v : Value} {R : List Nat} (h : RjA W q r J) (hd : RkA W r rb cap D) (hk : DkO D n) (hv : RowC W v R) (hvn : ∀ x o n c, v = .slice (some ⟨x, o, none⟩) n c → x ≠ r ∧ x ≠ rb) (hR : R.length ≤ 131072) (hc : J.c ≤ 100000) (he : J.e ≤ 100000) (hw : D.writes ≤ 900000000000) :
    Calls Try.prog 32 #[.pointer (some ⟨q, 0, none⟩), v] W (AdP W q r rb cap n D J R) := by
  have h' := hide' h
  have hd' := hide' hd
  have hk' := hide' hk
  have hvn' := hide' hvn
  have hne := hide' (h.nd hd)
  obtain ⟨c0, c1, c2, c3, c4⟩ := h.cells
  have f0 := h.free
  have hL0 : Hid (Lz W q r rb cap n J D v R [] W) := ⟨hd, hk, by simp [wrs], rfl, h, hv, Kp.refl _ _ _⟩
  have hmost := hk.most
  obtain ⟨oa, cp, rfl, _, _⟩ := hv
  clear hvn h hd hk
  have KPw := hide' (rPowerF hd'.out hk'.out)
  have KBl := hide' (rBlocksF (W := W.drew) hd'.out.drew hk'.out.len hk'.out.most)
  have hjd := hide' (h'.out.set4 true)
  have hkd : Hid (Kj r rb q W (W.setCell ⟨q, 4, none⟩ (.bool true))) := Kj.of_kj ((Kp.refl _ _ _).set _ _)
  have hdd : Hid (RkA (W.setCell ⟨q, 4, none⟩ (.bool true)) r rb cap D) := hd'.out.kp ((Kp.refl q q W).set 4 (.bool true)) hne.out.1.symm hne.out.1.symm hne.out.2.symm hne.out.2.symm
  have hsp : spn R.length ≤ 8192 := by unfold spn; omega
  have KS := hide' (spanD (W := W) R.length (by omega))
  have hti' := hide' (fun (i : Nat) (h : i < spn R.length) => spn_lt h)
  have hLay := hide' (fun i wx (hi : i ≤ spn R.length) => Lc.lay (W0 := W) (q := q) (r := r) (rb := rb) (cap := cap) (p := J.e) (c := J.c) (i := i) (J := J) (D := D) (R := R) (W := wx) hi)
  have hLe := hide' (layW_eq J.e J.c R)
  unfold AdP
  have hm1 : ¬ (131072 : Int) < (R.length : Int) := by omega
  by_cases hdn : J.dn = true
  · have hK : Hid (apK n D J R = .down) := by unfold Hid apK; rw [if_pos (.inl hdn)]
    rw [hdn] at c4
    have e1 : apE n D J R = 50 := by unfold apE; rw [hK.out]
    have e2 : apD n D J R = D := by unfold apD; rw [hK.out]
    have e3 : apJ n D J R = { J with dn := true } := by unfold apJ; rw [hK.out]
    rw [e1, e2, e3]
    clear e1 e2 e3 hK hdn
    go_enter Try.func32, Try.ntmps32
    go_wp2
    go_ret
    exact ⟨50, rfl, rfl, hdd, hjd, hkd⟩
  · have hdn' : J.dn = false := by simpa using hdn
    rw [hdn'] at c4
    by_cases hp : D.power = true
    · rw [hp] at KPw
      have hfl : Hid (¬ (J.dn = true ∨ D.power = false)) := by simp [Hid, hdn', hp]
      have hw5 : IntKind.i64.wrap ((J.e : Int) + (spn R.length : Int)) = (J.e : Int) + (spn R.length : Int) := wrap_id (by omega) (by omega)
      have hw6 : IntKind.i64.wrap ((J.e : Int) + (spn R.length : Int) + 1) = (J.e : Int) + (spn R.length : Int) + 1 := wrap_id (by omega) (by omega)
      by_cases hfull : n ≤ J.e + 1 + spn R.length
      · have hK : Hid (apK n D J R = .full) := by unfold Hid apK; rw [if_neg hfl.out, if_pos hfull]
        have e1 : apE n D J R = 51 := by unfold apE; rw [hK.out]
        have e2 : apD n D J R = D := by unfold apD; rw [hK.out]
        have e3 : apJ n D J R = J := by unfold apJ; rw [hK.out]
        have hlt : (n : Int) ≤ (J.e : Int) + (spn R.length : Int) + 1 := by omega
        rw [e1, e2, e3]
        clear e1 e2 e3 hK hdn hfl hfull
        generalize spn R.length = k at *
        generalize R.length = m at *
        go_enter Try.func32, Try.ntmps32
        go_wp2_with (first | (go_at_call 36; refine KPw.out.mono ?_; rintro e' w1 ⟨rfl, hw1'⟩; obtain rfl : W = w1 := hw1'.symm) | (go_at_call 54; refine KS.out.mono ?_; rintro e' w1 ⟨rfl, hw1'⟩; obtain rfl : W = w1 := hw1'.symm))
        go_region_held3 (fun V => V.cell? ⟨q, 0, none⟩ = some (.pointer (some ⟨r, 0, none⟩)) ∧ V.cell? ⟨q, 1, none⟩ = some (.int .i64 (J.e : Int))) (first | (exact ⟨c0, c1⟩)) (first | (go_at_call 48; refine KBl.out.mono ?_; rintro e' w1 ⟨rfl, hw1'⟩; obtain rfl : W.drew = w1 := hw1'.symm))
        go_wp2
        go_ret
        exact ⟨51, rfl, rfl, hd'.out.drew, h'.out.below (Below.refl _ W).drew (blk_lt h'.out), Kj.of_below (Below.refl _ W).drew⟩
      · have hlt : ¬ (n : Int) ≤ (J.e : Int) + (spn R.length : Int) + 1 := by omega
        have hKK : Hid (apK n D J R = if wrsOk D (layW J.e J.c R) = true then .done else .cut) := by unfold Hid apK; rw [if_neg hfl.out, if_neg hfull]
        clear hdn hfl hjd hkd hdd
        have hwl : Hid (wrsOk D (layW J.e J.c R) = true → apE n D J R = 0 ∧ apD n D J R = wrs D (layW J.e J.c R) ∧ apJ n D J R = { J with e := J.e + 1 + spn R.length, c := J.c + 1 }) := fun hq => by
          have hK := hKK.out
          rw [if_pos hq] at hK
          unfold apE apD apJ
          rw [hK]
          exact ⟨rfl, rfl, rfl⟩
        have hwf : Hid (wrsOk D (layW J.e J.c R) = false → apE n D J R = 50 ∧ apD n D J R = wrs D (layW J.e J.c R) ∧ apJ n D J R = { J with dn := true }) := fun hq => by
          have hK := hKK.out
          rw [if_neg (by simp [hq])] at hK
          unfold apE apD apJ
          rw [hK]
          exact ⟨rfl, rfl, rfl⟩
        have hL1 := hide' (hL0.out.up (Below.refl _ W).drew)
        clear hKK hL0
        generalize layW J.e J.c R = WS at *
        generalize spn R.length = k at *
        generalize hm : R.length = m at *
        have hm' := hide' hm
        clear hm
        go_enter Try.func32, Try.ntmps32
        go_wp2_with (first | (go_at_call 36; refine KPw.out.mono ?_; rintro e' w1 ⟨rfl, hw1'⟩; obtain rfl : W = w1 := hw1'.symm) | (go_at_call 54; refine KS.out.mono ?_; rintro e' w1 ⟨rfl, hw1'⟩; obtain rfl : W = w1 := hw1'.symm))
        go_region_held3 (fun V => V.cell? ⟨q, 0, none⟩ = some (.pointer (some ⟨r, 0, none⟩)) ∧ V.cell? ⟨q, 1, none⟩ = some (.int .i64 (J.e : Int))) (first | (exact ⟨c0, c1⟩)) (first | (go_at_call 48; refine KBl.out.mono ?_; rintro e' w1 ⟨rfl, hw1'⟩; obtain rfl : W.drew = w1 := hw1'.symm))
        go_upto_block 0 with fail
        go_cut [6, 7, 8, 9] from 44 to 89 (fun ev _ _ _ wx => (ev = .int .i64 0 ∧ Hid (Lz W q r rb cap n J D (.slice oa m cp) R (pcW J.e R k) wx)) ∨ (ev = .int .i64 50 ∧ Hid (Lc W q r rb cap J D WS wx)))
        case first =>
          go_wp2_with fail
          go_loopw [6, 7, 8, 9] (fun ev iv _ _ wx => ∃ i : Nat, iv = .int .i64 (i : Int) ∧ i ≤ k ∧ ((ev = .int .i64 0 ∧ Hid (Lz W q r rb cap n J D (.slice oa m cp) R (pcW J.e R i) wx)) ∨ (ev = .int .i64 50 ∧ Hid (Lc W q r rb cap J D (pcW J.e R i) wx)))) (fun _ iv _ _ _ => ((k : Int) - intOf iv).toNat)
          case atStart => exact ⟨0, rfl, by omega, .inl ⟨rfl, hL1⟩⟩
          case round =>
            obtain ⟨i, rfl, hi, ⟨rfl, hQ⟩ | ⟨rfl, hQ⟩⟩ := hrel
            · by_cases hik : i < k
              · have hik' : (i : Int) < (k : Int) := by omega
                obtain ⟨w0, rfl⟩ : ∃ w0, w0 = wr := ⟨_, rfl⟩
                have hPl := piece_len R i
                have h16 := hti'.out i hik
                rw [hm'.out] at hPl
                have hPe := hide' (piece_end R i)
                have hPa := hide' (fun c => piece_at (R := R) (i := i) (c := c))
                rw [hm'.out] at hPa
                have hPs := hide' (fun j z => splice_set (C := z16) (L := (R.drop (16 * i)).take 16) (o := 0) (j := j) (z := z))
                generalize hP : (R.drop (16 * i)).take 16 = P at *
                clear hP
                go_upto_block 2 with (at_make; refine make_bytes rfl _ _ rfl 16 _ _ rfl rfl rfl rfl (by omega) ?_; intro w2 hb2 hw2; have hb3 := hide' hb2; have hw3 := hide' hw2; clear hb2 hw2)
                go_cut [9] from 54 to 76 (fun _ wx => Hid (BkB wx w0.heap.size (pieceB R i)) ∧ Hid (Below w0.heap.size w0 wx))
                case first =>
                  go_wp2_with fail
                  go_loopw [9] (fun cv wx => ∃ c : Nat, cv = .int .i64 (c : Int) ∧ c ≤ P.length ∧ Hid (BkB wx w0.heap.size (splice z16 0 (P.take c))) ∧ Hid (Below w0.heap.size w0 wx)) (fun cv _ => (16 - intOf cv).toNat)
                  case atStart => exact ⟨0, rfl, by omega, by rw [List.take_zero, splice_nil]; exact hb3, hw3⟩
                  case round =>
                    obtain ⟨c, rfl, hc', hB, hbl⟩ := hrel
                    have hx1 : IntKind.i64.wrap (16 * (i : Int)) = 16 * (i : Int) := wrap_id (by omega) (by omega)
                    have hx2 : IntKind.i64.wrap (16 * (i : Int) + (c : Int)) = 16 * (i : Int) + (c : Int) := wrap_id (by omega) (by omega)
                    by_cases h1 : c < 16
                    · have h1' : (c : Int) < 16 := by omega
                      by_cases h2 : 16 * i + c < m
                      · have h2' : 16 * (i : Int) + (c : Int) < (m : Int) := by omega
                        obtain ⟨z, hz1, hz2⟩ := hPa.out c h1 h2
                        obtain ⟨gr, ob, rfl, hcell⟩ := (hQ.out.up hbl.out).row.cellAt hz1
                        obtain ⟨y, hy⟩ : ∃ y, (splice z16 0 (P.take c))[c]? = some y := ⟨_, List.getElem?_eq_getElem (by rw [splice_len (by rw [List.length_take, z16_len]; omega), z16_len]; exact h1)⟩
                        have hxc := hB.out.cell hy
                        have hxf := hB.out.free
                        have hs := hide' (hB.out.set c z)
                        have hps := hPs.out c z hz2 (by rw [hPl, z16_len]; omega)
                        rw [Nat.zero_add] at hps
                        rw [hps] at hs
                        have hbs := hide' (hbl.out.setCell (p := ⟨w0.heap.size, c, none⟩) (Nat.le_refl _) (.int .u8 (z : Int)))
                        clear hps hy hz1 hz2
                        go_wp2_with fail
                        exact ⟨⟨c + 1, by go_num, by omega, hs, hbs⟩, by simp [intOf]; omega⟩
                      · have h2' : ¬ 16 * (i : Int) + (c : Int) < (m : Int) := by omega
                        obtain rfl : c = P.length := by omega
                        rw [hPe.out] at hB
                        go_wp2_with fail
                        go_meet
                        case rel => exact ⟨hB, hbl⟩
                    · have h1' : ¬ (c : Int) < 16 := by omega
                      obtain rfl : c = P.length := by omega
                      rw [hPe.out] at hB
                      go_wp2_with fail
                      go_meet
                      case rel => exact ⟨hB, hbl⟩
                case rest =>
                  obtain ⟨hB, hbl⟩ := hcut
                  have hQ3 := hide' ((hQ.out.up hbl.out).up (Below.refl _ wc).drew)
                  have c0' := hQ3.out.jn.cells.1
                  have c1' := hQ3.out.jn.cells.2.1
                  have hg1 : w0.heap.size ≠ r := by have := blk_lt hQ.out.dk.bx; omega
                  have hg2 : w0.heap.size ≠ rb := by obtain ⟨cs, h1⟩ := hQ.out.dk.blk; have := blk_lt h1; omega
                  have KW := hide' (hQ3.out.write hvn'.out (J.e + 1 + i) (pieceB R i) (.slice (some ⟨w0.heap.size, 0, none⟩) 16 16) (fun X kx => bk_kp (W := wc.drew) hB.out kx hg1 hg2 (pieceB_len R i)) (by omega) (pieceB_len R i) (by rw [pcW_len]; omega))
                  rw [← pcW_succ, show ((J.e + 1 + i : Nat) : Int) = (J.e : Int) + 1 + (i : Int) by omega] at KW
                  have hx1 : IntKind.i64.wrap ((J.e : Int) + 1) = (J.e : Int) + 1 := wrap_id (by omega) (by omega)
                  have hx2 : IntKind.i64.wrap ((J.e : Int) + 1 + (i : Int)) = (J.e : Int) + 1 + (i : Int) := wrap_id (by omega) (by omega)
                  clear hg1 hg2
                  go_wp2_with fail
                  go_region_held3 (fun V => V.cell? ⟨q, 0, none⟩ = some (.pointer (some ⟨r, 0, none⟩)) ∧ V.cell? ⟨q, 1, none⟩ = some (.int .i64 (J.e : Int))) (first | (exact ⟨c0', c1'⟩) | (exact ⟨hj2.out.cells.1, hj2.out.cells.2.1⟩)) (first | (go_at_call 55; refine KW.out.mono ?_; rintro e' w2 ⟨x, rfl, hj2, hq2⟩))
                  go_wp2_with fail
                  refine ⟨⟨i + 1, by go_num, by omega, ?_⟩, by simp [intOf]; omega⟩
                  rcases hq2.out with ⟨rfl, hQ2⟩ | ⟨rfl, hQ2⟩
                  · exact .inl ⟨rfl, hQ2⟩
                  · exact .inr ⟨rfl, hQ2⟩
              · have hik' : ¬ (i : Int) < (k : Int) := by omega
                obtain rfl : i = k := by omega
                go_wp2_with fail
                go_meet
                case rel => exact .inl ⟨rfl, hQ⟩
            · have hQ2 := hide' (hLay.out i wr hi hQ.out)
              by_cases hik : i < k
              · have hik' : (i : Int) < (k : Int) := by omega
                go_wp2_with fail
                go_meet
                case rel => exact .inr ⟨rfl, hQ2⟩
              · have hik' : ¬ (i : Int) < (k : Int) := by omega
                go_wp2_with fail
                go_meet
                case rel => exact .inr ⟨rfl, hQ2⟩
        case rest =>
          clear c0 c1 c2 c3 c4 f0
          obtain ⟨rfl, hQ⟩ | ⟨rfl, hQ⟩ := hcut
          · go_upto_region 20 with fail
            go_cut [6] from 92 to 104 (fun ev wx => (ev = .int .i64 0 ∧ Hid (Lz W q r rb cap n J D (.slice oa m cp) R (pcW J.e R k ++ [(J.e + 1 + k, z16)]) wx)) ∨ (ev = .int .i64 50 ∧ Hid (Lc W q r rb cap J D WS wx)))
            case first =>
              obtain ⟨w2, hmk, hB, hbl⟩ := make16J wc.drew
              have hQd := hide' (hQ.out.up (Below.refl _ wc).drew)
              have hQ3 := hide' (hQd.out.up hbl.out)
              have c0 := hQd.out.jn.cells.1
              have c1 := hQd.out.jn.cells.2.1
              have c0' := hQ3.out.jn.cells.1
              have c1' := hQ3.out.jn.cells.2.1
              have hg1 : wc.drew.heap.size ≠ r := by have := blk_lt hQd.out.dk.bx; omega
              have hg2 : wc.drew.heap.size ≠ rb := by obtain ⟨cs, h1⟩ := hQd.out.dk.blk; have := blk_lt h1; omega
              have KW := hide' (hQ3.out.write hvn'.out (J.e + 1 + k) z16 (.slice (some ⟨wc.drew.heap.size, 0, none⟩) 16 16) (fun X kx => bk_kp hB.out kx hg1 hg2 z16_len) (by omega) z16_len (by rw [pcW_len]; omega))
              rw [show ((J.e + 1 + k : Nat) : Int) = (J.e : Int) + (k : Int) + 1 by omega] at KW
              clear hg1 hg2
              go_wp2_with fail
              go_region_held3 (fun V => V.cell? ⟨q, 0, none⟩ = some (.pointer (some ⟨r, 0, none⟩)) ∧ V.cell? ⟨q, 1, none⟩ = some (.int .i64 (J.e : Int))) (first | (exact ⟨c0, c1⟩) | (exact ⟨c0', c1'⟩) | (exact ⟨hj2.out.cells.1, hj2.out.cells.2.1⟩)) (first | (go_at_call 55; refine KW.out.mono ?_; rintro e' w3 ⟨x, rfl, hj2, hq2⟩))
              go_wp2_with fail
              go_meet
              case rel =>
                rcases hq2.out with ⟨rfl, hQ2⟩ | ⟨rfl, hQ2⟩
                · exact .inl ⟨rfl, hQ2⟩
                · refine .inr ⟨rfl, ?_⟩
                  have h1 := hQ2.more [(J.e, titleB m (J.c + 1))]
                  rw [← hLe.out] at h1
                  exact h1
            case rest =>
              clear hQ
              obtain ⟨rfl, hQ⟩ | ⟨rfl, hQ3⟩ := hcut
              · go_upto_region 22 with fail
                go_cut [6] from 107 to 124 (fun ev wx => (ev = .int .i64 0 ∧ Hid (Lz W q r rb cap n J D (.slice oa m cp) R WS wx)) ∨ (ev = .int .i64 50 ∧ Hid (Lc W q r rb cap J D WS wx)))
                case first =>
                  have hQd := hide' (hQ.out.up (Below.refl _ wc).drew)
                  have c0 := hQd.out.jn.cells.1
                  have c1 := hQd.out.jn.cells.2.1
                  have c2 := hQd.out.jn.cells.2.2.1
                  have KT := hide' (titleD m (J.c + 1) wc.drew (by omega) (by omega))
                  unfold HdP at KT
                  rw [show ((J.c + 1 : Nat) : Int) = (J.c : Int) + 1 by omega] at KT
                  have hx1 : IntKind.i64.wrap ((J.c : Int) + 1) = (J.c : Int) + 1 := wrap_id (by omega) (by omega)
                  have hx2 : IntKind.u64.wrap ((J.c : Int) + 1) = (J.c : Int) + 1 := by
                    unfold IntKind.wrap
                    simp [IntKind.bits, IntKind.signed]
                    omega
                  have hup := hide' (fun V (hV : Below wc.drew.heap.size wc.drew V) => hQd.out.up hV)
                  have hlw : Hid (r < wc.drew.heap.size ∧ rb < wc.drew.heap.size) := by
                    obtain ⟨cs, h1⟩ := hQd.out.dk.blk
                    exact ⟨blk_lt hQd.out.dk.bx, blk_lt h1⟩
                  have KW := hide' (fun V u (hV : Lz W q r rb cap n J D (.slice oa m cp) R (pcW J.e R k ++ [(J.e + 1 + k, z16)]) V) (hu : ∀ X, Kp r rb V X → RowC X u (titleB m (J.c + 1))) => hV.write hvn'.out J.e (titleB m (J.c + 1)) u hu (by omega) (titleB_len _ _) (by rw [List.length_append, pcW_len, List.length_singleton]; omega))
                  rw [← hLe.out] at KW
                  go_wp2_with fail
                  go_region_held3 (fun V => V.cell? ⟨q, 0, none⟩ = some (.pointer (some ⟨r, 0, none⟩)) ∧ V.cell? ⟨q, 1, none⟩ = some (.int .i64 (J.e : Int)) ∧ V.cell? ⟨q, 2, none⟩ = some (.int .i64 (J.c : Int))) (first | (exact ⟨c0, c1, c2⟩) | (exact ⟨hj2.out.cells.1, hj2.out.cells.2.1, hj2.out.cells.2.2.1⟩) | (exact ⟨(hup.out _ hb1.out).jn.cells.1, (hup.out _ hb1.out).jn.cells.2.1, (hup.out _ hb1.out).jn.cells.2.2.1⟩)) (first | (go_at_call 53; refine KT.out.mono ?_; rintro e' w1 ⟨g1, n1, c1', rfl, hn1, hx1', hb1⟩) | (go_at_call 55; refine (KW.out w1 _ (hup.out _ hb1.out) (HdP.row hn1.out hx1'.out hlw.out.1 hlw.out.2)).mono ?_; rintro e' w3 ⟨x, rfl, hj2, hq2⟩))
                  go_wp2_with fail
                  go_meet
                  case rel =>
                    rcases hq2.out with ⟨rfl, hQ2⟩ | ⟨rfl, hQ2⟩
                    · exact .inl ⟨rfl, hQ2⟩
                    · exact .inr ⟨rfl, hQ2⟩
                case rest =>
                  clear hQ
                  obtain ⟨rfl, hQ⟩ | ⟨rfl, hQ3⟩ := hcut
                  · obtain ⟨x0, x1, x2, x3, x4⟩ := hQ.out.jn.cells
                    have g0 := hQ.out.jn.free
                    have hF := hide' (hQ.out.fin (J.e + 1 + k))
                    rw [show ((J.c + 1 : Nat) : Int) = (J.c : Int) + 1 by omega, show ((J.e + 1 + k : Nat) : Int) = (J.e : Int) + (k : Int) + 1 by omega] at hF
                    have hE := hide' (hwl.out hQ.out.all)
                    have hx1 : IntKind.i64.wrap ((J.c : Int) + 1) = (J.c : Int) + 1 := wrap_id (by omega) (by omega)
                    go_wp2
                    go_ret
                    rw [hE.out.1, hE.out.2.1, hE.out.2.2]
                    exact ⟨0, rfl, rfl, hF.out.1, hF.out.2.1, hF.out.2.2⟩
                  · obtain ⟨x0, x1, x2, x3, x4⟩ := hQ3.out.jn.cells
                    have g0 := hQ3.out.jn.free
                    have hF := hide' hQ3.out.fin
                    have hE := hide' (hwf.out hQ3.out.all)
                    go_wp2
                    go_ret
                    rw [hE.out.1, hE.out.2.1, hE.out.2.2]
                    exact ⟨50, rfl, rfl, hF.out.1, hF.out.2.1, hF.out.2.2⟩
              · obtain ⟨x0, x1, x2, x3, x4⟩ := hQ3.out.jn.cells
                have g0 := hQ3.out.jn.free
                have hF := hide' hQ3.out.fin
                have hE := hide' (hwf.out hQ3.out.all)
                go_wp2
                go_ret
                rw [hE.out.1, hE.out.2.1, hE.out.2.2]
                exact ⟨50, rfl, rfl, hF.out.1, hF.out.2.1, hF.out.2.2⟩
          · obtain ⟨x0, x1, x2, x3, x4⟩ := hQ.out.jn.cells
            have g0 := hQ.out.jn.free
            have hF := hide' hQ.out.fin
            have hE := hide' (hwf.out hQ.out.all)
            go_wp2
            go_ret
            rw [hE.out.1, hE.out.2.1, hE.out.2.2]
            exact ⟨50, rfl, rfl, hF.out.1, hF.out.2.1, hF.out.2.2⟩
    · have hp' : D.power = false := by simpa using hp
      rw [hp'] at KPw
      have hK : Hid (apK n D J R = .down) := by unfold Hid apK; rw [if_pos (.inr hp')]
      have e1 : apE n D J R = 50 := by unfold apE; rw [hK.out]
      have e2 : apD n D J R = D := by unfold apD; rw [hK.out]
      have e3 : apJ n D J R = { J with dn := true } := by unfold apJ; rw [hK.out]
      rw [e1, e2, e3]
      clear e1 e2 e3 hK hdn hp hp'
      go_enter Try.func32, Try.ntmps32
      go_wp2_with (first | (go_at_call 36; refine KPw.out.mono ?_; rintro e' w1 ⟨rfl, hw1'⟩; obtain rfl : W = w1 := hw1'.symm))
      go_ret
      exact ⟨50, rfl, rfl, hdd, hjd, hkd⟩
end Go.Proofs.Ytmhbidnpfefjpaa

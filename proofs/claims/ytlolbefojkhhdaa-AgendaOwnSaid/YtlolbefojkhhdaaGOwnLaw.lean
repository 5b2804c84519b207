/- The law AgendaOwn: walked. -/
import Derived.Test.YtlolbefojkhhdaaGExLaw
import Derived.Test.YtlolbefojkhhdaaGOwnA
import Derived.Deep.CutBlock
import Derived.Deep.CutRange
namespace Go.Proofs.Ytlolbefojkhhdaa
open Go.RowKit Go.Maps
theorem keepC {G : Nat → Prop} {V V' : World} {g la i0 i1 i2 i3 : Nat} {u0 u1 u2 u3 u4 u5 : Value} (h : V.cell? ⟨g, i0, none⟩ = some u0 ∧ V.cell? ⟨g, i1, none⟩ = some u1 ∧ V.cell? ⟨g, i2, none⟩ = some u2 ∧ V.cell? ⟨g, i3, none⟩ = some u3 ∧ V.cell? ⟨la, 0, none⟩ = some u4 ∧ V.cell? ⟨la, 1, none⟩ = some u5) (hM : Mv G V V') (hg : ¬ G g) (hl : ¬ G la) : V'.cell? ⟨g, i0, none⟩ = some u0 ∧ V'.cell? ⟨g, i1, none⟩ = some u1 ∧ V'.cell? ⟨g, i2, none⟩ = some u2 ∧ V'.cell? ⟨g, i3, none⟩ = some u3 ∧ V'.cell? ⟨la, 0, none⟩ = some u4 ∧ V'.cell? ⟨la, 1, none⟩ = some u5 :=
  ⟨hM.cell h.1 hg, hM.cell h.2.1 hg, hM.cell h.2.2.1 hg, hM.cell h.2.2.2.1 hg, hM.cell h.2.2.2.2.1 hl, hM.cell h.2.2.2.2.2 hl⟩
set_option maxRecDepth 100000 in
set_option maxHeartbeats 20000000 in
theorem agendaOwn_walk (L : List OpA) (v : Value) (w : World) (hr : RowOpA w v L) : Calls Try.prog 5 #[v] w fun e w' => e = .returned (.bool true) ∧ Below w.heap.size w w' := by
  have z0 := zeroT
  obtain ⟨oa, cap, rfl, hcap, hrow⟩ := hr
  have hrow' := hide' hrow
  clear hrow
  have hrw : Hid (∀ V, Below w.heap.size w V → ∀ (i : Nat) (p : OpA), L[i]? = some p → (∃ g o, oa = some ⟨g, o, none⟩ ∧ g < w.heap.size ∧ V.cell? ⟨g, o + i * 4, none⟩ = some (.int .i64 p.on) ∧ V.cell? ⟨g, o + i * 4 + 1, none⟩ = some (.int .i64 p.op) ∧ V.cell? ⟨g, o + i * 4 + 2, none⟩ = some (.int .i64 p.id) ∧ V.cell? ⟨g, o + i * 4 + 3, none⟩ = some (.int .i64 p.n)) ∧ (Lit.int .i64 p.id).wf = true) := fun V hV i p hp => by
    obtain ⟨⟨g, o, e, c0, c1, c2, c3⟩, hs⟩ := hrow'.out i p hp
    exact ⟨⟨g, o, e, cell_lt c0, cell_over c0 hV, cell_over c1 hV, cell_over c2 hV, cell_over c3 hV⟩, hs⟩
  clear hrow'
  have KT := hide' (twoFn w)
  go_enter Try.func5, Try.ntmps5
  go_wp2_with fail
  refine KT.out.mono ?_
  rintro e w2 ⟨p0, r0, p1, r1, Fs, vs, Ms, ss, rfl, hb2, wa, la2, B, hB, hT2, hss⟩
  have hT2' := hide' hT2
  have hss' := hide' hss
  have hb2' := hide' hb2
  clear hT2 hss hb2 KT
  go_upto_block 0 with fail
  have hT0 : TwoA w (w2.alloc (.cells #[.pointer (some ⟨p0, 0, none⟩), .pointer (some ⟨r0, 0, none⟩), .pointer (some ⟨p1, 0, none⟩), .pointer (some ⟨r1, 0, none⟩)] 27)) w2.heap.size w.heap.size 2 (fun k => if k = 0 then p0 else p1) (fun k => if k = 0 then r0 else r1) Fs vs Ms ss := by
    refine hT2'.out.move (f := fun i => if i = 0 then .pointer (some ⟨p0, 0, none⟩) else if i = 1 then .pointer (some ⟨r0, 0, none⟩) else if i = 2 then .pointer (some ⟨p1, 0, none⟩) else .pointer (some ⟨r1, 0, none⟩)) (Mv.below (F := fun g => g = w2.heap.size ∨ w.heap.size ≤ g) (hb2'.out.alloc hb2'.out.size _)) (Mv.below (F := fun g => g = w2.heap.size) ((Below.refl _ w2).alloc (Nat.le_refl _) _)) hB (World.rowIs_alloc w2 #[.pointer (some ⟨p0, 0, none⟩), .pointer (some ⟨r0, 0, none⟩), .pointer (some ⟨p1, 0, none⟩), .pointer (some ⟨r1, 0, none⟩)] _ _ (fun i hi => ?_)) (fun k hk => ?_) (.inr (Nat.le_refl _))
    · match i, hi with
      | 0, _ => rfl
      | 1, _ => rfl
      | 2, _ => rfl
      | 3, _ => rfl
    · match k, hk with
      | 0, _ => exact ⟨by simp, by simp⟩
      | 1, _ => exact ⟨by simp, by simp⟩
  have hla : w.heap.size ≤ w2.heap.size := hb2'.out.size
  have hT1 : Hid (OwS w ((w2.alloc (.cells #[.pointer (some ⟨p0, 0, none⟩), .pointer (some ⟨r0, 0, none⟩), .pointer (some ⟨p1, 0, none⟩), .pointer (some ⟨r1, 0, none⟩)] 27)).alloc (.cells #[.slice none 0 0, .slice none 0 0, .slice none 0 0, .slice none 0 0, .slice none 0 0, .slice none 0 0, .slice none 0 0, .slice none 0 0, .slice none 0 0, .slice none 0 0, .slice none 0 0, .slice none 0 0, .int .i64 0] 52)) w2.heap.size (w2.alloc (.cells #[.pointer (some ⟨p0, 0, none⟩), .pointer (some ⟨r0, 0, none⟩), .pointer (some ⟨p1, 0, none⟩), .pointer (some ⟨r1, 0, none⟩)] 27)).heap.size p0 r0 0) := OwS.start hT0 hla (by rw [hss'.out 0 (by omega)]; exact Nat.le_refl _)
  have hla' := hide' hla
  clear hT2' hss' hb2' hB z0 hla hT0
  rw [World.size_alloc] at hT1
  generalize ((w2.alloc (.cells #[.pointer (some ⟨p0, 0, none⟩), .pointer (some ⟨r0, 0, none⟩), .pointer (some ⟨p1, 0, none⟩), .pointer (some ⟨r1, 0, none⟩)] 27)).alloc (.cells #[.slice none 0 0, .slice none 0 0, .slice none 0 0, .slice none 0 0, .slice none 0 0, .slice none 0 0, .slice none 0 0, .slice none 0 0, .slice none 0 0, .slice none 0 0, .slice none 0 0, .slice none 0 0, .int .i64 0] 52)) = W1 at *
  generalize hbk : w2.heap.size + 1 = bk at *
  generalize w2.heap.size = la at *
  clear hbk
  go_cut [6, 7] from 17 to 74 (fun s s7 wx => Hid (OwS w wx la bk p0 r0 400))
  case first =>
    as_aux_lemma =>
    go_wp2_with fail
    go_loopw [6, 7] (fun k s7 wr => ∃ c : Nat, k = .int .i64 c ∧ c ≤ L.length ∧ c ≤ 400 ∧ Hid (OwS w wr la bk p0 r0 c)) (fun k _ _ => ((L.length : Int) - intOf k).toNat)
    case atStart => exact ⟨0, rfl, Nat.zero_le _, by omega, hT1⟩
    case round =>
      clear hT1
      obtain ⟨c, rfl, hc, hc4, hT⟩ := hrel
      by_cases h1 : c < L.length
      · by_cases h2 : c < 400
        · obtain ⟨p, hp⟩ : ∃ p, L[c]? = some p := ⟨_, List.getElem?_eq_getElem h1⟩
          have hBw : Below w.heap.size w wr := by
            obtain ⟨_, _, _, _, _, h, _⟩ := hT.out
            exact h.bel
          obtain ⟨⟨g, o, rfl, hgb, c0, c1, c2, c3⟩, hid⟩ := hrw.out wr hBw c p hp
          have hdr : Below wr.heap.size wr wr.drew := (Below.refl _ _).drew
          have hTd := hT.out.over hdr
          clear hp hcap hrw hBw
          generalize p.on = on at *
          generalize p.op = d at *
          generalize p.id = pid at *
          generalize p.n = pn at *
          generalize p0 = b at *
          generalize r0 = r at *
          obtain ⟨a0, a1, G, hGl, hGg, hG⟩ := hTd.plays (by omega)
          have hi0 : Hid (wr.drew.cell? ⟨g, o + c * 4, none⟩ = some (.int .i64 on) ∧ wr.drew.cell? ⟨g, o + c * 4 + 1, none⟩ = some (.int .i64 d) ∧ wr.drew.cell? ⟨g, o + c * 4 + 2, none⟩ = some (.int .i64 pid) ∧ wr.drew.cell? ⟨g, o + c * 4 + 3, none⟩ = some (.int .i64 pn) ∧ wr.drew.cell? ⟨la, 0, none⟩ = some (.pointer (some ⟨b, 0, none⟩)) ∧ wr.drew.cell? ⟨la, 1, none⟩ = some (.pointer (some ⟨r, 0, none⟩))) := ⟨c0, c1, c2, c3, a0, a1⟩
          by_cases hd : d = 6
          · subst hd
            clear hG hGl hGg G
            obtain ⟨G, hGl, hGg, KD⟩ := hTd.due pn pid
            have KD' := hide' KD
            have hng := hGg g hgb
            have hkp : Hid (∀ V V', (V.cell? ⟨g, o + c * 4, none⟩ = some (.int .i64 on) ∧ V.cell? ⟨g, o + c * 4 + 1, none⟩ = some (.int .i64 6) ∧ V.cell? ⟨g, o + c * 4 + 2, none⟩ = some (.int .i64 pid) ∧ V.cell? ⟨g, o + c * 4 + 3, none⟩ = some (.int .i64 pn) ∧ V.cell? ⟨la, 0, none⟩ = some (.pointer (some ⟨b, 0, none⟩)) ∧ V.cell? ⟨la, 1, none⟩ = some (.pointer (some ⟨r, 0, none⟩))) → Mv G V V' → (V'.cell? ⟨g, o + c * 4, none⟩ = some (.int .i64 on) ∧ V'.cell? ⟨g, o + c * 4 + 1, none⟩ = some (.int .i64 6) ∧ V'.cell? ⟨g, o + c * 4 + 2, none⟩ = some (.int .i64 pid) ∧ V'.cell? ⟨g, o + c * 4 + 3, none⟩ = some (.int .i64 pn) ∧ V'.cell? ⟨la, 0, none⟩ = some (.pointer (some ⟨b, 0, none⟩)) ∧ V'.cell? ⟨la, 1, none⟩ = some (.pointer (some ⟨r, 0, none⟩)))) := fun V V' h hM => keepC h hM hng hGl
            clear KD hT hTd hdr hGg hGl hng hla' hid
            have hd4 : decide ((c : Int) < 400) = true := by simp; omega
            go_upto_region 9 with fail
            go_cut [7] from 33 to 46 (fun s7 w3 => Hid (∃ v l, s7 = v ∧ (∃ oa cap, v = .slice oa l.length cap) ∧ (w3.cell? ⟨g, o + c * 4, none⟩ = some (.int .i64 on) ∧ w3.cell? ⟨g, o + c * 4 + 1, none⟩ = some (.int .i64 6) ∧ w3.cell? ⟨g, o + c * 4 + 2, none⟩ = some (.int .i64 pid) ∧ w3.cell? ⟨g, o + c * 4 + 3, none⟩ = some (.int .i64 pn) ∧ w3.cell? ⟨la, 0, none⟩ = some (.pointer (some ⟨b, 0, none⟩)) ∧ w3.cell? ⟨la, 1, none⟩ = some (.pointer (some ⟨r, 0, none⟩))) ∧ l.length ≤ 1000000 ∧ ∀ V, Below w3.heap.size w3 V → Calls Try.prog 14 #[.pointer (some ⟨r, 0, none⟩), .int .i64 pn, .int .i64 pid] V fun e w4 => ∃ v4, e = .returned v4 ∧ (∃ oa cap, v4 = .slice oa l.length cap) ∧ RowJ w4 v l ∧ RowJ w4 v4 l ∧ Mv G V w4 ∧
      ∀ V', Below w4.heap.size w4 V' → Calls Try.prog 15 #[.pointer (some ⟨bk, 0, none⟩), v] V' fun e w' => e = .returned (.tuple #[]) ∧ OwS w w' la bk b r c))
            case first =>
              as_aux_lemma =>
              go_region_held3 (fun V => V.cell? ⟨g, o + c * 4, none⟩ = some (.int .i64 on) ∧ V.cell? ⟨g, o + c * 4 + 1, none⟩ = some (.int .i64 6) ∧ V.cell? ⟨g, o + c * 4 + 2, none⟩ = some (.int .i64 pid) ∧ V.cell? ⟨g, o + c * 4 + 3, none⟩ = some (.int .i64 pn) ∧ V.cell? ⟨la, 0, none⟩ = some (.pointer (some ⟨b, 0, none⟩)) ∧ V.cell? ⟨la, 1, none⟩ = some (.pointer (some ⟨r, 0, none⟩))) (first | assumption | (exact hi0.out) | (exact hc3'.out)) (first | (go_at_call 12; refine KD'.out.mono ?_; rintro e w3 ⟨v, l, rfl, ⟨oa, cp, rfl⟩, hM3, hl3, hnx3⟩; have hc3' := hide' (hkp.out _ _ hi0.out hM3); have hl3' := hide' hl3; have hnx3' := hide' hnx3; clear hM3 hl3 hnx3))
              go_wp2
              go_meet
              exact ⟨_, l, rfl, ⟨_, _, rfl⟩, hc3'.out, hl3'.out, hnx3'.out⟩
            case rest =>
            as_aux_lemma =>
            obtain ⟨v, l, hv, ⟨oa3, cp3, rfl⟩, hc3, hl3, hnx3⟩ := hcut.out
            clear hcut
            subst hv
            have hi3 : Hid (wc.drew.cell? ⟨g, o + c * 4, none⟩ = some (.int .i64 on) ∧ wc.drew.cell? ⟨g, o + c * 4 + 1, none⟩ = some (.int .i64 6) ∧ wc.drew.cell? ⟨g, o + c * 4 + 2, none⟩ = some (.int .i64 pid) ∧ wc.drew.cell? ⟨g, o + c * 4 + 3, none⟩ = some (.int .i64 pn) ∧ wc.drew.cell? ⟨la, 0, none⟩ = some (.pointer (some ⟨b, 0, none⟩)) ∧ wc.drew.cell? ⟨la, 1, none⟩ = some (.pointer (some ⟨r, 0, none⟩))) := hc3
            have KR := hide' (hnx3 wc.drew ((Below.refl _ _).drew))
            have hl3' := hide' hl3
            clear hi0 hnx3 KD' hl3 c0 c1 c2 c3 a0 a1
            obtain ⟨c0, c1, c2, c3, a0, a1⟩ := hc3
            go_wp2
            go_region_held3 (fun V => V.cell? ⟨g, o + c * 4, none⟩ = some (.int .i64 on) ∧ V.cell? ⟨g, o + c * 4 + 1, none⟩ = some (.int .i64 6) ∧ V.cell? ⟨g, o + c * 4 + 2, none⟩ = some (.int .i64 pid) ∧ V.cell? ⟨g, o + c * 4 + 3, none⟩ = some (.int .i64 pn) ∧ V.cell? ⟨la, 0, none⟩ = some (.pointer (some ⟨b, 0, none⟩)) ∧ V.cell? ⟨la, 1, none⟩ = some (.pointer (some ⟨r, 0, none⟩))) (first | assumption | (exact hi3.out) | (exact hc5.out) | (exact hc4'.out)) (first | (go_at_call 14; refine KR.out.mono ?_; rintro e w4 ⟨v4, rfl, ⟨oa4, cp4, rfl⟩, j3, j4, hM4, hnx4⟩; have hc4' := hide' (hkp.out _ _ hi3.out hM4); have KE := hide' (keepIntsT l _ _ _ j3 j4 hl3'.out); have hnx4' := hide' hnx4; clear j3 j4 hM4 hnx4) | (go_at_call 13; refine KE.out.mono ?_; rintro e w5 ⟨rfl, hb5⟩; have hc5 := hide' (hkp.out _ _ hc4'.out (Mv.below (F := G) hb5)); have KI := hide' (hnx4'.out _ hb5); clear hb5))
            go_wp2_with fail
            refine KI.out.mono ?_
            rintro e w6 ⟨rfl, hT6⟩
            have hT6' := hide' (hT6.more (Nat.le_succ c))
            clear hT6
            go_wp2
            exact ⟨⟨c + 1, by go_num, by omega, by omega, hT6'⟩, by simp [intOf]; omega⟩
          · have KP := hide' (hG on d pid pn hid)
            have hng := hGg g hgb
            have hkp : Hid (∀ V V', (V.cell? ⟨g, o + c * 4, none⟩ = some (.int .i64 on) ∧ V.cell? ⟨g, o + c * 4 + 1, none⟩ = some (.int .i64 d) ∧ V.cell? ⟨g, o + c * 4 + 2, none⟩ = some (.int .i64 pid) ∧ V.cell? ⟨g, o + c * 4 + 3, none⟩ = some (.int .i64 pn) ∧ V.cell? ⟨la, 0, none⟩ = some (.pointer (some ⟨b, 0, none⟩)) ∧ V.cell? ⟨la, 1, none⟩ = some (.pointer (some ⟨r, 0, none⟩))) → Mv G V V' → (V'.cell? ⟨g, o + c * 4, none⟩ = some (.int .i64 on) ∧ V'.cell? ⟨g, o + c * 4 + 1, none⟩ = some (.int .i64 d) ∧ V'.cell? ⟨g, o + c * 4 + 2, none⟩ = some (.int .i64 pid) ∧ V'.cell? ⟨g, o + c * 4 + 3, none⟩ = some (.int .i64 pn) ∧ V'.cell? ⟨la, 0, none⟩ = some (.pointer (some ⟨b, 0, none⟩)) ∧ V'.cell? ⟨la, 1, none⟩ = some (.pointer (some ⟨r, 0, none⟩)))) := fun V V' h hM => keepC h hM hng hGl
            clear hG hGl hGg hT hTd hdr hng hla' hid
            go_wp2
            go_region_held3 (fun V => V.cell? ⟨g, o + c * 4, none⟩ = some (.int .i64 on) ∧ V.cell? ⟨g, o + c * 4 + 1, none⟩ = some (.int .i64 d) ∧ V.cell? ⟨g, o + c * 4 + 2, none⟩ = some (.int .i64 pid) ∧ V.cell? ⟨g, o + c * 4 + 3, none⟩ = some (.int .i64 pn) ∧ V.cell? ⟨la, 0, none⟩ = some (.pointer (some ⟨b, 0, none⟩)) ∧ V.cell? ⟨la, 1, none⟩ = some (.pointer (some ⟨r, 0, none⟩))) (first | assumption | (exact hi0.out) | (exact hkp.out _ _ hi0.out hN3'.out)) (first | (go_at_call 7; refine KP.out.mono ?_; rintro e w3 ⟨rfl, hT3, hN3⟩; have hN3' := hide' hN3; have hT3' := hide' hT3; clear hT3 hN3))
            go_wp2
            exact ⟨⟨c + 1, by go_num, by omega, by omega, hT3'⟩, by simp [intOf]; omega⟩
        · go_wp2
          go_meet
          exact hT.out.more hc4
      · go_wp2
        go_meet
        exact hT.out.more hc4
  case rest =>
  as_aux_lemma =>
  clear hT1 hrw hcap
  have KL := hide' (hcut.out.last 4611686018427387904 4611686018427387904)
  have hcc : Hid (wc.cell? ⟨la, 0, none⟩ = some (.pointer (some ⟨p0, 0, none⟩))) := by
    obtain ⟨_, _, _, _, _, h, _⟩ := hcut.out
    exact h.cells.1
  have a0 := hcc.out
  clear hcut hcc
  go_wp2_with fail
  refine KL.out.mono ?_
  rintro e w3 ⟨v, rfl, ⟨oa3, m3, cap3, rfl⟩, hK⟩
  have KI := hide' (hK w3 (Below.refl _ _))
  clear hK KL a0
  go_wp2_with fail
  refine KI.out.mono ?_
  rintro e w4 ⟨rfl, hK⟩
  have KC := hide' (hK w4 (Below.refl _ _))
  clear hK KI
  go_wp2_with fail
  refine KC.out.mono ?_
  rintro e w5 ⟨rfl, hB⟩
  have hB' := hide' hB
  clear hB KC
  go_wp2
  go_ret
  exact ⟨rfl, hB'.out⟩
end Go.Proofs.Ytlolbefojkhhdaa

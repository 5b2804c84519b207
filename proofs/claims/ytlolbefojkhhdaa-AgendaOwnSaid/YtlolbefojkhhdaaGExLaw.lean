/- The law AgendaExact: walked. -/
import Derived.Test.YtlolbefojkhhdaaGTwoFn
import Derived.Test.YtlolbefojkhhdaaGPlayD
import Derived.Deep.CutBlock
import Derived.Deep.CutRange
namespace Go.Proofs.Ytlolbefojkhhdaa
open Go.RowKit Go.Maps
structure OpA where
  on : Int
  op : Int
  id : Int
  n : Int
/-- A row of calls, as it is read. -/
def RowOpA (W : World) (v : Value) (L : List OpA) : Prop :=
  ∃ oa cap, v = .slice oa L.length cap ∧ (L.length ≤ cap ∧ (oa = none → cap = 0) ∧ cap ≤ 9223372036854775807) ∧ ∀ (i : Nat) (p : OpA), L[i]? = some p → (∃ g o, oa = some ⟨g, o, none⟩ ∧ W.cell? ⟨g, o + i * 4, none⟩ = some (.int .i64 p.on) ∧ W.cell? ⟨g, o + i * 4 + 1, none⟩ = some (.int .i64 p.op) ∧ W.cell? ⟨g, o + i * 4 + 2, none⟩ = some (.int .i64 p.id) ∧ W.cell? ⟨g, o + i * 4 + 3, none⟩ = some (.int .i64 p.n)) ∧ (Lit.int .i64 p.id).wf = true
theorem and_one (z : Int) : ∃ k : Nat, k < 2 ∧ bits .and .i64 z 1 = (k : Int) := by
  have h1 : (BitVec.ofInt 64 z &&& BitVec.ofInt 64 1).toNat < 2 := by
    rw [BitVec.toNat_and]
    have : (BitVec.ofInt 64 1).toNat = 2 ^ 1 - 1 := rfl
    rw [this, Nat.and_two_pow_sub_one_eq_mod]
    omega
  refine ⟨(BitVec.ofInt 64 z &&& BitVec.ofInt 64 1).toNat, h1, ?_⟩
  show IntKind.i64.wrap ((BitVec.ofInt 64 z &&& BitVec.ofInt 64 1).toNat : Int) = _
  generalize (BitVec.ofInt 64 z &&& BitVec.ofInt 64 1).toNat = q at *
  simp only [IntKind.wrap, IntKind.bits, IntKind.signed]
  simp
  omega
/-- The two pairs, few calls behind them. -/
def TwN (w W : World) (la : Nat) (ps rs : Nat → Nat) (c : Nat) : Prop := ∃ Fs vs Ms ss, TwoA w W la w.heap.size 2 ps rs Fs vs Ms ss ∧ ∀ k, k < 2 → ss k ≤ c
theorem TwN.over {w W W' : World} {la : Nat} {ps rs : Nat → Nat} {c : Nat} (h : TwN w W la ps rs c) (hb : Below W.heap.size W W') : TwN w W' la ps rs c := by
  obtain ⟨Fs, vs, Ms, ss, h1, h2⟩ := h
  exact ⟨Fs, vs, Ms, ss, h1.over hb, h2⟩
theorem TwN.more {w W : World} {la : Nat} {ps rs : Nat → Nat} {c c' : Nat} (h : TwN w W la ps rs c) (hc : c ≤ c') : TwN w W la ps rs c' := by
  obtain ⟨Fs, vs, Ms, ss, h1, h2⟩ := h
  exact ⟨Fs, vs, Ms, ss, h1, fun k hk => Nat.le_trans (h2 k hk) hc⟩
theorem TwoA.bel {w W : World} {la n : Nat} {ps rs : Nat → Nat} {Fs : Nat → Nat → Prop} {vs : Nat → Value} {Ms : Nat → List Ent} {ss : Nat → Nat} (h : TwoA w W la w.heap.size n ps rs Fs vs Ms ss) (hl : w.heap.size ≤ la) : Below w.heap.size w W := h.mv.toBelow (fun k e => by omega) (Nat.le_refl _)
/-- One side, as it lies, and what playing it leaves. -/
theorem TwN.side {w W : World} {la : Nat} {ps rs : Nat → Nat} {c k : Nat} (h : TwN w W la ps rs c) (hk : k < 2) : W.cell? ⟨la, k * 2, none⟩ = some (.pointer (some ⟨ps k, 0, none⟩)) ∧ W.cell? ⟨la, k * 2 + 1, none⟩ = some (.pointer (some ⟨rs k, 0, none⟩)) ∧ Calls Try.prog 9 #[.agg #[.pointer (some ⟨ps k, 0, none⟩), .pointer (some ⟨rs k, 0, none⟩)]] W (fun e w' => e = .returned (.bool true) ∧ TwN w w' la ps rs c) ∧
    ∃ G : Nat → Prop, ¬ G la ∧ (∀ g, g < w.heap.size → ¬ G g) ∧ (c + 1 ≤ 1000000 → ∀ on d id n : Int, (Lit.int .i64 id).wf = true → Calls Try.prog 7 #[.agg #[.pointer (some ⟨ps k, 0, none⟩), .pointer (some ⟨rs k, 0, none⟩)], .agg #[.int .i64 on, .int .i64 d, .int .i64 id, .int .i64 n]] W fun e w' => e = .returned (.bool true) ∧ TwN w w' la ps rs (c + 1) ∧ Mv G W w') := by
  obtain ⟨Fs, vs, Ms, ss, hT, hs⟩ := id h
  obtain ⟨f, hf, hfe⟩ := hT.arr
  have a0 := hf.cell (i := k * 2) (by omega)
  have a1 := hf.cell (i := k * 2 + 1) (by omega)
  rw [(hfe k hk).1] at a0
  rw [(hfe k hk).2] at a1
  obtain ⟨q1, q2, q3⟩ := hT.far k hk
  refine ⟨a0, a1, (firstS (hT.sa k hk)).mono fun e w' ⟨h1, h2⟩ => ⟨h1, h.over h2⟩, fun g => Fs k g ∨ g = rs k, ?_, ?_, fun hc on d id n hid => ?_⟩
  · rintro (e | e)
    · exact (q1 _ e).2 rfl
    · exact q2.2 e.symm
  · rintro g hg (e | e)
    · have := (q1 _ e).1; omega
    · have := q2.1; omega
  · refine (playsA (hT.sa k hk) (by have := hs k hk; omega) on d id n hid).mono fun e w' ⟨h1, h2⟩ => ⟨h1, ?_, ?_⟩
    · obtain ⟨F', v', M', s', h3, h4⟩ := hT.step hk h2
      refine ⟨_, _, _, _, h3, fun j hj => ?_⟩
      by_cases e : j = k
      · subst e; rw [up_same]; have := hs j hj; omega
      · rw [up_other _ _ e]; have := hs j hj; omega
    · obtain ⟨F', v', M', s', h3, h4, _⟩ := h2
      exact h4.1
/-- One side's first entry, and what dropping it leaves. -/
theorem TwN.drain {w W : World} {la : Nat} {ps rs : Nat → Nat} {c k : Nat} (h : TwN w W la ps rs c) (hk : k < 2) : ∃ m o cp, W.cell? ⟨rs k, 0, none⟩ = some (.slice o m cp) ∧ lenAt W (rs k) = m ∧ (0 < m → ∃ x y : Int, Calls Try.prog 8 #[.pointer (some ⟨rs k, 0, none⟩)] W (fun e w' => e = .returned (.tuple #[.int .i64 x, .int .i64 y, .bool true]) ∧ Below W.heap.size W w') ∧
    ∀ V, Below W.heap.size W V → Calls Try.prog 9 #[.agg #[.pointer (some ⟨ps k, 0, none⟩), .pointer (some ⟨rs k, 0, none⟩)]] V (fun e w' => e = .returned (.bool true) ∧ Below V.heap.size V w') ∧ V.cell? ⟨la, k * 2, none⟩ = some (.pointer (some ⟨ps k, 0, none⟩)) ∧ V.cell? ⟨la, k * 2 + 1, none⟩ = some (.pointer (some ⟨rs k, 0, none⟩)) ∧
      Calls Try.prog 7 #[.agg #[.pointer (some ⟨ps k, 0, none⟩), .pointer (some ⟨rs k, 0, none⟩)], .agg #[.int .i64 0, .int .i64 2, .int .i64 x, .int .i64 0]] V fun e w' => e = .returned (.bool true) ∧ TwN w w' la ps rs c ∧ lenAt w' (rs k) < m) := by
  obtain ⟨Fs, vs, Ms, ss, hT, hs⟩ := h
  obtain ⟨o, cp, hc, hl⟩ := (hT.sa k hk).cellR
  refine ⟨(Ms k).length, o, cp, hc, hl, fun hp => ?_⟩
  obtain ⟨x, hx, hf⟩ := (hT.sa k hk).fst hp
  have hfd := firstD (hT.sa k hk)
  rw [hf] at hfd
  refine ⟨x.id, x.tm, hfd, fun V hV => ?_⟩
  have hTV := hT.over hV
  obtain ⟨f, hfr, hfe⟩ := hTV.arr
  have a0 := hfr.cell (i := k * 2) (by omega)
  have a1 := hfr.cell (i := k * 2 + 1) (by omega)
  rw [(hfe k hk).1] at a0
  rw [(hfe k hk).2] at a1
  refine ⟨firstS (hTV.sa k hk), a0, a1, (playsD (hTV.sa k hk) 0 x.id 0 ((hTV.sa k hk).idwf hx)).mono fun e w' ⟨h1, F', v', h2, h3⟩ => ⟨h1, ⟨_, _, _, _, hTV.stepX hk h2 h3, fun j hj => ?_⟩, ?_⟩⟩
  · by_cases e : j = k
    · subst e; rw [up_same]; exact hs j hj
    · rw [up_other _ _ e]; exact hs j hj
  · obtain ⟨_, _, _, e⟩ := h2.cellR
    rw [e]; exact (hTV.sa k hk).less hx
set_option maxRecDepth 100000 in
set_option maxHeartbeats 20000000 in
theorem agendaExact_walk (L : List OpA) (v : Value) (w : World) (hr : RowOpA w v L) : Calls Try.prog 3 #[v] w fun e w' => e = .returned (.bool true) ∧ Below w.heap.size w w' := by
  have z0 := zeroT
  obtain ⟨oa, cap, rfl, hcap, hrow⟩ := hr
  have hrow' := hide' hrow
  clear hrow
  have hrw : Hid (∀ V, Below w.heap.size w V → ∀ (i : Nat) (p : OpA), L[i]? = some p → (∃ g o, oa = some ⟨g, o, none⟩ ∧ g < w.heap.size ∧ V.cell? ⟨g, o + i * 4, none⟩ = some (.int .i64 p.on) ∧ V.cell? ⟨g, o + i * 4 + 1, none⟩ = some (.int .i64 p.op) ∧ V.cell? ⟨g, o + i * 4 + 2, none⟩ = some (.int .i64 p.id) ∧ V.cell? ⟨g, o + i * 4 + 3, none⟩ = some (.int .i64 p.n)) ∧ (Lit.int .i64 p.id).wf = true) := fun V hV i p hp => by
    obtain ⟨⟨g, o, e, c0, c1, c2, c3⟩, hs⟩ := hrow'.out i p hp
    exact ⟨⟨g, o, e, cell_lt c0, cell_over c0 hV, cell_over c1 hV, cell_over c2 hV, cell_over c3 hV⟩, hs⟩
  clear hrow'
  have KT := hide' (twoFn w)
  go_enter Try.func3, Try.ntmps3
  go_wp2_with fail
  refine KT.out.mono ?_
  rintro e w2 ⟨p0, r0, p1, r1, Fs, vs, Ms, ss, rfl, hb2, wa, la2, B, hB, hT2, hss⟩
  have hT2' := hide' hT2
  have hss' := hide' hss
  have hb2' := hide' hb2
  clear hT2 hss hb2 KT
  go_upto_block 0 with fail
  have hT1 : Hid (TwN w (w2.alloc (.cells #[.pointer (some ⟨p0, 0, none⟩), .pointer (some ⟨r0, 0, none⟩), .pointer (some ⟨p1, 0, none⟩), .pointer (some ⟨r1, 0, none⟩)] 27)) w2.heap.size (fun k => if k = 0 then p0 else p1) (fun k => if k = 0 then r0 else r1) 0) := by
    refine ⟨Fs, vs, Ms, ss, hT2'.out.move (f := fun i => if i = 0 then .pointer (some ⟨p0, 0, none⟩) else if i = 1 then .pointer (some ⟨r0, 0, none⟩) else if i = 2 then .pointer (some ⟨p1, 0, none⟩) else .pointer (some ⟨r1, 0, none⟩)) (Mv.below (F := fun g => g = w2.heap.size ∨ w.heap.size ≤ g) (hb2'.out.alloc hb2'.out.size _)) (Mv.below (F := fun g => g = w2.heap.size) ((Below.refl _ w2).alloc (Nat.le_refl _) _)) hB (World.rowIs_alloc w2 #[.pointer (some ⟨p0, 0, none⟩), .pointer (some ⟨r0, 0, none⟩), .pointer (some ⟨p1, 0, none⟩), .pointer (some ⟨r1, 0, none⟩)] _ _ (fun i hi => ?_)) (fun k hk => ?_) (.inr (Nat.le_refl _)), fun k hk => by rw [hss'.out k hk]; exact Nat.le_refl _⟩
    · match i, hi with
      | 0, _ => rfl
      | 1, _ => rfl
      | 2, _ => rfl
      | 3, _ => rfl
    · match k, hk with
      | 0, _ => exact ⟨by simp, by simp⟩
      | 1, _ => exact ⟨by simp, by simp⟩
  have hla : w.heap.size ≤ w2.heap.size := hb2'.out.size
  have hla' := hide' hla
  clear hT2' hss' hb2' hB z0 hla
  generalize (w2.alloc (.cells #[.pointer (some ⟨p0, 0, none⟩), .pointer (some ⟨r0, 0, none⟩), .pointer (some ⟨p1, 0, none⟩), .pointer (some ⟨r1, 0, none⟩)] 27)) = W1 at *
  generalize w2.heap.size = la at *
  generalize (fun k => if k = 0 then p0 else p1) = ps at *
  generalize (fun k => if k = 0 then r0 else r1) = rs at *
  go_cut [5] from 16 to 39 (fun s wx => Hid (TwN w wx la ps rs 400))
  case first =>
    as_aux_lemma =>
    go_wp2_with fail
    go_loopw [5] (fun k wr => ∃ c : Nat, k = .int .i64 c ∧ c ≤ L.length ∧ c ≤ 400 ∧ Hid (TwN w wr la ps rs c)) (fun k _ => ((L.length : Int) - intOf k).toNat)
    case atStart => exact ⟨0, rfl, Nat.zero_le _, by omega, hT1⟩
    case round =>
      clear hT1
      obtain ⟨c, rfl, hc, hc4, hT⟩ := hrel
      by_cases h1 : c < L.length
      · by_cases h2 : c < 400
        · obtain ⟨p, hp⟩ : ∃ p, L[c]? = some p := ⟨_, List.getElem?_eq_getElem h1⟩
          have hBw : Below w.heap.size w wr := by
            obtain ⟨_, _, _, _, h, _⟩ := hT.out
            exact h.bel hla'.out
          obtain ⟨⟨g, o, rfl, hgb, c0, c1, c2, c3⟩, hid⟩ := hrw.out wr hBw c p hp
          obtain ⟨k, hk2, hk⟩ := and_one p.on
          have hdr : Below wr.heap.size wr wr.drew := (Below.refl _ _).drew
          obtain ⟨a0, a1, _, G, hGl, hGg, hG⟩ := (hT.out.over hdr).side hk2
          have KP := hide' (hG (by omega) p.on p.op p.id p.n hid)
          have hng := hGg g hgb
          have hkp : Hid (∀ V, Mv G wr.drew V → V.cell? ⟨g, o + c * 4, none⟩ = some (.int .i64 p.on) ∧ V.cell? ⟨g, o + c * 4 + 1, none⟩ = some (.int .i64 p.op) ∧ V.cell? ⟨g, o + c * 4 + 2, none⟩ = some (.int .i64 p.id) ∧ V.cell? ⟨g, o + c * 4 + 3, none⟩ = some (.int .i64 p.n) ∧ V.cell? ⟨la, k * 2, none⟩ = some (.pointer (some ⟨ps k, 0, none⟩)) ∧ V.cell? ⟨la, k * 2 + 1, none⟩ = some (.pointer (some ⟨rs k, 0, none⟩))) := fun V hN => ⟨hN.cell c0 hng, hN.cell c1 hng, hN.cell c2 hng, hN.cell c3 hng, hN.cell a0 hGl, hN.cell a1 hGl⟩
          have g1 : (k : Int) < 2 := by omega
          have g2 : (0 : Int) ≤ (k : Int) := by omega
          clear hp hcap hrw hT hBw hGl hGg hG hng hla' hid hdr
          generalize p.on = on at *
          generalize p.op = d at *
          generalize p.id = pid at *
          generalize p.n = pn at *
          generalize ps k = b at *
          generalize rs k = r at *
          have hi0 : Hid (wr.drew.cell? ⟨g, o + c * 4, none⟩ = some (.int .i64 on) ∧ wr.drew.cell? ⟨g, o + c * 4 + 1, none⟩ = some (.int .i64 d) ∧ wr.drew.cell? ⟨g, o + c * 4 + 2, none⟩ = some (.int .i64 pid) ∧ wr.drew.cell? ⟨g, o + c * 4 + 3, none⟩ = some (.int .i64 pn) ∧ wr.drew.cell? ⟨la, k * 2, none⟩ = some (.pointer (some ⟨b, 0, none⟩)) ∧ wr.drew.cell? ⟨la, k * 2 + 1, none⟩ = some (.pointer (some ⟨r, 0, none⟩))) := ⟨c0, c1, c2, c3, a0, a1⟩
          go_wp2
          go_region_held3 (fun V => V.cell? ⟨g, o + c * 4, none⟩ = some (.int .i64 on) ∧ V.cell? ⟨g, o + c * 4 + 1, none⟩ = some (.int .i64 d) ∧ V.cell? ⟨g, o + c * 4 + 2, none⟩ = some (.int .i64 pid) ∧ V.cell? ⟨g, o + c * 4 + 3, none⟩ = some (.int .i64 pn) ∧ V.cell? ⟨la, k * 2, none⟩ = some (.pointer (some ⟨b, 0, none⟩)) ∧ V.cell? ⟨la, k * 2 + 1, none⟩ = some (.pointer (some ⟨r, 0, none⟩))) (first | assumption | (exact hi0.out) | (exact hkp.out _ hN3'.out)) (first | (go_at_call 7; refine KP.out.mono ?_; rintro e w3 ⟨rfl, hT3, hN3⟩; have hN3' := hide' hN3; have hT3' := hide' hT3; clear hT3 hN3))
          go_wp2
          exact ⟨⟨c + 1, by go_num, by omega, by omega, hT3'⟩, by simp [intOf]; omega⟩
        · go_wp2
          go_meet
          exact hT.out.more hc4
      · go_wp2
        go_meet
        exact hT.out.more hc4
  case rest =>
  as_aux_lemma =>
  clear hT1 hrw hcap
  have hT1 := hcut
  clear hcut
  go_upto_block 2 with fail
  go_cut [6, 7, 8, 9] from 40 to 80 (fun s6 s7 s8 s9 wx => Hid (TwN w wx la ps rs 400))
  case first =>
    as_aux_lemma =>
    go_wp2_with fail
    go_loopw [6, 7, 8, 9] (fun k s7 s8 s9 wr => ∃ n : Nat, k = .int .i64 n ∧ n ≤ 2 ∧ Hid (TwN w wr la ps rs 400)) (fun k _ _ _ _ => (2 - intOf k).toNat)
    case atStart => exact ⟨0, rfl, by omega, hT1⟩
    case round =>
      clear hT1
      obtain ⟨n, rfl, hn, hT⟩ := hrel
      by_cases hlt : n < 2
      · have hdn : decide ((n : Int) < 2) = true := by simp; omega
        have g1 : (n : Int) < 2 := by omega
        have g2 : (0 : Int) ≤ (n : Int) := by omega
        go_upto_block 4 with fail
        go_cut [7, 8, 9] from 44 to 75 (fun s7 s8 s9 wx => Hid (TwN w wx la ps rs 400))
        case first =>
          as_aux_lemma =>
          go_wp2_with fail
          go_loopw [7, 8, 9] (fun s7 s8 s9 wv => Hid (TwN w wv la ps rs 400)) (fun _ _ _ wv => lenAt wv (rs n))
          case atStart => exact hT
          case round =>
            clear hT
            have hT := hrel
            clear hrel
            obtain ⟨a0, a1, _⟩ := hT.out.side hlt
            obtain ⟨m, om, cm, cR, hlen, hdr⟩ := hT.out.drain hlt
            by_cases hm : 0 < m
            · obtain ⟨x, y, KF, hnx⟩ := hdr hm
              have KF' := hide' KF
              have hnx' := hide' hnx
              have hm1 : decide (0 < m) = true := by simpa using hm
              have hm2 : decide ((0 : Int) < (m : Int)) = true := by simp; omega
              clear KF hnx hdr hT
              have hlen' := hide' hlen
              clear hlen
              generalize ps n = b at *
              go_wp2_with fail
              refine KF'.out.mono ?_
              rintro e w3 ⟨rfl, hb3⟩
              obtain ⟨KS, d0, d1, _⟩ := hnx'.out w3 hb3
              have KS' := hide' KS
              have hb3' := hide' hb3
              clear KS hb3 KF'
              go_wp2_with fail
              refine KS'.out.mono ?_
              rintro e w4 ⟨rfl, hb4⟩
              obtain ⟨_, f0, f1, KP⟩ := hnx'.out w4 (hb3'.out.trans (hb4.mono hb3'.out.size))
              have KP' := hide' KP
              clear KP hb4 hb3' hnx' KS'
              go_wp2_with fail
              refine KP'.out.mono ?_
              rintro e w5 ⟨rfl, hT5, hl5⟩
              have hT5' := hide' hT5
              have hl5' := hide' hl5
              clear hT5 hl5 KP'
              go_wp2
              exact ⟨hT5', by rw [hlen'.out]; exact hl5'.out⟩
            · obtain rfl : m = 0 := by omega
              go_wp2
              go_meet
              exact hT
        case rest =>
        as_aux_lemma =>
        have hT4 := hcut
        clear hcut hT
        obtain ⟨a0, a1, KS, _⟩ := hT4.out.side hlt
        have KS' := hide' KS
        clear KS hT4
        generalize ps n = b at *
        generalize rs n = r at *
        go_wp2_with fail
        refine KS'.out.mono ?_
        rintro e w3 ⟨rfl, hT3⟩
        have hT3' := hide' hT3
        clear hT3
        go_wp2
        exact ⟨⟨n + 1, by go_num, by omega, hT3'⟩, by simp [intOf]; omega⟩
      · go_wp2
        go_meet
        exact hT
  case rest =>
  as_aux_lemma =>
  have hB : Hid (Below w.heap.size w wc) := by
    obtain ⟨_, _, _, _, h, _⟩ := hcut.out
    exact h.bel hla'.out
  clear hcut hT1
  go_wp2
  go_ret
  exact ⟨rfl, hB.out⟩
end Go.Proofs.Ytlolbefojkhhdaa

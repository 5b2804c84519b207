/- The document's Spans. -/
import Derived.Test.YtahfobbiaimoiaaGreatDoorJ38
import Derived.Test.YtahfobbiaimoiaaGreatDoorJ46
namespace Go.Proofs.YtahfobbiaimoiaaGreatDoor
open Go.RowKit
theorem cellsP_app (L : List (Int × Int)) (x y : Int) : O.cellsP L ++ [.int .i64 x, .int .i64 y] = O.cellsP (L ++ [(x, y)]) := by simp [O.cellsP]
def SpP (F : Fw) (L : List Ev) (w : World) (e : Ending) (w' : World) : Prop :=
  ∃ Pf Sf l z, e = .returned (.tuple #[l, .int .i64 z]) ∧ Below w.heap.size w w' ∧ OrdF F Pf Sf ∧
    ((l = .slice none 0 0 ∧ ((Oc F L Pf z ∧ z ≠ 0) ∨ (Oc F L Pf 0 ∧ ¬ tkOk L ∧ z = 7))) ∨
     (Oc F L Pf 0 ∧ tkOk L ∧ z = 0 ∧ w'.ownsRow w.heap.size 93 2 l (spN (rpR Pf (newR F.steps.length (ftk L)) L).S F.steps.length).length (O.cellsP (spN (rpR Pf (newR F.steps.length (ftk L)) L).S F.steps.length))))
set_option maxRecDepth 100000 in
set_option maxHeartbeats 4000000 in
theorem spansP (F : Fw) (L : List Ev) (v vl : Value) (w : World) (hv : flV w v F) (hB : FlB F) (hl : EvQ w vl L) (hn : L.length ≤ 1000) (ht : O.Tab w) : Calls Tryz.prog 25 #[v, vl] w (SpP F L w) := by
  have hv0 := hide' hv
  obtain ⟨sv0, rv0, rfl, hs, hr⟩ := hv
  obtain ⟨oa, cap, rfl⟩ := hs.shape
  obtain ⟨ob, cb, rfl⟩ := hr.shape
  have B0 : Hid (Below w.heap.size w (w.alloc (.cells #[.string F.name, .slice oa F.steps.length cap, .slice ob F.rules.length cb] 25))) := (Below.refl _ w).alloc (Nat.le_refl _) _
  have X0 := hide' (heap_alloc_new w (.cells #[.string F.name, .slice oa F.steps.length cap, .slice ob F.rules.length cb] 25))
  have KR := hide' (replayF F L _ vl _ (hv0.out.below B0.out (Nat.le_refl _)) hB (hl.over B0.out) hn (ht.over B0.out))
  have KT : Hid (∀ V, Below w.heap.size w V → Calls Tryz.prog 63 #[vl] V (TkP L V)) := fun V hV => tickingP L vl V (hl.over hV) hn
  obtain ⟨ol, cl, rfl, _, _⟩ := hl
  obtain ⟨x0, x1, x2⟩ := bx3 X0.out
  clear hs hr hv0 hB ht
  have hQ1 : Hid (∀ Pf Sf z w', OrdF F Pf Sf → ((Oc F L Pf z ∧ z ≠ 0) ∨ (Oc F L Pf 0 ∧ ¬ tkOk L ∧ z = 7)) → Below w.heap.size w w' → SpP F L w (.returned (.tuple #[.slice none 0 0, .int .i64 z])) w') := fun Pf Sf z w' h1 h2 h4 => ⟨Pf, Sf, _, z, rfl, h4, h1, .inl ⟨rfl, h2⟩⟩
  have hQ2 : Hid (∀ Pf Sf l w', OrdF F Pf Sf → Oc F L Pf 0 → tkOk L → Below w.heap.size w w' → w'.ownsRow w.heap.size 93 2 l (spN (rpR Pf (newR F.steps.length (ftk L)) L).S F.steps.length).length (O.cellsP (spN (rpR Pf (newR F.steps.length (ftk L)) L).S F.steps.length)) → SpP F L w (.returned (.tuple #[l, .int .i64 0])) w') := fun Pf Sf l w' h1 h2 h3 h4 h5 => ⟨Pf, Sf, l, 0, rfl, h4, h1, .inr ⟨h2, h3, rfl, h5⟩⟩
  generalize SpP F L w = QQ at *
  go_enter Tryz.func25, Tryz.ntmps25
  go_wp2_with fail
  clear x0 x1 x2
  generalize w.alloc (.cells #[.string F.name, .slice oa F.steps.length cap, .slice ob F.rules.length cb] 25) = W1 at *
  have hK : Hid (∀ V, Below W1.heap.size W1 V → Below w.heap.size w V ∧ V.cell? ⟨w.heap.size, 1, none⟩ = some (.slice oa F.steps.length cap)) := fun V hW => ⟨B0.out.trans (hW.mono B0.out.size), (bx3 ((hW.block _ (Array.getElem?_eq_some_iff.1 X0.out).1).trans X0.out)).2.1⟩
  clear X0 B0
  refine KR.out.mono ?_
  rintro e w2 ⟨pa, z, rfl, hb2, h2⟩
  have B2 := hide' hb2
  have hw2 := hide' (hK.out _ hb2).1
  clear KR hb2
  rcases h2 with ⟨h0, rfl, rfl⟩ | ⟨ok, V0, gr, gt, sv, rv, go, gp, gs, ct, Pf, Sf, P1, P2, lv, wN, _, hX, h2⟩
  · have hF := hide' (hQ1.out (fun _ => 0) (fun _ => 0) _ _ (fun e => absurd e h0) (.inl ⟨.inl ⟨h0, rfl⟩, h0⟩) hw2.out)
    have h0' : (chkF F == 0) = false := by rw [beq_eq_false_iff_ne]; exact h0
    clear hQ1 hQ2 hK B2 h0 KT
    generalize chkF F = z at *
    go_wp2
    exact hF.out
  have hc0 := chkF_ok ok
  rcases h2 with ⟨hlog, rfl, rfl⟩ | ⟨hlog, rfl, rfl⟩
  rotate_left
  · have hF := hide' (hQ1.out Pf Sf 3 _ (fun _ => hX.wrd) (.inl ⟨.inr (.inl ⟨hc0, hlog, rfl⟩), by decide⟩) hw2.out)
    clear hQ1 hQ2 hK B2 hX hlog KT
    go_wp2
    exact hF.out
  have hOc : Oc F L Pf 0 := .inr (.inr ⟨hc0, hlog, rfl⟩)
  have hE1 := hide' (fun w' h => hQ1.out Pf Sf 7 w' (fun _ => hX.wrd) (.inr ⟨hOc, h, rfl⟩))
  have hE2 := hide' (fun l w' => hQ2.out Pf Sf l w' (fun _ => hX.wrd) hOc)
  have K3 := hide' (KT.out w2 hw2.out)
  have hX2 := hide' hX
  have hRS : Hid ((rpR Pf (newR F.steps.length (ftk L)) L).S.length = F.steps.length) := hX.len
  have hns : F.steps.length ≤ 12 := ok.le
  clear hQ1 hQ2 hX hlog hc0 hOc KT
  generalize rpR Pf (newR F.steps.length (ftk L)) L = R at *
  go_wp2_with fail
  refine K3.out.mono ?_
  rintro e w3 ⟨b, rfl, hbt, hb3⟩
  have B3 := hide' (B2.out.trans (hb3.mono B2.out.size))
  have hX3 := hide' (hX2.out.over hb3)
  have hw3 := hide' (hK.out _ B3.out).1
  obtain ⟨_, y1⟩ := hK.out w3 B3.out
  clear K3 hb3 hX2 B2 hw2
  cases b with
  | false =>
    have hF := hide' (hE1.out w3 (fun e => by have := hbt.2 e; cases this) hw3.out)
    clear hE1 hE2 hbt hX3 hK y1 B3
    go_wp2
    exact hF.out
  | true =>
  have hE3 := hide' (fun l w' => hE2.out l w' (hbt.1 rfl))
  have KS : Hid (∀ V, Below w3.heap.size w3 V → ∀ i : Int, Calls Tryz.prog 14 #[.pointer (some ⟨gr, 0, none⟩), .int .i64 i] V fun e w' => e = .returned (.tuple #[staT R i, .bool (hasS R i)]) ∧ Below V.heap.size V w') := fun V z i => stateF (hX3.out.over z).run i
  have hSs : Hid (∀ (c : Nat) s, R.S[c]? = some s → staT R (c : Int) = .agg #[.int .i64 s.st, .int .i64 s.us, .int .i64 s.ca, .int .i64 s.da] ∧ hasS R (c : Int) = true) := fun c s hs => by
    have hc := (List.getElem?_eq_some_iff.1 hs).1
    have hh : hasS R (c : Int) = true := by unfold hasS; simp; exact hc
    have h1 : sAt R (c : Int) = s := by unfold sAt; rw [Int.toNat_natCast, hs]; rfl
    exact ⟨by unfold staT; rw [if_pos hh, h1]; rfl, hh⟩
  clear hE1 hE2 hbt hK B3 hX3
  go_wp2
  go_loopw [8, 9, 10, 11, 27] (fun l _ _ _ k wr => ∃ (c n : Nat) (o : Option Addr) (cp : Nat), c ≤ F.steps.length ∧ n ≤ c ∧ k = .int .i64 c ∧ l = .slice o n cp ∧ Hid (n = (spN R.S c).length) ∧ Hid (wr.ownsRow w3.heap.size 93 2 (.slice o n cp) n (O.cellsP (spN R.S c))) ∧ Hid (Below w3.heap.size w3 wr)) (fun _ _ _ _ k _ => ((F.steps.length : Int) - intOf k).toNat)
  case atStart => exact ⟨0, 0, none, 0, Nat.zero_le _, Nat.le_refl _, rfl, rfl, rfl, World.ownsRow_nil _ _ _ _, Below.refl _ _⟩
  case round =>
    clear y1
    obtain ⟨c, n, o, cp, hc, hnc, rfl, rfl, hnl, hO, hBl⟩ := hrel
    by_cases hlt : c < F.steps.length
    · as_aux_lemma =>
      obtain ⟨s, hx⟩ : ∃ x, R.S[c]? = some x := ⟨_, List.getElem?_eq_getElem (by rw [hRS.out]; exact hlt)⟩
      obtain ⟨e1, e2⟩ := hSs.out c s hx
      have K1 := hide' (KS.out wr hBl.out (c : Int))
      rw [e1, e2] at K1
      have hN := hide' (spN_next hx)
      clear KS hSs hE3 hRS hx e1 e2
      generalize s.st = s0 at *
      generalize s.us = s1 at *
      generalize s.ca = s2 at *
      generalize s.da = s3 at *
      go_wp2_with fail
      refine K1.out.mono ?_
      rintro e w5 ⟨rfl, hb5⟩
      have hb6 := hb5.alloc hb5.size (.cells #[.int .i64 s0, .int .i64 s1, .int .i64 s2, .int .i64 s3] 42)
      have hO6 := hide' (own_same hO.out fun k hk _ => hb6.block k hk)
      have hB6 := hide' (hBl.out.trans (hb6.mono hBl.out.size))
      obtain ⟨x0, x1, x2, x3⟩ := bx4 (heap_alloc_new w5 (.cells #[.int .i64 s0, .int .i64 s1, .int .i64 s2, .int .i64 s3] 42))
      clear K1 hb5 hb6 hO hBl
      go_upto_region 11 with fail
      generalize hx : w5.heap.size = gx at *
      generalize hW2 : w5.alloc (.cells #[.int .i64 s0, .int .i64 s1, .int .i64 s2, .int .i64 s3] 42) = W6 at *
      clear hx hW2
      by_cases hz : s0 = 2
      · have hq : Hid (O.cellsP (spN R.S c) ++ [.int .i64 (c : Int), .int .i64 (wrap64 (s3 - s2))] = O.cellsP (spN R.S (c + 1)) ∧ n + 1 = (spN R.S (c + 1)).length) := by
          show _ ∧ _
          rw [hN.out, if_pos hz, cellsP_app, List.length_append, ← hnl.out]
          exact ⟨rfl, rfl⟩
        subst hz
        clear hN
        go_wp2_with (at_builtin; refine app1L elP rfl (.tmp 39) (.tmp 47) rfl w3.heap.size W6 (.slice o n cp) n (O.cellsP (spN R.S c)) [.int .i64 (c : Int), .int .i64 (wrap64 (s3 - s2))] rfl rfl hO6.out rfl (by simp [Value.oneCell']) hB6.out.size (by omega) ?_; intro g cap w7 hown hgr hnw; have hO7 := hide' hown; have hG := hide' hgr; clear hown hgr hnw)
        rw [hq.out.1] at hO7
        have hl2 := hide' hq.out.2
        have hB7 := hide' (hB6.out.grown hG.out hB6.out.size (fun _ e => own_ge' hO6.out e))
        exact ⟨⟨c + 1, n + 1, _, _, by omega, by omega, by go_num, rfl, hl2, hO7, hB7⟩, by simp [intOf]; omega⟩
      · have hz' : (s0 == 2) = false := by rw [beq_eq_false_iff_ne]; exact hz
        have hq : Hid (spN R.S (c + 1) = spN R.S c) := by show _ = _; rw [hN.out, if_neg hz]
        rw [← hq.out] at hnl hO6
        clear hN
        go_wp2
        exact ⟨⟨c + 1, n, _, _, by omega, by omega, by go_num, rfl, hnl, hO6, hB6⟩, by simp [intOf]; omega⟩
    · obtain rfl : c = F.steps.length := by omega
      have hF := hide' (hE3.out (.slice o n cp) wr (hw3.out.trans (hBl.out.mono hw3.out.size)) (by have h9 := own_down hO.out hw3.out.size; rw [← hnl.out]; exact h9))
      clear hE3 KS hSs hRS hO hBl
      go_wp2
      exact hF.out
end Go.Proofs.YtahfobbiaimoiaaGreatDoor
namespace Go.Proofs.YtahfobbiaimoiaaGreatDoor
open Go.RowKit
def BdP (Pf : Nat → Nat) (F : Fw) (L : List Ev) (w : World) (e : Ending) (w' : World) : Prop :=
  ∃ l z, e = .returned (.tuple #[l, .int .i64 z]) ∧ Below w.heap.size w w' ∧ Oc F L Pf z ∧ (z ≠ 0 → l = .slice none 0 0) ∧ (z = 0 → w'.ownsRow w.heap.size 3 1 l (brN (rpR Pf (newR F.steps.length (ftk L)) L).S F.rules F.rules.length).length (cellsI (brN (rpR Pf (newR F.steps.length (ftk L)) L).S F.rules F.rules.length)))
/-- What the document's Replay comes to. -/
theorem RdP.oc {Pf Sf : Nat → Nat} {F : Fw} {L : List Ev} {w w' : World} {e : Ending} (h : RdP Pf Sf F L w e w') : ∃ xa z, e = .returned (.tuple #[.pointer xa, .int .i64 z]) ∧ Below w.heap.size w w' ∧ Oc F L Pf z ∧ (z ≠ 0 ∨ (z = 0 ∧ FlOk F ∧ ∃ (k : SdK) (ev : Value), k.F = F ∧ xa = some ⟨k.gd, 0, none⟩ ∧ k.D ev (rpR Pf (newR F.steps.length (ftk L)) L) w')) := by
  obtain ⟨xa, z, rfl, hb, h⟩ := h
  have hq := dcQ_eq Pf F.steps.length L
  rcases h with ⟨h0, rfl, rfl⟩ | ⟨h0, rfl, rfl, h2⟩ | ⟨h0, rfl, k, ev, R, rfl, rfl, rfl, rfl, h2, h3⟩
  · exact ⟨_, _, rfl, hb, .inl ⟨h0, rfl⟩, .inl h0⟩
  · rw [h2] at hq
    refine ⟨_, _, rfl, hb, .inr (.inl ⟨h0, fun e => ?_, rfl⟩), .inl (by decide)⟩
    rw [if_pos e] at hq; cases hq
  · rw [h2] at hq
    by_cases e : (rpR k.Pf (newR k.F.steps.length (ftk L)) L).log = L
    · rw [if_pos e] at hq
      injection hq with hq
      subst hq
      exact ⟨_, _, rfl, hb, .inr (.inr ⟨h0, e, rfl⟩), .inr ⟨rfl, chkF_zero h0, k, ev, rfl, rfl, h3⟩⟩
    · rw [if_neg e] at hq; cases hq
theorem SdK.D.sts {k : SdK} {ev : Value} {R : Rs} {W : World} (h : k.D ev R W) : W.cell? ⟨k.gd, 4, none⟩ = some (.slice (some ⟨k.hd, 0, none⟩) R.S.length k.ct1) ∧ R.S.length ≤ k.ct1 ∧ ∀ i s, R.S[i]? = some s → W.cell? ⟨k.hd, i * 4, none⟩ = some (.int .i64 s.st) ∧ W.cell? ⟨k.hd, i * 4 + 1, none⟩ = some (.int .i64 s.us) ∧ W.cell? ⟨k.hd, i * 4 + 2, none⟩ = some (.int .i64 s.ca) ∧ W.cell? ⟨k.hd, i * 4 + 3, none⟩ = some (.int .i64 s.da) := by
  obtain ⟨sk, en, h1, h2⟩ := h.at'
  exact ⟨h1.cs.2.1, h1.cap, fun i s hs => h1.at hs⟩
set_option maxRecDepth 100000 in
set_option maxHeartbeats 4000000 in
theorem brokenD (Pf Sf : Nat → Nat) (F : Fw) (L : List Ev) (v vl : Value) (w : World) (hv : flV w v F) (hB : FlB F) (hl : EvQ w vl L) (hn : L.length ≤ 300) (hO : OrdF F Pf Sf) : Calls Tryz.prog 24 #[v, vl] w (BdP Pf F L w) := by
  have hv0 := hide' hv
  obtain ⟨sv0, rv0, rfl, hs, hr⟩ := hv
  obtain ⟨oa, cap, rfl⟩ := hs.shape
  have hr0 := hide' (fun V (hV : Below w.heap.size w V) => hr.below hV (Nat.le_refl _))
  obtain ⟨ob, cb, rfl, hcb, _⟩ := hr
  have hRu : Hid (∀ V, Below w.heap.size w V → ∀ i r, F.rules[i]? = some r → ∃ g o sv, ob = some ⟨g, o, none⟩ ∧ V.cell? ⟨g, o + i * 3, none⟩ = some (.int .i64 r.kind) ∧ V.cell? ⟨g, o + i * 3 + 1, none⟩ = some (.int .i64 r.k) ∧ V.cell? ⟨g, o + i * 3 + 2, none⟩ = some sv ∧ RowI V sv r.steps) := fun V hV i r hi => by
    obtain ⟨_, _, e, _, h⟩ := hr0.out V hV
    injection e with e _ _
    subst e
    exact h i r hi
  have hcb1 := hcb.1
  have B0 : Hid (Below w.heap.size w (w.alloc (.cells #[.string F.name, .slice oa F.steps.length cap, .slice ob F.rules.length cb] 25))) := (Below.refl _ w).alloc (Nat.le_refl _) _
  have X0 := hide' (heap_alloc_new w (.cells #[.string F.name, .slice oa F.steps.length cap, .slice ob F.rules.length cb] 25))
  have KR := hide' (replayD Pf Sf F L _ vl _ (hv0.out.below B0.out (Nat.le_refl _)) hB (hl.over B0.out) hn hO)
  obtain ⟨ol, cl, rfl, _, _⟩ := hl
  obtain ⟨x0, x1, x2⟩ := bx3 X0.out
  clear hs hr0 hv0 hcb hB
  have hQ1 : Hid (∀ z w', Oc F L Pf z → z ≠ 0 → Below w.heap.size w w' → BdP Pf F L w (.returned (.tuple #[.slice none 0 0, .int .i64 z])) w') := fun z w' h2 h3 h4 => ⟨_, z, rfl, h4, h2, fun _ => rfl, fun e => absurd e h3⟩
  have hQ2 : Hid (∀ l w', Oc F L Pf 0 → Below w.heap.size w w' → w'.ownsRow w.heap.size 3 1 l (brN (rpR Pf (newR F.steps.length (ftk L)) L).S F.rules F.rules.length).length (cellsI (brN (rpR Pf (newR F.steps.length (ftk L)) L).S F.rules F.rules.length)) → BdP Pf F L w (.returned (.tuple #[l, .int .i64 0])) w') := fun l w' h2 h4 h5 => ⟨l, 0, rfl, h4, h2, fun e => absurd rfl e, fun _ => h5⟩
  generalize BdP Pf F L w = QQ at *
  go_enter Tryz.func24, Tryz.ntmps24
  go_wp2_with fail
  clear x0 x1 x2
  generalize w.alloc (.cells #[.string F.name, .slice oa F.steps.length cap, .slice ob F.rules.length cb] 25) = W1 at *
  have hK : Hid (∀ V, Below W1.heap.size W1 V → Below w.heap.size w V ∧ V.cell? ⟨w.heap.size, 2, none⟩ = some (.slice ob F.rules.length cb)) := fun V hW => ⟨B0.out.trans (hW.mono B0.out.size), (bx3 ((hW.block _ (Array.getElem?_eq_some_iff.1 X0.out).1).trans X0.out)).2.2⟩
  clear X0 B0
  refine KR.out.mono ?_
  intro e w2 h2
  obtain ⟨xa, z, rfl, hb2, hOc, h2⟩ := h2.oc
  have B2 := hide' hb2
  have hw2 := hide' (hK.out _ hb2).1
  clear KR hb2
  rcases h2 with hz | ⟨rfl, ok, k, ev, hkF, rfl, hD⟩
  · have hF := hide' (hQ1.out z _ hOc hz hw2.out)
    have h0' : (z == 0) = false := by rw [beq_eq_false_iff_ne]; exact hz
    clear hQ1 hQ2 hRu hK B2 hOc hO
    go_wp2
    exact hF.out
  have hE := hide' (fun l w' => hQ2.out l w' hOc)
  have hRok := hide' (fun i r (h : F.rules[i]? = some r) => rules_ok ok h)
  have hnr : F.rules.length ≤ 32 := ok.rl
  have hD2 := hide' hD
  have hRS : Hid ((rpR Pf (newR F.steps.length (ftk L)) L).S.length = F.steps.length) := hD.len.trans (by rw [hkF])
  have hns : F.steps.length ≤ 12 := ok.le
  clear hQ1 hQ2 hD hOc hO
  generalize rpR Pf (newR F.steps.length (ftk L)) L = R at *
  go_wp2
  go_loopw [8, 9, 10, 11, 12, 13] (fun l i _ _ _ _ wr => ∃ (c n : Nat) (o : Option Addr) (cp : Nat), c ≤ F.rules.length ∧ n ≤ c ∧ i = .int .i64 c ∧ l = .slice o n cp ∧ Hid (n = (brN R.S F.rules c).length) ∧ Hid (wr.ownsRow w2.heap.size 3 1 (.slice o n cp) n (cellsI (brN R.S F.rules c))) ∧ Hid (Below w2.heap.size w2 wr)) (fun _ i _ _ _ _ _ => ((F.rules.length : Int) - intOf i).toNat)
  case atStart => exact ⟨0, 0, none, 0, Nat.zero_le _, Nat.le_refl _, rfl, rfl, rfl, World.ownsRow_nil _ _ _ _, Below.refl _ _⟩
  case round =>
    obtain ⟨c, n, o, cp, hc, hnc, rfl, rfl, hnl, hO, hBl⟩ := hrel
    have hbw := hide' (hw2.out.trans (hBl.out.mono hw2.out.size))
    obtain ⟨_, y2⟩ := hK.out wr (B2.out.trans (hBl.out.mono B2.out.size))
    by_cases hlt : c < F.rules.length
    · as_aux_lemma =>
      obtain ⟨r, hr⟩ : ∃ x, F.rules[c]? = some x := ⟨_, List.getElem?_eq_getElem hlt⟩
      obtain ⟨hin, hnum, h12⟩ := hRok.out c r hr
      obtain ⟨g1, f1, tv, rfl, a0, a1, a2, hti⟩ := hRu.out wr hbw.out c r hr
      have ht0 := hide' (fun V (hV : Below wr.heap.size wr V) => hti.below hV (Nat.le_refl _))
      obtain ⟨ot, ctv, rfl, hct, _⟩ := hti
      -- all that is read while the steps are gone through
      have hS : Hid (∀ V, Below wr.heap.size wr V → V.cell? ⟨w.heap.size, 2, none⟩ = some (.slice (some ⟨g1, f1, none⟩) F.rules.length cb) ∧ V.cell? ⟨g1, f1 + c * 3, none⟩ = some (.int .i64 r.kind) ∧ V.cell? ⟨g1, f1 + c * 3 + 1, none⟩ = some (.int .i64 r.k) ∧ V.cell? ⟨g1, f1 + c * 3 + 2, none⟩ = some (.slice ot r.steps.length ctv) ∧ V.cell? ⟨k.gd, 4, none⟩ = some (.slice (some ⟨k.hd, 0, none⟩) R.S.length k.ct1)) := fun V hV => by
        refine ⟨(hV.cell (cell_lt y2)).trans y2, (hV.cell (cell_lt a0)).trans a0, (hV.cell (cell_lt a1)).trans a1, (hV.cell (cell_lt a2)).trans a2, ?_⟩
        exact (hD2.out.over (hBl.out.trans (hV.mono hBl.out.size))).sts.1
      have hS2 : Hid (∀ d t, r.steps[d]? = some t → ∃ s gt ft, 0 ≤ t ∧ t.toNat < R.S.length ∧ ot = some ⟨gt, ft, none⟩ ∧ R.S[t.toNat]? = some s ∧ ∀ V, Below wr.heap.size wr V → V.cell? ⟨gt, ft + d, none⟩ = some (.int .i64 t) ∧ V.cell? ⟨k.hd, t.toNat * 4, none⟩ = some (.int .i64 s.st) ∧ V.cell? ⟨k.hd, t.toNat * 4 + 1, none⟩ = some (.int .i64 s.us) ∧ V.cell? ⟨k.hd, t.toNat * 4 + 2, none⟩ = some (.int .i64 s.ca) ∧ V.cell? ⟨k.hd, t.toNat * 4 + 3, none⟩ = some (.int .i64 s.da)) := fun d t hdt => by
        obtain ⟨h0, h1⟩ := hin t (List.mem_of_getElem? hdt)
        have hlt' : t.toNat < R.S.length := by rw [hRS.out]; omega
        obtain ⟨_, _, e, _, h5⟩ := ht0.out wr (Below.refl _ _)
        injection e with e _ _
        subst e
        obtain ⟨gt, ft, e, h6⟩ := h5 d t hdt
        subst e
        refine ⟨R.S[t.toNat], gt, ft, h0, hlt', rfl, List.getElem?_eq_getElem hlt', fun V hV => ⟨(hV.cell (cell_lt h6)).trans h6, (hD2.out.over (hBl.out.trans (hV.mono hBl.out.size))).sts.2.2 _ _ (List.getElem?_eq_getElem hlt')⟩⟩
      have hcS := hD2.out.sts.2.1
      have KG : Hid (∀ V (P : List Int) cvv (o : Nat), Below wr.heap.size wr V → RowI V cvv P → P.length ≤ 1000 → o ≤ 1000 → Calls Tryz.prog 62 #[.agg #[.int .i64 r.kind, .int .i64 r.k, .slice ot r.steps.length ctv], cvv, .int .i64 (o : Int)] V (GnP (!means r.kind r.k P o) V)) := fun V P cvv o _ h1 h2 h3 => goneD r _ cvv P o V h1 h2 h3
      have hN := hide' (brN_next (S := R.S) hr)
      have hkp : Hid (kpB R.S r = means r.kind r.k (clU R.S r.steps r.steps.length) (r.steps.length - (clU R.S r.steps r.steps.length).length)) := rfl
      have hcl : Hid (∀ d t s, r.steps[d]? = some t → R.S[t.toNat]? = some s → clU R.S r.steps (d + 1) = if s.st = 0 then clU R.S r.steps d else clU R.S r.steps d ++ [s.us]) := fun d t s h1 h2 => clU_next h1 h2
      have hct1 := hct.1
      clear hRu hRok hRS hE hin hnum hr hK ht0 hD2 y2 a0 a1 a2 hct hbw
      obtain ⟨wo, rfl⟩ : ∃ wo, wo = wr := ⟨_, rfl⟩
      obtain ⟨y2, a0, a1, a2, y4⟩ := hS.out wo (Below.refl _ _)
      go_wp2
      go_loopw [10, 11, 12, 13] (fun cvv op kk _ wx => ∃ (d m : Nat) (o3 : Option Addr) (c3 : Nat), d ≤ r.steps.length ∧ m ≤ d ∧ kk = .int .i64 d ∧ cvv = .slice o3 m c3 ∧ op = .int .i64 ((d - m : Nat) : Int) ∧ Hid (m = (clU R.S r.steps d).length) ∧ Hid (wx.ownsRow wo.heap.size 3 1 (.slice o3 m c3) m (cellsI (clU R.S r.steps d))) ∧ Hid (Below wo.heap.size wo wx)) (fun _ _ kk _ _ => ((r.steps.length : Int) - intOf kk).toNat)
      case atStart => exact ⟨0, 0, none, 0, Nat.zero_le _, Nat.le_refl _, rfl, rfl, rfl, rfl, World.ownsRow_nil _ _ _ _, Below.refl _ _⟩
      case round =>
        clear y2 a0 a1 a2 y4
        obtain ⟨d, m, o3, c3, hd, hmd, rfl, rfl, rfl, hml, hO3, hB3⟩ := hrel
        by_cases hlt2 : d < r.steps.length
        · as_aux_lemma =>
          obtain ⟨t, hdt⟩ : ∃ x, r.steps[d]? = some x := ⟨_, List.getElem?_eq_getElem hlt2⟩
          obtain ⟨s, gt, ft, ht0, htl, rfl, hst, hcs⟩ := hS2.out d t hdt
          have hCl : Hid (∀ V, Below wo.heap.size wo V → (V.cell? ⟨w.heap.size, 2, none⟩ = some (.slice (some ⟨g1, f1, none⟩) F.rules.length cb) ∧ V.cell? ⟨g1, f1 + c * 3 + 2, none⟩ = some (.slice (some ⟨gt, ft, none⟩) r.steps.length ctv) ∧ V.cell? ⟨k.gd, 4, none⟩ = some (.slice (some ⟨k.hd, 0, none⟩) R.S.length k.ct1) ∧ V.cell? ⟨gt, ft + d, none⟩ = some (.int .i64 t) ∧ V.cell? ⟨k.hd, t.toNat * 4, none⟩ = some (.int .i64 s.st) ∧ V.cell? ⟨k.hd, t.toNat * 4 + 1, none⟩ = some (.int .i64 s.us) ∧ V.cell? ⟨k.hd, t.toNat * 4 + 2, none⟩ = some (.int .i64 s.ca) ∧ V.cell? ⟨k.hd, t.toNat * 4 + 3, none⟩ = some (.int .i64 s.da))) := fun V hV => by
            obtain ⟨z0, _, _, z3, z4⟩ := hS.out V hV
            obtain ⟨z5, z6⟩ := hcs V hV
            exact ⟨z0, z3, z4, z5, z6⟩
          have hN3 := hide' (hcl.out d t s hdt hst)
          obtain ⟨y0, y3, y4, y5, y6, y7, y8, y9⟩ := hCl.out wr hB3.out
          obtain ⟨tn, rfl⟩ : ∃ tn : Nat, t = (tn : Int) := ⟨t.toNat, by omega⟩
          rw [Int.toNat_natCast] at htl hCl y6 y7 y8 y9
          have hd3 : Hid (Below wo.heap.size wo wr.drew) := hB3.out.drew
          have hlS : R.S.length ≤ k.ct1 := hcS
          clear hS hS2 KG hN hkp hcl hcs hst hdt hO hBl hnl
          generalize s.st = s0 at *
          generalize s.us = s1 at *
          generalize s.ca = s2 at *
          generalize s.da = s3 at *
          generalize R.S.length = nS at *
          go_upto_region 13 with fail
          go_region_held3 (fun V => V.cell? ⟨w.heap.size, 2, none⟩ = some (.slice (some ⟨g1, f1, none⟩) F.rules.length cb) ∧ V.cell? ⟨g1, f1 + c * 3 + 2, none⟩ = some (.slice (some ⟨gt, ft, none⟩) r.steps.length ctv) ∧ V.cell? ⟨k.gd, 4, none⟩ = some (.slice (some ⟨k.hd, 0, none⟩) nS k.ct1) ∧ V.cell? ⟨gt, ft + d, none⟩ = some (.int .i64 (tn : Int)) ∧ V.cell? ⟨k.hd, tn * 4, none⟩ = some (.int .i64 s0) ∧ V.cell? ⟨k.hd, tn * 4 + 1, none⟩ = some (.int .i64 s1) ∧ V.cell? ⟨k.hd, tn * 4 + 2, none⟩ = some (.int .i64 s2) ∧ V.cell? ⟨k.hd, tn * 4 + 3, none⟩ = some (.int .i64 s3)) (first | (exact hCl.out _ (hd3.out.alloc hd3.out.size _)) | (exact hCl.out _ hd3.out)) (fail)
          have hb4 : Below wr.heap.size wr (wr.alloc (.cells #[.int .i64 s0, .int .i64 s1, .int .i64 s2, .int .i64 s3] 42)).drew := ((Below.refl _ wr).alloc (Nat.le_refl _) _).drew
          have hO4 := hide' (own_same hO3.out fun k hk _ => hb4.block k hk)
          have hB4 := hide' (hB3.out.trans (hb4.mono hB3.out.size))
          have hX4 : (wr.alloc (.cells #[.int .i64 s0, .int .i64 s1, .int .i64 s2, .int .i64 s3] 42)).drew.heap[wr.heap.size]? = some (.cells #[.int .i64 s0, .int .i64 s1, .int .i64 s2, .int .i64 s3] 42 (0, 0)) := heap_alloc_new wr _
          obtain ⟨x0, x1, x2, x3⟩ := bx4 hX4
          clear hb4 hX4 hO3 hB3 y0 y3 y4 y5 y6 y7 y8 y9 hd3 hCl
          generalize (wr.alloc (.cells #[.int .i64 s0, .int .i64 s1, .int .i64 s2, .int .i64 s3] 42)).drew = W4 at *
          generalize wr.heap.size = gx at *
          by_cases hz : s0 = 0
          · have hq : Hid (clU R.S r.steps (d + 1) = clU R.S r.steps d) := by show _ = _; rw [hN3.out, if_pos hz]
            subst hz
            rw [← hq.out] at hml hO4
            have hop : Hid (((d + 1 - m : Nat) : Int) = ((d - m : Nat) : Int) + 1) := by show _ = _; omega
            have hdm : d - m ≤ 1000 := by omega
            clear hN3
            go_wp2
            exact ⟨⟨d + 1, m, _, _, by omega, by omega, by go_num, rfl, by rw [hop.out], hml, hO4, hB4⟩, by simp [intOf]; omega⟩
          · have hz' : (s0 == 0) = false := by rw [beq_eq_false_iff_ne]; exact hz
            have hq : Hid (cellsI (clU R.S r.steps d) ++ [.int .i64 s1] = cellsI (clU R.S r.steps (d + 1)) ∧ m + 1 = (clU R.S r.steps (d + 1)).length) := by
              show _ ∧ _
              rw [hN3.out, if_neg hz, cellsI_app1, List.length_append, ← hml.out]
              exact ⟨rfl, rfl⟩
            have hop : Hid (d + 1 - (m + 1) = d - m) := by show _ = _; omega
            clear hN3
            go_wp2_with (at_builtin; refine app1L elI rfl (.tmp 61) (.tmp 64) rfl wo.heap.size W4 (.slice o3 m c3) m (cellsI (clU R.S r.steps d)) [.int .i64 s1] rfl rfl hO4.out rfl (by simp [Value.oneCell']) hB4.out.size (by omega) ?_; intro g cap w7 hown hgr hnw; have hO7 := hide' hown; have hG := hide' hgr; clear hown hgr hnw)
            rw [hq.out.1] at hO7
            have hl2 := hide' hq.out.2
            have hB7 := hide' (hB4.out.grown hG.out hB4.out.size (fun _ e => own_ge' hO4.out e))
            exact ⟨⟨d + 1, m + 1, _, _, by omega, by omega, by go_num, rfl, by rw [hop.out], hl2, hO7, hB7⟩, by simp [intOf]; omega⟩
        · obtain rfl : d = r.steps.length := by omega
          obtain ⟨y2, a0, a1, a2, y4⟩ := hS.out wr hB3.out
          have K7 := hide' (KG.out wr (clU R.S r.steps r.steps.length) (.slice o3 m c3) (r.steps.length - m) hB3.out (RowI.of_owns hO3.out) (by rw [← hml.out]; omega) (by omega))
          have hkp2 : Hid ((!means r.kind r.k (clU R.S r.steps r.steps.length) (r.steps.length - m)) = !kpB R.S r) := by show _ = _; rw [hkp.out, hml.out]
          rw [hkp2.out] at K7
          have hO3' := hide' (own_same hO.out fun k hk _ => hB3.out.block k hk)
          have hBl' := hide' (hBl.out.trans (hB3.out.mono hBl.out.size))
          clear hS hS2 KG hkp hkp2 hcl hml hO3 hO hBl hB3
          go_wp2_with fail
          refine K7.out.mono ?_
          rintro e w7 ⟨rfl, hb7⟩
          have hO8 := hide' (own_same hO3'.out fun k hk _ => hb7.block k hk)
          have hB8 := hide' (hBl'.out.trans (hb7.mono hBl'.out.size))
          clear K7 hb7 hO3' hBl' y2 a0 a1 a2 y4
          by_cases hkp : kpB R.S r = true
          · have hq : Hid (brN R.S F.rules (c + 1) = brN R.S F.rules c) := by show _ = _; rw [hN.out, if_pos hkp]
            rw [hkp]
            rw [← hq.out] at hnl hO8
            clear hN hkp
            go_wp2
            exact ⟨⟨c + 1, n, _, _, by omega, by omega, by go_num, rfl, hnl, hO8, hB8⟩, by simp [intOf]; omega⟩
          · have hq : Hid (cellsI (brN R.S F.rules c) ++ [.int .i64 (c : Int)] = cellsI (brN R.S F.rules (c + 1)) ∧ n + 1 = (brN R.S F.rules (c + 1)).length) := by
              show _ ∧ _
              rw [hN.out, if_neg hkp, cellsI_app1, List.length_append, ← hnl.out]
              exact ⟨rfl, rfl⟩
            rw [show kpB R.S r = false by simpa using hkp]
            clear hN hkp
            go_wp2_with (at_builtin; refine app1L elI rfl (.tmp 74) (.tmp 76) rfl w2.heap.size w7 (.slice o n cp) n (cellsI (brN R.S F.rules c)) [.int .i64 (c : Int)] rfl rfl hO8.out rfl (by simp [Value.oneCell']) hB8.out.size (by omega) ?_; intro g cap w9 hown hgr hnw; have hO9 := hide' hown; have hG := hide' hgr; clear hown hgr hnw)
            rw [hq.out.1] at hO9
            have hl2 := hide' hq.out.2
            have hB9 := hide' (hB8.out.grown hG.out hB8.out.size (fun _ e => own_ge' hO8.out e))
            exact ⟨⟨c + 1, n + 1, _, _, by omega, by omega, by go_num, rfl, hl2, hO9, hB9⟩, by simp [intOf]; omega⟩
    · obtain rfl : c = F.rules.length := by omega
      have hF := hide' (hE.out _ _ hbw.out (by have h9 := own_down hO.out hw2.out.size; rw [← hnl.out]; exact h9))
      clear hE hRu hRok hD2 hRS hO hBl hbw hK
      go_wp2
      exact hF.out
end Go.Proofs.YtahfobbiaimoiaaGreatDoor
namespace Go.Proofs.YtahfobbiaimoiaaGreatDoor
open Go.RowKit
def SdP (Pf : Nat → Nat) (F : Fw) (L : List Ev) (w : World) (e : Ending) (w' : World) : Prop :=
  ∃ l z, e = .returned (.tuple #[l, .int .i64 z]) ∧ Below w.heap.size w w' ∧
    ((l = .slice none 0 0 ∧ ((Oc F L Pf z ∧ z ≠ 0) ∨ (Oc F L Pf 0 ∧ ¬ tkOk L ∧ z = 7))) ∨
     (Oc F L Pf 0 ∧ tkOk L ∧ z = 0 ∧ w'.ownsRow w.heap.size 93 2 l (spN (rpR Pf (newR F.steps.length (ftk L)) L).S F.steps.length).length (O.cellsP (spN (rpR Pf (newR F.steps.length (ftk L)) L).S F.steps.length))))
set_option maxRecDepth 100000 in
set_option maxHeartbeats 4000000 in
theorem spansD (Pf Sf : Nat → Nat) (F : Fw) (L : List Ev) (v vl : Value) (w : World) (hv : flV w v F) (hB : FlB F) (hl : EvQ w vl L) (hn : L.length ≤ 300) (hO : OrdF F Pf Sf) : Calls Tryz.prog 26 #[v, vl] w (SdP Pf F L w) := by
  have hv0 := hide' hv
  obtain ⟨sv0, rv0, rfl, hs, hr⟩ := hv
  obtain ⟨oa, cap, rfl⟩ := hs.shape
  obtain ⟨ob, cb, rfl⟩ := hr.shape
  have B0 : Hid (Below w.heap.size w (w.alloc (.cells #[.string F.name, .slice oa F.steps.length cap, .slice ob F.rules.length cb] 25))) := (Below.refl _ w).alloc (Nat.le_refl _) _
  have KR := hide' (replayD Pf Sf F L _ vl _ (hv0.out.below B0.out (Nat.le_refl _)) hB (hl.over B0.out) hn hO)
  obtain ⟨ol, cl, rfl, hcl, hC⟩ := evCells hl
  obtain ⟨x0, x1, x2⟩ := bx3 (heap_alloc_new w (.cells #[.string F.name, .slice oa F.steps.length cap, .slice ob F.rules.length cb] 25))
  clear hs hr hv0 hB hl
  have hQ1 : Hid (∀ z w', ((Oc F L Pf z ∧ z ≠ 0) ∨ (Oc F L Pf 0 ∧ ¬ tkOk L ∧ z = 7)) → Below w.heap.size w w' → SdP Pf F L w (.returned (.tuple #[.slice none 0 0, .int .i64 z])) w') := fun z w' h2 h4 => ⟨_, z, rfl, h4, .inl ⟨rfl, h2⟩⟩
  have hQ2 : Hid (∀ l w', Oc F L Pf 0 → tkOk L → Below w.heap.size w w' → w'.ownsRow w.heap.size 93 2 l (spN (rpR Pf (newR F.steps.length (ftk L)) L).S F.steps.length).length (O.cellsP (spN (rpR Pf (newR F.steps.length (ftk L)) L).S F.steps.length)) → SdP Pf F L w (.returned (.tuple #[l, .int .i64 0])) w') := fun l w' h2 h3 h4 h5 => ⟨l, 0, rfl, h4, .inr ⟨h2, h3, rfl, h5⟩⟩
  generalize SdP Pf F L w = QQ at *
  go_enter Tryz.func26, Tryz.ntmps26
  go_wp2_with fail
  clear x0 x1 x2
  generalize w.alloc (.cells #[.string F.name, .slice oa F.steps.length cap, .slice ob F.rules.length cb] 25) = W1 at *
  refine KR.out.mono ?_
  intro e w2 h2
  obtain ⟨xa, z, rfl, hb2, hOc, h2⟩ := h2.oc
  have hw2 := hide' (B0.out.trans (hb2.mono B0.out.size))
  clear KR hb2 B0
  rcases h2 with hz | ⟨rfl, ok, k, ev, hkF, rfl, hD⟩
  · have hF := hide' (hQ1.out z _ (.inl ⟨hOc, hz⟩) hw2.out)
    have h0' : (z == 0) = false := by rw [beq_eq_false_iff_ne]; exact hz
    clear hQ1 hQ2 hOc hO hC
    go_wp2
    exact hF.out
  have hE1 := hide' (fun w' h => hQ1.out 7 w' (.inr ⟨hOc, h, rfl⟩))
  have hE2 := hide' (fun l w' => hQ2.out l w' hOc)
  have hD2 := hide' hD
  have hRS : Hid ((rpR Pf (newR F.steps.length (ftk L)) L).S.length = F.steps.length) := hD.len.trans (by rw [hkF])
  have hns : F.steps.length ≤ 12 := ok.le
  clear hQ1 hQ2 hD hOc hO
  generalize rpR Pf (newR F.steps.length (ftk L)) L = R at *
  go_wp2
  go_loopw [8] (fun i wr => ∃ c : Nat, c ≤ L.length ∧ i = .int .i64 c ∧ Hid (∀ i e, i < c → L[i]? = some e → lstT L i ≤ e.tick ∧ e.tick ≤ 999999999) ∧ Hid (0 ≤ lstT L c) ∧ Hid (Below w2.heap.size w2 wr)) (fun i _ => ((L.length : Int) - intOf i).toNat)
  case atStart => exact ⟨0, Nat.zero_le _, rfl, fun i e h => absurd h (Nat.not_lt_zero _), Int.le_refl _, Below.refl _ _⟩
  case round =>
    obtain ⟨c, hc, rfl, hT, hpos, hBl⟩ := hrel
    have hbw := hide' (hw2.out.trans (hBl.out.mono hw2.out.size))
    by_cases hlt : c < L.length
    · as_aux_lemma =>
      obtain ⟨e, hx⟩ : ∃ x, L[c]? = some x := ⟨_, List.getElem?_eq_getElem hlt⟩
      obtain ⟨g1, f1, rfl, a0, _⟩ := hC.out wr hbw.out c e hx
      have hN := hide' (lstT_next hx)
      have hNo : Hid (¬ (lstT L c ≤ e.tick ∧ e.tick ≤ 999999999) → ∀ w', Below w.heap.size w w' → QQ (.returned (.tuple #[.slice none 0 0, .int .i64 7])) w') := fun h w' hb => hE1.out w' (fun k => h (k c e hx)) hb
      have hYes : Hid (lstT L c ≤ e.tick → e.tick ≤ 999999999 → ∀ i e, i < c + 1 → L[i]? = some e → lstT L i ≤ e.tick ∧ e.tick ≤ 999999999) := fun h1 h2 i e' hi he => by
        by_cases hic : i < c
        · exact hT.out i e' hic he
        · obtain rfl : i = c := by omega
          rw [hx] at he; cases he
          exact ⟨h1, h2⟩
      have hpos' : 0 ≤ lstT L c := hpos.out
      have hsz := hide' (fun n => below_drewR hbw.out n)
      have hsz2 := hide' (fun n => below_drewR hBl.out n)
      have hA : Hid (∀ V, Below wr.heap.size wr V → V.cell? ⟨g1, f1 + c * 4, none⟩ = some (.int .i64 e.tick)) := fun V hV => (hV.cell (cell_lt a0)).trans a0
      have hF : Hid (∀ b : Bool, b = true → ¬ (lstT L c ≤ e.tick ∧ e.tick ≤ 999999999) → ∀ w', Below wr.heap.size wr w' → QQ (.returned (.tuple #[.slice none 0 0, .int .i64 7])) w') := fun _ _ h w' hb => hNo.out h w' (hbw.out.trans (hb.mono hbw.out.size))
      have hd : Hid (Below wr.heap.size wr wr.drew) := (Below.refl _ wr).drew
      by_cases h1 : e.tick < 0
      · have hG := hide' (fun w' => hF.out true rfl (by omega) w')
        clear hC hT hpos hE1 hE2 hD2 hRS hx hBl hbw hpos' hNo hYes hN hF hsz hsz2
        generalize e.tick = s0 at *
        go_upto_region 7 with fail
        refine wp_region_held_drew (S := (fun V => V.cell? ⟨g1, f1 + c * 4, none⟩ = some (.int .i64 s0))) (by kernel_rfl) ?_ (fun hHeld => ?_)
        · exact hA.out _ hd.out
        refine wpAnyH_take (i := 0) (oi := { dst := some 26, op := Op.move (Operand.tmp 1), type := 26, pos := "ref.go:157", after := #[], guard := none }) (v := ?_) rfl (by kernel_rfl) (by kernel_rfl) (by kernel_rfl) (fun _ _ _ h => h) (Or.inl ⟨by rfl, ?_⟩) (by assumption) ?_
        rotate_left
        · intro w hSw; (try dsimp only at hSw); go_simp <;> with_reducible rfl
        simp only [Act.put, List.setIfInBounds_toArray, List.set_cons_zero, List.set_cons_succ]
        refine wpAnyH_take (i := 1) (oi := { dst := some 27, op := Op.move (Operand.tmp 8), type := 3, pos := "ref.go:157", after := #[], guard := none }) (v := ?_) rfl (by kernel_rfl) (by kernel_rfl) (by kernel_rfl) (fun _ _ _ h => h) (Or.inl ⟨by rfl, ?_⟩) (by assumption) ?_
        rotate_left
        · intro w hSw; (try dsimp only at hSw); go_simp <;> with_reducible rfl
        simp only [Act.put, List.setIfInBounds_toArray, List.set_cons_zero, List.set_cons_succ]
        refine wpAnyH_take (i := 2) (oi := { dst := some 28, op := Op.indexAddr 26 (Operand.tmp 26) (Operand.tmp 27), type := 0, pos := "ref.go:157", after := #[{ on := 0, ground := Ground.data }, { on := 1, ground := Ground.data }], guard := none }) (v := ?_) rfl (by kernel_rfl) (by kernel_rfl) (by kernel_rfl) (fun _ _ _ h => h) (Or.inl ⟨by rfl, ?_⟩) (by assumption) ?_
        rotate_left
        · intro w hSw; (try dsimp only at hSw); go_simp <;> with_reducible rfl
        simp only [Act.put, List.setIfInBounds_toArray, List.set_cons_zero, List.set_cons_succ]
        refine wpAnyH_take (i := 3) (oi := { dst := some 29, op := Op.fieldAddr 76 (Operand.tmp 28) 0, type := 0, pos := "ref.go:157", after := #[{ on := 2, ground := Ground.data }], guard := none }) (v := ?_) rfl (by kernel_rfl) (by kernel_rfl) (by kernel_rfl) (fun _ _ _ h => h) (Or.inl ⟨by rfl, ?_⟩) (by assumption) ?_
        rotate_left
        · intro w hSw; (try dsimp only at hSw); go_simp <;> with_reducible rfl
        simp only [Act.put, List.setIfInBounds_toArray, List.set_cons_zero, List.set_cons_succ]
        refine wpAnyH_take (i := 4) (oi := { dst := some 30, op := Op.load 3 (Operand.tmp 29), type := 3, pos := "ref.go:157", after := #[{ on := 3, ground := Ground.data }], guard := none }) (v := ?_) rfl (by kernel_rfl) (by kernel_rfl) (by kernel_rfl) (fun _ _ _ h => h) (Or.inl ⟨by rfl, ?_⟩) (by assumption) ?_
        rotate_left
        · intro w hSw; (try dsimp only at hSw); go_simp <;> with_reducible rfl
        simp only [Act.put, List.setIfInBounds_toArray, List.set_cons_zero, List.set_cons_succ]
        refine wpAnyH_take (i := 5) (oi := { dst := some 31, op := Op.binOp BinOp.lss 3 (Operand.tmp 30) (Operand.const (Value.int IntKind.i64 0)) 3, type := 4, pos := "ref.go:157", after := #[{ on := 4, ground := Ground.data }], guard := none }) (v := ?_) rfl (by kernel_rfl) (by kernel_rfl) (by kernel_rfl) (fun _ _ _ h => h) (Or.inl ⟨by rfl, ?_⟩) (by assumption) ?_
        rotate_left
        · intro w hSw; (try dsimp only at hSw); go_simp <;> with_reducible rfl
        simp only [Act.put, List.setIfInBounds_toArray, List.set_cons_zero, List.set_cons_succ]
        refine wpAnyH_take (i := 6) (oi := { dst := some 32, op := Op.move (Operand.tmp 31), type := 4, pos := "ref.go:157", after := #[{ on := 5, ground := Ground.data }], guard := none }) (v := ?_) rfl (by kernel_rfl) (by kernel_rfl) (by kernel_rfl) (fun _ _ _ h => h) (Or.inl ⟨by rfl, ?_⟩) (by assumption) ?_
        rotate_left
        · intro w hSw; (try dsimp only at hSw); go_simp <;> with_reducible rfl
        simp only [Act.put, List.setIfInBounds_toArray, List.set_cons_zero, List.set_cons_succ]
        refine wpAnyH_take (i := 7) (oi := { dst := some 33, op := Op.move (Operand.tmp 1), type := 26, pos := "ref.go:157", after := #[{ on := 6, ground := Ground.guard }], guard := some (6, false) }) (v := undef) rfl (by kernel_rfl) (by kernel_rfl) (by kernel_rfl) (fun _ _ _ h => h) (Or.inr ⟨by rfl, rfl⟩) (by assumption) ?_
        simp only [Act.put, List.setIfInBounds_toArray, List.set_cons_zero, List.set_cons_succ]
        refine wpAnyH_take (i := 8) (oi := { dst := some 34, op := Op.move (Operand.tmp 8), type := 3, pos := "ref.go:157", after := #[{ on := 6, ground := Ground.guard }], guard := some (6, false) }) (v := undef) rfl (by kernel_rfl) (by kernel_rfl) (by kernel_rfl) (fun _ _ _ h => h) (Or.inr ⟨by rfl, rfl⟩) (by assumption) ?_
        simp only [Act.put, List.setIfInBounds_toArray, List.set_cons_zero, List.set_cons_succ]
        refine wpAnyH_take (i := 9) (oi := { dst := some 35, op := Op.indexAddr 26 (Operand.tmp 33) (Operand.tmp 34), type := 0, pos := "ref.go:157", after := #[{ on := 7, ground := Ground.data }, { on := 8, ground := Ground.data }, { on := 6, ground := Ground.guard }], guard := some (6, false) }) (v := undef) rfl (by kernel_rfl) (by kernel_rfl) (by kernel_rfl) (fun _ _ _ h => h) (Or.inr ⟨by rfl, rfl⟩) (by assumption) ?_
        simp only [Act.put, List.setIfInBounds_toArray, List.set_cons_zero, List.set_cons_succ]
        refine wpAnyH_take (i := 10) (oi := { dst := some 36, op := Op.fieldAddr 76 (Operand.tmp 35) 0, type := 0, pos := "ref.go:157", after := #[{ on := 9, ground := Ground.data }, { on := 6, ground := Ground.guard }], guard := some (6, false) }) (v := undef) rfl (by kernel_rfl) (by kernel_rfl) (by kernel_rfl) (fun _ _ _ h => h) (Or.inr ⟨by rfl, rfl⟩) (by assumption) ?_
        simp only [Act.put, List.setIfInBounds_toArray, List.set_cons_zero, List.set_cons_succ]
        refine wpAnyH_take (i := 11) (oi := { dst := some 37, op := Op.load 3 (Operand.tmp 36), type := 3, pos := "ref.go:157", after := #[{ on := 10, ground := Ground.data }, { on := 6, ground := Ground.guard }], guard := some (6, false) }) (v := undef) rfl (by kernel_rfl) (by kernel_rfl) (by kernel_rfl) (fun _ _ _ h => h) (Or.inr ⟨by rfl, rfl⟩) (by assumption) ?_
        simp only [Act.put, List.setIfInBounds_toArray, List.set_cons_zero, List.set_cons_succ]
        refine wpAnyH_take (i := 12) (oi := { dst := some 38, op := Op.binOp BinOp.gtr 3 (Operand.tmp 37) (Operand.const (Value.int IntKind.i64 999999999)) 3, type := 4, pos := "ref.go:157", after := #[{ on := 11, ground := Ground.data }, { on := 6, ground := Ground.guard }], guard := some (6, false) }) (v := undef) rfl (by kernel_rfl) (by kernel_rfl) (by kernel_rfl) (fun _ _ _ h => h) (Or.inr ⟨by rfl, rfl⟩) (by assumption) ?_
        simp only [Act.put, List.setIfInBounds_toArray, List.set_cons_zero, List.set_cons_succ]
        refine wpAnyH_take (i := 13) (oi := { dst := some 39, op := Op.pick (Operand.tmp 32) (Operand.const (Value.bool true)) (Operand.tmp 38), type := 4, pos := "ref.go:157", after := #[{ on := 6, ground := Ground.data }, { on := 12, ground := Ground.data }], guard := none }) (v := ?_) rfl (by kernel_rfl) (by kernel_rfl) (by kernel_rfl) (fun _ _ _ h => h) (Or.inl ⟨by rfl, ?_⟩) (by assumption) ?_
        rotate_left
        · intro w hSw; (try dsimp only at hSw); go_simp <;> with_reducible rfl
        simp only [Act.put, List.setIfInBounds_toArray, List.set_cons_zero, List.set_cons_succ]
        refine wpAnyH_take (i := 14) (oi := { dst := some 40, op := Op.move (Operand.tmp 39), type := 4, pos := "ref.go:157", after := #[{ on := 13, ground := Ground.data }, { on := 6, ground := Ground.chain }], guard := none }) (v := ?_) rfl (by kernel_rfl) (by kernel_rfl) (by kernel_rfl) (fun _ _ _ h => h) (Or.inl ⟨by rfl, ?_⟩) (by assumption) ?_
        rotate_left
        · intro w hSw; (try dsimp only at hSw); go_simp <;> with_reducible rfl
        simp only [Act.put, List.setIfInBounds_toArray, List.set_cons_zero, List.set_cons_succ]
        refine wpAnyH_take (i := 15) (oi := { dst := some 41, op := Op.move (Operand.tmp 8), type := 3, pos := "ref.go:157", after := #[{ on := 14, ground := Ground.guard }], guard := some (14, false) }) (v := undef) rfl (by kernel_rfl) (by kernel_rfl) (by kernel_rfl) (fun _ _ _ h => h) (Or.inr ⟨by rfl, rfl⟩) (by assumption) ?_
        simp only [Act.put, List.setIfInBounds_toArray, List.set_cons_zero, List.set_cons_succ]
        refine wpAnyH_take (i := 16) (oi := { dst := some 42, op := Op.binOp BinOp.gtr 3 (Operand.tmp 41) (Operand.const (Value.int IntKind.i64 0)) 3, type := 4, pos := "ref.go:157", after := #[{ on := 15, ground := Ground.data }, { on := 14, ground := Ground.guard }], guard := some (14, false) }) (v := undef) rfl (by kernel_rfl) (by kernel_rfl) (by kernel_rfl) (fun _ _ _ h => h) (Or.inr ⟨by rfl, rfl⟩) (by assumption) ?_
        simp only [Act.put, List.setIfInBounds_toArray, List.set_cons_zero, List.set_cons_succ]
        refine wpAnyH_take (i := 17) (oi := { dst := some 43, op := Op.move (Operand.tmp 42), type := 4, pos := "ref.go:157", after := #[{ on := 16, ground := Ground.data }, { on := 14, ground := Ground.chain }, { on := 14, ground := Ground.guard }], guard := some (14, false) }) (v := undef) rfl (by kernel_rfl) (by kernel_rfl) (by kernel_rfl) (fun _ _ _ h => h) (Or.inr ⟨by rfl, rfl⟩) (by assumption) ?_
        simp only [Act.put, List.setIfInBounds_toArray, List.set_cons_zero, List.set_cons_succ]
        refine wpAnyH_take (i := 18) (oi := { dst := some 44, op := Op.move (Operand.tmp 1), type := 26, pos := "ref.go:157", after := #[{ on := 17, ground := Ground.guard }], guard := some (17, true) }) (v := undef) rfl (by kernel_rfl) (by kernel_rfl) (by kernel_rfl) (fun _ _ _ h => h) (Or.inr ⟨by rfl, rfl⟩) (by assumption) ?_
        simp only [Act.put, List.setIfInBounds_toArray, List.set_cons_zero, List.set_cons_succ]
        refine wpAnyH_take (i := 19) (oi := { dst := some 45, op := Op.move (Operand.tmp 8), type := 3, pos := "ref.go:157", after := #[{ on := 17, ground := Ground.guard }], guard := some (17, true) }) (v := undef) rfl (by kernel_rfl) (by kernel_rfl) (by kernel_rfl) (fun _ _ _ h => h) (Or.inr ⟨by rfl, rfl⟩) (by assumption) ?_
        simp only [Act.put, List.setIfInBounds_toArray, List.set_cons_zero, List.set_cons_succ]
        refine wpAnyH_take (i := 20) (oi := { dst := some 46, op := Op.indexAddr 26 (Operand.tmp 44) (Operand.tmp 45), type := 0, pos := "ref.go:157", after := #[{ on := 18, ground := Ground.data }, { on := 19, ground := Ground.data }, { on := 17, ground := Ground.guard }], guard := some (17, true) }) (v := undef) rfl (by kernel_rfl) (by kernel_rfl) (by kernel_rfl) (fun _ _ _ h => h) (Or.inr ⟨by rfl, rfl⟩) (by assumption) ?_
        simp only [Act.put, List.setIfInBounds_toArray, List.set_cons_zero, List.set_cons_succ]
        refine wpAnyH_take (i := 21) (oi := { dst := some 47, op := Op.fieldAddr 76 (Operand.tmp 46) 0, type := 0, pos := "ref.go:157", after := #[{ on := 20, ground := Ground.data }, { on := 17, ground := Ground.guard }], guard := some (17, true) }) (v := undef) rfl (by kernel_rfl) (by kernel_rfl) (by kernel_rfl) (fun _ _ _ h => h) (Or.inr ⟨by rfl, rfl⟩) (by assumption) ?_
        simp only [Act.put, List.setIfInBounds_toArray, List.set_cons_zero, List.set_cons_succ]
        refine wpAnyH_take (i := 22) (oi := { dst := some 48, op := Op.load 3 (Operand.tmp 47), type := 3, pos := "ref.go:157", after := #[{ on := 21, ground := Ground.data }, { on := 17, ground := Ground.guard }], guard := some (17, true) }) (v := undef) rfl (by kernel_rfl) (by kernel_rfl) (by kernel_rfl) (fun _ _ _ h => h) (Or.inr ⟨by rfl, rfl⟩) (by assumption) ?_
        simp only [Act.put, List.setIfInBounds_toArray, List.set_cons_zero, List.set_cons_succ]
        refine wpAnyH_take (i := 23) (oi := { dst := some 49, op := Op.move (Operand.tmp 1), type := 26, pos := "ref.go:157", after := #[{ on := 17, ground := Ground.guard }], guard := some (17, true) }) (v := undef) rfl (by kernel_rfl) (by kernel_rfl) (by kernel_rfl) (fun _ _ _ h => h) (Or.inr ⟨by rfl, rfl⟩) (by assumption) ?_
        simp only [Act.put, List.setIfInBounds_toArray, List.set_cons_zero, List.set_cons_succ]
        refine wpAnyH_take (i := 24) (oi := { dst := some 50, op := Op.move (Operand.tmp 8), type := 3, pos := "ref.go:157", after := #[{ on := 17, ground := Ground.guard }], guard := some (17, true) }) (v := undef) rfl (by kernel_rfl) (by kernel_rfl) (by kernel_rfl) (fun _ _ _ h => h) (Or.inr ⟨by rfl, rfl⟩) (by assumption) ?_
        simp only [Act.put, List.setIfInBounds_toArray, List.set_cons_zero, List.set_cons_succ]
        refine wpAnyH_take (i := 25) (oi := { dst := some 51, op := Op.binOp BinOp.sub 3 (Operand.tmp 50) (Operand.const (Value.int IntKind.i64 1)) 3, type := 3, pos := "ref.go:157", after := #[{ on := 24, ground := Ground.data }, { on := 17, ground := Ground.guard }], guard := some (17, true) }) (v := undef) rfl (by kernel_rfl) (by kernel_rfl) (by kernel_rfl) (fun _ _ _ h => h) (Or.inr ⟨by rfl, rfl⟩) (by assumption) ?_
        simp only [Act.put, List.setIfInBounds_toArray, List.set_cons_zero, List.set_cons_succ]
        refine wpAnyH_take (i := 26) (oi := { dst := some 52, op := Op.indexAddr 26 (Operand.tmp 49) (Operand.tmp 51), type := 0, pos := "ref.go:157", after := #[{ on := 23, ground := Ground.data }, { on := 25, ground := Ground.data }, { on := 17, ground := Ground.guard }], guard := some (17, true) }) (v := undef) rfl (by kernel_rfl) (by kernel_rfl) (by kernel_rfl) (fun _ _ _ h => h) (Or.inr ⟨by rfl, rfl⟩) (by assumption) ?_
        simp only [Act.put, List.setIfInBounds_toArray, List.set_cons_zero, List.set_cons_succ]
        refine wpAnyH_take (i := 27) (oi := { dst := some 53, op := Op.fieldAddr 76 (Operand.tmp 52) 0, type := 0, pos := "ref.go:157", after := #[{ on := 26, ground := Ground.data }, { on := 17, ground := Ground.guard }], guard := some (17, true) }) (v := undef) rfl (by kernel_rfl) (by kernel_rfl) (by kernel_rfl) (fun _ _ _ h => h) (Or.inr ⟨by rfl, rfl⟩) (by assumption) ?_
        simp only [Act.put, List.setIfInBounds_toArray, List.set_cons_zero, List.set_cons_succ]
        refine wpAnyH_take (i := 28) (oi := { dst := some 54, op := Op.load 3 (Operand.tmp 53), type := 3, pos := "ref.go:157", after := #[{ on := 27, ground := Ground.data }, { on := 17, ground := Ground.guard }], guard := some (17, true) }) (v := undef) rfl (by kernel_rfl) (by kernel_rfl) (by kernel_rfl) (fun _ _ _ h => h) (Or.inr ⟨by rfl, rfl⟩) (by assumption) ?_
        simp only [Act.put, List.setIfInBounds_toArray, List.set_cons_zero, List.set_cons_succ]
        refine wpAnyH_take (i := 29) (oi := { dst := some 55, op := Op.binOp BinOp.lss 3 (Operand.tmp 48) (Operand.tmp 54) 3, type := 4, pos := "ref.go:157", after := #[{ on := 22, ground := Ground.data }, { on := 28, ground := Ground.data }, { on := 17, ground := Ground.guard }], guard := some (17, true) }) (v := undef) rfl (by kernel_rfl) (by kernel_rfl) (by kernel_rfl) (fun _ _ _ h => h) (Or.inr ⟨by rfl, rfl⟩) (by assumption) ?_
        simp only [Act.put, List.setIfInBounds_toArray, List.set_cons_zero, List.set_cons_succ]
        refine wpAnyH_take (i := 30) (oi := { dst := some 56, op := Op.pick (Operand.tmp 43) (Operand.tmp 55) (Operand.const (Value.bool false)), type := 4, pos := "ref.go:157", after := #[{ on := 17, ground := Ground.data }, { on := 29, ground := Ground.data }, { on := 14, ground := Ground.guard }], guard := some (14, false) }) (v := undef) rfl (by kernel_rfl) (by kernel_rfl) (by kernel_rfl) (fun _ _ _ h => h) (Or.inr ⟨by rfl, rfl⟩) (by assumption) ?_
        simp only [Act.put, List.setIfInBounds_toArray, List.set_cons_zero, List.set_cons_succ]
        refine wpAnyH_take (i := 31) (oi := { dst := some 57, op := Op.pick (Operand.tmp 40) (Operand.const (Value.bool true)) (Operand.tmp 56), type := 4, pos := "ref.go:157", after := #[{ on := 14, ground := Ground.data }, { on := 30, ground := Ground.data }], guard := none }) (v := ?_) rfl (by kernel_rfl) (by kernel_rfl) (by kernel_rfl) (fun _ _ _ h => h) (Or.inl ⟨by rfl, ?_⟩) (by assumption) ?_
        rotate_left
        · intro w hSw; (try dsimp only at hSw); go_simp <;> with_reducible rfl
        simp only [Act.put, List.setIfInBounds_toArray, List.set_cons_zero, List.set_cons_succ]
        refine wpAnyH_done (by kernel_rfl) ?_ _
        skip
        go_wp2
        exact hG.out _ hd.out
      by_cases h2 : 999999999 < e.tick
      · have hG := hide' (fun w' => hF.out true rfl (by omega) w')
        clear hC hT hpos hE1 hE2 hD2 hRS hx hBl hbw hpos' hNo hYes hN hF hsz hsz2
        generalize e.tick = s0 at *
        go_upto_region 7 with fail
        refine wp_region_held_drew (S := (fun V => V.cell? ⟨g1, f1 + c * 4, none⟩ = some (.int .i64 s0))) (by kernel_rfl) ?_ (fun hHeld => ?_)
        · exact hA.out _ hd.out
        refine wpAnyH_take (i := 0) (oi := { dst := some 26, op := Op.move (Operand.tmp 1), type := 26, pos := "ref.go:157", after := #[], guard := none }) (v := ?_) rfl (by kernel_rfl) (by kernel_rfl) (by kernel_rfl) (fun _ _ _ h => h) (Or.inl ⟨by rfl, ?_⟩) (by assumption) ?_
        rotate_left
        · intro w hSw; (try dsimp only at hSw); go_simp <;> with_reducible rfl
        simp only [Act.put, List.setIfInBounds_toArray, List.set_cons_zero, List.set_cons_succ]
        refine wpAnyH_take (i := 1) (oi := { dst := some 27, op := Op.move (Operand.tmp 8), type := 3, pos := "ref.go:157", after := #[], guard := none }) (v := ?_) rfl (by kernel_rfl) (by kernel_rfl) (by kernel_rfl) (fun _ _ _ h => h) (Or.inl ⟨by rfl, ?_⟩) (by assumption) ?_
        rotate_left
        · intro w hSw; (try dsimp only at hSw); go_simp <;> with_reducible rfl
        simp only [Act.put, List.setIfInBounds_toArray, List.set_cons_zero, List.set_cons_succ]
        refine wpAnyH_take (i := 2) (oi := { dst := some 28, op := Op.indexAddr 26 (Operand.tmp 26) (Operand.tmp 27), type := 0, pos := "ref.go:157", after := #[{ on := 0, ground := Ground.data }, { on := 1, ground := Ground.data }], guard := none }) (v := ?_) rfl (by kernel_rfl) (by kernel_rfl) (by kernel_rfl) (fun _ _ _ h => h) (Or.inl ⟨by rfl, ?_⟩) (by assumption) ?_
        rotate_left
        · intro w hSw; (try dsimp only at hSw); go_simp <;> with_reducible rfl
        simp only [Act.put, List.setIfInBounds_toArray, List.set_cons_zero, List.set_cons_succ]
        refine wpAnyH_take (i := 3) (oi := { dst := some 29, op := Op.fieldAddr 76 (Operand.tmp 28) 0, type := 0, pos := "ref.go:157", after := #[{ on := 2, ground := Ground.data }], guard := none }) (v := ?_) rfl (by kernel_rfl) (by kernel_rfl) (by kernel_rfl) (fun _ _ _ h => h) (Or.inl ⟨by rfl, ?_⟩) (by assumption) ?_
        rotate_left
        · intro w hSw; (try dsimp only at hSw); go_simp <;> with_reducible rfl
        simp only [Act.put, List.setIfInBounds_toArray, List.set_cons_zero, List.set_cons_succ]
        refine wpAnyH_take (i := 4) (oi := { dst := some 30, op := Op.load 3 (Operand.tmp 29), type := 3, pos := "ref.go:157", after := #[{ on := 3, ground := Ground.data }], guard := none }) (v := ?_) rfl (by kernel_rfl) (by kernel_rfl) (by kernel_rfl) (fun _ _ _ h => h) (Or.inl ⟨by rfl, ?_⟩) (by assumption) ?_
        rotate_left
        · intro w hSw; (try dsimp only at hSw); go_simp <;> with_reducible rfl
        simp only [Act.put, List.setIfInBounds_toArray, List.set_cons_zero, List.set_cons_succ]
        refine wpAnyH_take (i := 5) (oi := { dst := some 31, op := Op.binOp BinOp.lss 3 (Operand.tmp 30) (Operand.const (Value.int IntKind.i64 0)) 3, type := 4, pos := "ref.go:157", after := #[{ on := 4, ground := Ground.data }], guard := none }) (v := ?_) rfl (by kernel_rfl) (by kernel_rfl) (by kernel_rfl) (fun _ _ _ h => h) (Or.inl ⟨by rfl, ?_⟩) (by assumption) ?_
        rotate_left
        · intro w hSw; (try dsimp only at hSw); go_simp <;> with_reducible rfl
        simp only [Act.put, List.setIfInBounds_toArray, List.set_cons_zero, List.set_cons_succ]
        refine wpAnyH_take (i := 6) (oi := { dst := some 32, op := Op.move (Operand.tmp 31), type := 4, pos := "ref.go:157", after := #[{ on := 5, ground := Ground.data }], guard := none }) (v := ?_) rfl (by kernel_rfl) (by kernel_rfl) (by kernel_rfl) (fun _ _ _ h => h) (Or.inl ⟨by rfl, ?_⟩) (by assumption) ?_
        rotate_left
        · intro w hSw; (try dsimp only at hSw); go_simp <;> with_reducible rfl
        simp only [Act.put, List.setIfInBounds_toArray, List.set_cons_zero, List.set_cons_succ]
        refine wpAnyH_take (i := 7) (oi := { dst := some 33, op := Op.move (Operand.tmp 1), type := 26, pos := "ref.go:157", after := #[{ on := 6, ground := Ground.guard }], guard := some (6, false) }) (v := ?_) rfl (by kernel_rfl) (by kernel_rfl) (by kernel_rfl) (fun _ _ _ h => h) (Or.inl ⟨by rfl, ?_⟩) (by assumption) ?_
        rotate_left
        · intro w hSw; (try dsimp only at hSw); go_simp <;> with_reducible rfl
        simp only [Act.put, List.setIfInBounds_toArray, List.set_cons_zero, List.set_cons_succ]
        refine wpAnyH_take (i := 8) (oi := { dst := some 34, op := Op.move (Operand.tmp 8), type := 3, pos := "ref.go:157", after := #[{ on := 6, ground := Ground.guard }], guard := some (6, false) }) (v := ?_) rfl (by kernel_rfl) (by kernel_rfl) (by kernel_rfl) (fun _ _ _ h => h) (Or.inl ⟨by rfl, ?_⟩) (by assumption) ?_
        rotate_left
        · intro w hSw; (try dsimp only at hSw); go_simp <;> with_reducible rfl
        simp only [Act.put, List.setIfInBounds_toArray, List.set_cons_zero, List.set_cons_succ]
        refine wpAnyH_take (i := 9) (oi := { dst := some 35, op := Op.indexAddr 26 (Operand.tmp 33) (Operand.tmp 34), type := 0, pos := "ref.go:157", after := #[{ on := 7, ground := Ground.data }, { on := 8, ground := Ground.data }, { on := 6, ground := Ground.guard }], guard := some (6, false) }) (v := ?_) rfl (by kernel_rfl) (by kernel_rfl) (by kernel_rfl) (fun _ _ _ h => h) (Or.inl ⟨by rfl, ?_⟩) (by assumption) ?_
        rotate_left
        · intro w hSw; (try dsimp only at hSw); go_simp <;> with_reducible rfl
        simp only [Act.put, List.setIfInBounds_toArray, List.set_cons_zero, List.set_cons_succ]
        refine wpAnyH_take (i := 10) (oi := { dst := some 36, op := Op.fieldAddr 76 (Operand.tmp 35) 0, type := 0, pos := "ref.go:157", after := #[{ on := 9, ground := Ground.data }, { on := 6, ground := Ground.guard }], guard := some (6, false) }) (v := ?_) rfl (by kernel_rfl) (by kernel_rfl) (by kernel_rfl) (fun _ _ _ h => h) (Or.inl ⟨by rfl, ?_⟩) (by assumption) ?_
        rotate_left
        · intro w hSw; (try dsimp only at hSw); go_simp <;> with_reducible rfl
        simp only [Act.put, List.setIfInBounds_toArray, List.set_cons_zero, List.set_cons_succ]
        refine wpAnyH_take (i := 11) (oi := { dst := some 37, op := Op.load 3 (Operand.tmp 36), type := 3, pos := "ref.go:157", after := #[{ on := 10, ground := Ground.data }, { on := 6, ground := Ground.guard }], guard := some (6, false) }) (v := ?_) rfl (by kernel_rfl) (by kernel_rfl) (by kernel_rfl) (fun _ _ _ h => h) (Or.inl ⟨by rfl, ?_⟩) (by assumption) ?_
        rotate_left
        · intro w hSw; (try dsimp only at hSw); go_simp <;> with_reducible rfl
        simp only [Act.put, List.setIfInBounds_toArray, List.set_cons_zero, List.set_cons_succ]
        refine wpAnyH_take (i := 12) (oi := { dst := some 38, op := Op.binOp BinOp.gtr 3 (Operand.tmp 37) (Operand.const (Value.int IntKind.i64 999999999)) 3, type := 4, pos := "ref.go:157", after := #[{ on := 11, ground := Ground.data }, { on := 6, ground := Ground.guard }], guard := some (6, false) }) (v := ?_) rfl (by kernel_rfl) (by kernel_rfl) (by kernel_rfl) (fun _ _ _ h => h) (Or.inl ⟨by rfl, ?_⟩) (by assumption) ?_
        rotate_left
        · intro w hSw; (try dsimp only at hSw); go_simp <;> with_reducible rfl
        simp only [Act.put, List.setIfInBounds_toArray, List.set_cons_zero, List.set_cons_succ]
        refine wpAnyH_take (i := 13) (oi := { dst := some 39, op := Op.pick (Operand.tmp 32) (Operand.const (Value.bool true)) (Operand.tmp 38), type := 4, pos := "ref.go:157", after := #[{ on := 6, ground := Ground.data }, { on := 12, ground := Ground.data }], guard := none }) (v := ?_) rfl (by kernel_rfl) (by kernel_rfl) (by kernel_rfl) (fun _ _ _ h => h) (Or.inl ⟨by rfl, ?_⟩) (by assumption) ?_
        rotate_left
        · intro w hSw; (try dsimp only at hSw); go_simp <;> with_reducible rfl
        simp only [Act.put, List.setIfInBounds_toArray, List.set_cons_zero, List.set_cons_succ]
        refine wpAnyH_take (i := 14) (oi := { dst := some 40, op := Op.move (Operand.tmp 39), type := 4, pos := "ref.go:157", after := #[{ on := 13, ground := Ground.data }, { on := 6, ground := Ground.chain }], guard := none }) (v := ?_) rfl (by kernel_rfl) (by kernel_rfl) (by kernel_rfl) (fun _ _ _ h => h) (Or.inl ⟨by rfl, ?_⟩) (by assumption) ?_
        rotate_left
        · intro w hSw; (try dsimp only at hSw); go_simp <;> with_reducible rfl
        simp only [Act.put, List.setIfInBounds_toArray, List.set_cons_zero, List.set_cons_succ]
        refine wpAnyH_take (i := 15) (oi := { dst := some 41, op := Op.move (Operand.tmp 8), type := 3, pos := "ref.go:157", after := #[{ on := 14, ground := Ground.guard }], guard := some (14, false) }) (v := undef) rfl (by kernel_rfl) (by kernel_rfl) (by kernel_rfl) (fun _ _ _ h => h) (Or.inr ⟨by rfl, rfl⟩) (by assumption) ?_
        simp only [Act.put, List.setIfInBounds_toArray, List.set_cons_zero, List.set_cons_succ]
        refine wpAnyH_take (i := 16) (oi := { dst := some 42, op := Op.binOp BinOp.gtr 3 (Operand.tmp 41) (Operand.const (Value.int IntKind.i64 0)) 3, type := 4, pos := "ref.go:157", after := #[{ on := 15, ground := Ground.data }, { on := 14, ground := Ground.guard }], guard := some (14, false) }) (v := undef) rfl (by kernel_rfl) (by kernel_rfl) (by kernel_rfl) (fun _ _ _ h => h) (Or.inr ⟨by rfl, rfl⟩) (by assumption) ?_
        simp only [Act.put, List.setIfInBounds_toArray, List.set_cons_zero, List.set_cons_succ]
        refine wpAnyH_take (i := 17) (oi := { dst := some 43, op := Op.move (Operand.tmp 42), type := 4, pos := "ref.go:157", after := #[{ on := 16, ground := Ground.data }, { on := 14, ground := Ground.chain }, { on := 14, ground := Ground.guard }], guard := some (14, false) }) (v := undef) rfl (by kernel_rfl) (by kernel_rfl) (by kernel_rfl) (fun _ _ _ h => h) (Or.inr ⟨by rfl, rfl⟩) (by assumption) ?_
        simp only [Act.put, List.setIfInBounds_toArray, List.set_cons_zero, List.set_cons_succ]
        refine wpAnyH_take (i := 18) (oi := { dst := some 44, op := Op.move (Operand.tmp 1), type := 26, pos := "ref.go:157", after := #[{ on := 17, ground := Ground.guard }], guard := some (17, true) }) (v := undef) rfl (by kernel_rfl) (by kernel_rfl) (by kernel_rfl) (fun _ _ _ h => h) (Or.inr ⟨by rfl, rfl⟩) (by assumption) ?_
        simp only [Act.put, List.setIfInBounds_toArray, List.set_cons_zero, List.set_cons_succ]
        refine wpAnyH_take (i := 19) (oi := { dst := some 45, op := Op.move (Operand.tmp 8), type := 3, pos := "ref.go:157", after := #[{ on := 17, ground := Ground.guard }], guard := some (17, true) }) (v := undef) rfl (by kernel_rfl) (by kernel_rfl) (by kernel_rfl) (fun _ _ _ h => h) (Or.inr ⟨by rfl, rfl⟩) (by assumption) ?_
        simp only [Act.put, List.setIfInBounds_toArray, List.set_cons_zero, List.set_cons_succ]
        refine wpAnyH_take (i := 20) (oi := { dst := some 46, op := Op.indexAddr 26 (Operand.tmp 44) (Operand.tmp 45), type := 0, pos := "ref.go:157", after := #[{ on := 18, ground := Ground.data }, { on := 19, ground := Ground.data }, { on := 17, ground := Ground.guard }], guard := some (17, true) }) (v := undef) rfl (by kernel_rfl) (by kernel_rfl) (by kernel_rfl) (fun _ _ _ h => h) (Or.inr ⟨by rfl, rfl⟩) (by assumption) ?_
        simp only [Act.put, List.setIfInBounds_toArray, List.set_cons_zero, List.set_cons_succ]
        refine wpAnyH_take (i := 21) (oi := { dst := some 47, op := Op.fieldAddr 76 (Operand.tmp 46) 0, type := 0, pos := "ref.go:157", after := #[{ on := 20, ground := Ground.data }, { on := 17, ground := Ground.guard }], guard := some (17, true) }) (v := undef) rfl (by kernel_rfl) (by kernel_rfl) (by kernel_rfl) (fun _ _ _ h => h) (Or.inr ⟨by rfl, rfl⟩) (by assumption) ?_
        simp only [Act.put, List.setIfInBounds_toArray, List.set_cons_zero, List.set_cons_succ]
        refine wpAnyH_take (i := 22) (oi := { dst := some 48, op := Op.load 3 (Operand.tmp 47), type := 3, pos := "ref.go:157", after := #[{ on := 21, ground := Ground.data }, { on := 17, ground := Ground.guard }], guard := some (17, true) }) (v := undef) rfl (by kernel_rfl) (by kernel_rfl) (by kernel_rfl) (fun _ _ _ h => h) (Or.inr ⟨by rfl, rfl⟩) (by assumption) ?_
        simp only [Act.put, List.setIfInBounds_toArray, List.set_cons_zero, List.set_cons_succ]
        refine wpAnyH_take (i := 23) (oi := { dst := some 49, op := Op.move (Operand.tmp 1), type := 26, pos := "ref.go:157", after := #[{ on := 17, ground := Ground.guard }], guard := some (17, true) }) (v := undef) rfl (by kernel_rfl) (by kernel_rfl) (by kernel_rfl) (fun _ _ _ h => h) (Or.inr ⟨by rfl, rfl⟩) (by assumption) ?_
        simp only [Act.put, List.setIfInBounds_toArray, List.set_cons_zero, List.set_cons_succ]
        refine wpAnyH_take (i := 24) (oi := { dst := some 50, op := Op.move (Operand.tmp 8), type := 3, pos := "ref.go:157", after := #[{ on := 17, ground := Ground.guard }], guard := some (17, true) }) (v := undef) rfl (by kernel_rfl) (by kernel_rfl) (by kernel_rfl) (fun _ _ _ h => h) (Or.inr ⟨by rfl, rfl⟩) (by assumption) ?_
        simp only [Act.put, List.setIfInBounds_toArray, List.set_cons_zero, List.set_cons_succ]
        refine wpAnyH_take (i := 25) (oi := { dst := some 51, op := Op.binOp BinOp.sub 3 (Operand.tmp 50) (Operand.const (Value.int IntKind.i64 1)) 3, type := 3, pos := "ref.go:157", after := #[{ on := 24, ground := Ground.data }, { on := 17, ground := Ground.guard }], guard := some (17, true) }) (v := undef) rfl (by kernel_rfl) (by kernel_rfl) (by kernel_rfl) (fun _ _ _ h => h) (Or.inr ⟨by rfl, rfl⟩) (by assumption) ?_
        simp only [Act.put, List.setIfInBounds_toArray, List.set_cons_zero, List.set_cons_succ]
        refine wpAnyH_take (i := 26) (oi := { dst := some 52, op := Op.indexAddr 26 (Operand.tmp 49) (Operand.tmp 51), type := 0, pos := "ref.go:157", after := #[{ on := 23, ground := Ground.data }, { on := 25, ground := Ground.data }, { on := 17, ground := Ground.guard }], guard := some (17, true) }) (v := undef) rfl (by kernel_rfl) (by kernel_rfl) (by kernel_rfl) (fun _ _ _ h => h) (Or.inr ⟨by rfl, rfl⟩) (by assumption) ?_
        simp only [Act.put, List.setIfInBounds_toArray, List.set_cons_zero, List.set_cons_succ]
        refine wpAnyH_take (i := 27) (oi := { dst := some 53, op := Op.fieldAddr 76 (Operand.tmp 52) 0, type := 0, pos := "ref.go:157", after := #[{ on := 26, ground := Ground.data }, { on := 17, ground := Ground.guard }], guard := some (17, true) }) (v := undef) rfl (by kernel_rfl) (by kernel_rfl) (by kernel_rfl) (fun _ _ _ h => h) (Or.inr ⟨by rfl, rfl⟩) (by assumption) ?_
        simp only [Act.put, List.setIfInBounds_toArray, List.set_cons_zero, List.set_cons_succ]
        refine wpAnyH_take (i := 28) (oi := { dst := some 54, op := Op.load 3 (Operand.tmp 53), type := 3, pos := "ref.go:157", after := #[{ on := 27, ground := Ground.data }, { on := 17, ground := Ground.guard }], guard := some (17, true) }) (v := undef) rfl (by kernel_rfl) (by kernel_rfl) (by kernel_rfl) (fun _ _ _ h => h) (Or.inr ⟨by rfl, rfl⟩) (by assumption) ?_
        simp only [Act.put, List.setIfInBounds_toArray, List.set_cons_zero, List.set_cons_succ]
        refine wpAnyH_take (i := 29) (oi := { dst := some 55, op := Op.binOp BinOp.lss 3 (Operand.tmp 48) (Operand.tmp 54) 3, type := 4, pos := "ref.go:157", after := #[{ on := 22, ground := Ground.data }, { on := 28, ground := Ground.data }, { on := 17, ground := Ground.guard }], guard := some (17, true) }) (v := undef) rfl (by kernel_rfl) (by kernel_rfl) (by kernel_rfl) (fun _ _ _ h => h) (Or.inr ⟨by rfl, rfl⟩) (by assumption) ?_
        simp only [Act.put, List.setIfInBounds_toArray, List.set_cons_zero, List.set_cons_succ]
        refine wpAnyH_take (i := 30) (oi := { dst := some 56, op := Op.pick (Operand.tmp 43) (Operand.tmp 55) (Operand.const (Value.bool false)), type := 4, pos := "ref.go:157", after := #[{ on := 17, ground := Ground.data }, { on := 29, ground := Ground.data }, { on := 14, ground := Ground.guard }], guard := some (14, false) }) (v := undef) rfl (by kernel_rfl) (by kernel_rfl) (by kernel_rfl) (fun _ _ _ h => h) (Or.inr ⟨by rfl, rfl⟩) (by assumption) ?_
        simp only [Act.put, List.setIfInBounds_toArray, List.set_cons_zero, List.set_cons_succ]
        refine wpAnyH_take (i := 31) (oi := { dst := some 57, op := Op.pick (Operand.tmp 40) (Operand.const (Value.bool true)) (Operand.tmp 56), type := 4, pos := "ref.go:157", after := #[{ on := 14, ground := Ground.data }, { on := 30, ground := Ground.data }], guard := none }) (v := ?_) rfl (by kernel_rfl) (by kernel_rfl) (by kernel_rfl) (fun _ _ _ h => h) (Or.inl ⟨by rfl, ?_⟩) (by assumption) ?_
        rotate_left
        · intro w hSw; (try dsimp only at hSw); go_simp <;> with_reducible rfl
        simp only [Act.put, List.setIfInBounds_toArray, List.set_cons_zero, List.set_cons_succ]
        refine wpAnyH_done (by kernel_rfl) ?_ _
        skip
        go_wp2
        exact hG.out _ hd.out
      by_cases h0 : c = 0
      · have hcz : ¬ (0 : Int) < (c : Int) := by omega
        have hcz' : ¬ 0 < c := by omega
        have hl0 : lstT L c = 0 := by rw [h0]; rfl
        have hT2 := hide' (hYes.out (by omega) (by omega))
        have hp2 : Hid (0 ≤ lstT L (c + 1)) := by show _ ≤ _; rw [hN.out]; omega
        clear hC hT hpos hE1 hE2 hD2 hRS hx hbw hpos' hl0 h0 hNo hYes hN hF hsz
        generalize e.tick = s0 at *
        go_upto_region 7 with fail
        refine wp_region_held_drew (S := (fun V => V.cell? ⟨g1, f1 + c * 4, none⟩ = some (.int .i64 s0))) (by kernel_rfl) ?_ (fun hHeld => ?_)
        · exact hA.out _ hd.out
        refine wpAnyH_take (i := 0) (oi := { dst := some 26, op := Op.move (Operand.tmp 1), type := 26, pos := "ref.go:157", after := #[], guard := none }) (v := ?_) rfl (by kernel_rfl) (by kernel_rfl) (by kernel_rfl) (fun _ _ _ h => h) (Or.inl ⟨by rfl, ?_⟩) (by assumption) ?_
        rotate_left
        · intro w hSw; (try dsimp only at hSw); go_simp <;> with_reducible rfl
        simp only [Act.put, List.setIfInBounds_toArray, List.set_cons_zero, List.set_cons_succ]
        refine wpAnyH_take (i := 1) (oi := { dst := some 27, op := Op.move (Operand.tmp 8), type := 3, pos := "ref.go:157", after := #[], guard := none }) (v := ?_) rfl (by kernel_rfl) (by kernel_rfl) (by kernel_rfl) (fun _ _ _ h => h) (Or.inl ⟨by rfl, ?_⟩) (by assumption) ?_
        rotate_left
        · intro w hSw; (try dsimp only at hSw); go_simp <;> with_reducible rfl
        simp only [Act.put, List.setIfInBounds_toArray, List.set_cons_zero, List.set_cons_succ]
        refine wpAnyH_take (i := 2) (oi := { dst := some 28, op := Op.indexAddr 26 (Operand.tmp 26) (Operand.tmp 27), type := 0, pos := "ref.go:157", after := #[{ on := 0, ground := Ground.data }, { on := 1, ground := Ground.data }], guard := none }) (v := ?_) rfl (by kernel_rfl) (by kernel_rfl) (by kernel_rfl) (fun _ _ _ h => h) (Or.inl ⟨by rfl, ?_⟩) (by assumption) ?_
        rotate_left
        · intro w hSw; (try dsimp only at hSw); go_simp <;> with_reducible rfl
        simp only [Act.put, List.setIfInBounds_toArray, List.set_cons_zero, List.set_cons_succ]
        refine wpAnyH_take (i := 3) (oi := { dst := some 29, op := Op.fieldAddr 76 (Operand.tmp 28) 0, type := 0, pos := "ref.go:157", after := #[{ on := 2, ground := Ground.data }], guard := none }) (v := ?_) rfl (by kernel_rfl) (by kernel_rfl) (by kernel_rfl) (fun _ _ _ h => h) (Or.inl ⟨by rfl, ?_⟩) (by assumption) ?_
        rotate_left
        · intro w hSw; (try dsimp only at hSw); go_simp <;> with_reducible rfl
        simp only [Act.put, List.setIfInBounds_toArray, List.set_cons_zero, List.set_cons_succ]
        refine wpAnyH_take (i := 4) (oi := { dst := some 30, op := Op.load 3 (Operand.tmp 29), type := 3, pos := "ref.go:157", after := #[{ on := 3, ground := Ground.data }], guard := none }) (v := ?_) rfl (by kernel_rfl) (by kernel_rfl) (by kernel_rfl) (fun _ _ _ h => h) (Or.inl ⟨by rfl, ?_⟩) (by assumption) ?_
        rotate_left
        · intro w hSw; (try dsimp only at hSw); go_simp <;> with_reducible rfl
        simp only [Act.put, List.setIfInBounds_toArray, List.set_cons_zero, List.set_cons_succ]
        refine wpAnyH_take (i := 5) (oi := { dst := some 31, op := Op.binOp BinOp.lss 3 (Operand.tmp 30) (Operand.const (Value.int IntKind.i64 0)) 3, type := 4, pos := "ref.go:157", after := #[{ on := 4, ground := Ground.data }], guard := none }) (v := ?_) rfl (by kernel_rfl) (by kernel_rfl) (by kernel_rfl) (fun _ _ _ h => h) (Or.inl ⟨by rfl, ?_⟩) (by assumption) ?_
        rotate_left
        · intro w hSw; (try dsimp only at hSw); go_simp <;> with_reducible rfl
        simp only [Act.put, List.setIfInBounds_toArray, List.set_cons_zero, List.set_cons_succ]
        refine wpAnyH_take (i := 6) (oi := { dst := some 32, op := Op.move (Operand.tmp 31), type := 4, pos := "ref.go:157", after := #[{ on := 5, ground := Ground.data }], guard := none }) (v := ?_) rfl (by kernel_rfl) (by kernel_rfl) (by kernel_rfl) (fun _ _ _ h => h) (Or.inl ⟨by rfl, ?_⟩) (by assumption) ?_
        rotate_left
        · intro w hSw; (try dsimp only at hSw); go_simp <;> with_reducible rfl
        simp only [Act.put, List.setIfInBounds_toArray, List.set_cons_zero, List.set_cons_succ]
        refine wpAnyH_take (i := 7) (oi := { dst := some 33, op := Op.move (Operand.tmp 1), type := 26, pos := "ref.go:157", after := #[{ on := 6, ground := Ground.guard }], guard := some (6, false) }) (v := ?_) rfl (by kernel_rfl) (by kernel_rfl) (by kernel_rfl) (fun _ _ _ h => h) (Or.inl ⟨by rfl, ?_⟩) (by assumption) ?_
        rotate_left
        · intro w hSw; (try dsimp only at hSw); go_simp <;> with_reducible rfl
        simp only [Act.put, List.setIfInBounds_toArray, List.set_cons_zero, List.set_cons_succ]
        refine wpAnyH_take (i := 8) (oi := { dst := some 34, op := Op.move (Operand.tmp 8), type := 3, pos := "ref.go:157", after := #[{ on := 6, ground := Ground.guard }], guard := some (6, false) }) (v := ?_) rfl (by kernel_rfl) (by kernel_rfl) (by kernel_rfl) (fun _ _ _ h => h) (Or.inl ⟨by rfl, ?_⟩) (by assumption) ?_
        rotate_left
        · intro w hSw; (try dsimp only at hSw); go_simp <;> with_reducible rfl
        simp only [Act.put, List.setIfInBounds_toArray, List.set_cons_zero, List.set_cons_succ]
        refine wpAnyH_take (i := 9) (oi := { dst := some 35, op := Op.indexAddr 26 (Operand.tmp 33) (Operand.tmp 34), type := 0, pos := "ref.go:157", after := #[{ on := 7, ground := Ground.data }, { on := 8, ground := Ground.data }, { on := 6, ground := Ground.guard }], guard := some (6, false) }) (v := ?_) rfl (by kernel_rfl) (by kernel_rfl) (by kernel_rfl) (fun _ _ _ h => h) (Or.inl ⟨by rfl, ?_⟩) (by assumption) ?_
        rotate_left
        · intro w hSw; (try dsimp only at hSw); go_simp <;> with_reducible rfl
        simp only [Act.put, List.setIfInBounds_toArray, List.set_cons_zero, List.set_cons_succ]
        refine wpAnyH_take (i := 10) (oi := { dst := some 36, op := Op.fieldAddr 76 (Operand.tmp 35) 0, type := 0, pos := "ref.go:157", after := #[{ on := 9, ground := Ground.data }, { on := 6, ground := Ground.guard }], guard := some (6, false) }) (v := ?_) rfl (by kernel_rfl) (by kernel_rfl) (by kernel_rfl) (fun _ _ _ h => h) (Or.inl ⟨by rfl, ?_⟩) (by assumption) ?_
        rotate_left
        · intro w hSw; (try dsimp only at hSw); go_simp <;> with_reducible rfl
        simp only [Act.put, List.setIfInBounds_toArray, List.set_cons_zero, List.set_cons_succ]
        refine wpAnyH_take (i := 11) (oi := { dst := some 37, op := Op.load 3 (Operand.tmp 36), type := 3, pos := "ref.go:157", after := #[{ on := 10, ground := Ground.data }, { on := 6, ground := Ground.guard }], guard := some (6, false) }) (v := ?_) rfl (by kernel_rfl) (by kernel_rfl) (by kernel_rfl) (fun _ _ _ h => h) (Or.inl ⟨by rfl, ?_⟩) (by assumption) ?_
        rotate_left
        · intro w hSw; (try dsimp only at hSw); go_simp <;> with_reducible rfl
        simp only [Act.put, List.setIfInBounds_toArray, List.set_cons_zero, List.set_cons_succ]
        refine wpAnyH_take (i := 12) (oi := { dst := some 38, op := Op.binOp BinOp.gtr 3 (Operand.tmp 37) (Operand.const (Value.int IntKind.i64 999999999)) 3, type := 4, pos := "ref.go:157", after := #[{ on := 11, ground := Ground.data }, { on := 6, ground := Ground.guard }], guard := some (6, false) }) (v := ?_) rfl (by kernel_rfl) (by kernel_rfl) (by kernel_rfl) (fun _ _ _ h => h) (Or.inl ⟨by rfl, ?_⟩) (by assumption) ?_
        rotate_left
        · intro w hSw; (try dsimp only at hSw); go_simp <;> with_reducible rfl
        simp only [Act.put, List.setIfInBounds_toArray, List.set_cons_zero, List.set_cons_succ]
        refine wpAnyH_take (i := 13) (oi := { dst := some 39, op := Op.pick (Operand.tmp 32) (Operand.const (Value.bool true)) (Operand.tmp 38), type := 4, pos := "ref.go:157", after := #[{ on := 6, ground := Ground.data }, { on := 12, ground := Ground.data }], guard := none }) (v := ?_) rfl (by kernel_rfl) (by kernel_rfl) (by kernel_rfl) (fun _ _ _ h => h) (Or.inl ⟨by rfl, ?_⟩) (by assumption) ?_
        rotate_left
        · intro w hSw; (try dsimp only at hSw); go_simp <;> with_reducible rfl
        simp only [Act.put, List.setIfInBounds_toArray, List.set_cons_zero, List.set_cons_succ]
        refine wpAnyH_take (i := 14) (oi := { dst := some 40, op := Op.move (Operand.tmp 39), type := 4, pos := "ref.go:157", after := #[{ on := 13, ground := Ground.data }, { on := 6, ground := Ground.chain }], guard := none }) (v := ?_) rfl (by kernel_rfl) (by kernel_rfl) (by kernel_rfl) (fun _ _ _ h => h) (Or.inl ⟨by rfl, ?_⟩) (by assumption) ?_
        rotate_left
        · intro w hSw; (try dsimp only at hSw); go_simp <;> with_reducible rfl
        simp only [Act.put, List.setIfInBounds_toArray, List.set_cons_zero, List.set_cons_succ]
        refine wpAnyH_take (i := 15) (oi := { dst := some 41, op := Op.move (Operand.tmp 8), type := 3, pos := "ref.go:157", after := #[{ on := 14, ground := Ground.guard }], guard := some (14, false) }) (v := ?_) rfl (by kernel_rfl) (by kernel_rfl) (by kernel_rfl) (fun _ _ _ h => h) (Or.inl ⟨by rfl, ?_⟩) (by assumption) ?_
        rotate_left
        · intro w hSw; (try dsimp only at hSw); go_simp <;> with_reducible rfl
        simp only [Act.put, List.setIfInBounds_toArray, List.set_cons_zero, List.set_cons_succ]
        refine wpAnyH_take (i := 16) (oi := { dst := some 42, op := Op.binOp BinOp.gtr 3 (Operand.tmp 41) (Operand.const (Value.int IntKind.i64 0)) 3, type := 4, pos := "ref.go:157", after := #[{ on := 15, ground := Ground.data }, { on := 14, ground := Ground.guard }], guard := some (14, false) }) (v := ?_) rfl (by kernel_rfl) (by kernel_rfl) (by kernel_rfl) (fun _ _ _ h => h) (Or.inl ⟨by rfl, ?_⟩) (by assumption) ?_
        rotate_left
        · intro w hSw; (try dsimp only at hSw); go_simp <;> with_reducible rfl
        simp only [Act.put, List.setIfInBounds_toArray, List.set_cons_zero, List.set_cons_succ]
        refine wpAnyH_take (i := 17) (oi := { dst := some 43, op := Op.move (Operand.tmp 42), type := 4, pos := "ref.go:157", after := #[{ on := 16, ground := Ground.data }, { on := 14, ground := Ground.chain }, { on := 14, ground := Ground.guard }], guard := some (14, false) }) (v := ?_) rfl (by kernel_rfl) (by kernel_rfl) (by kernel_rfl) (fun _ _ _ h => h) (Or.inl ⟨by rfl, ?_⟩) (by assumption) ?_
        rotate_left
        · intro w hSw; (try dsimp only at hSw); go_simp <;> with_reducible rfl
        simp only [Act.put, List.setIfInBounds_toArray, List.set_cons_zero, List.set_cons_succ]
        refine wpAnyH_take (i := 18) (oi := { dst := some 44, op := Op.move (Operand.tmp 1), type := 26, pos := "ref.go:157", after := #[{ on := 17, ground := Ground.guard }], guard := some (17, true) }) (v := undef) rfl (by kernel_rfl) (by kernel_rfl) (by kernel_rfl) (fun _ _ _ h => h) (Or.inr ⟨by rfl, rfl⟩) (by assumption) ?_
        simp only [Act.put, List.setIfInBounds_toArray, List.set_cons_zero, List.set_cons_succ]
        refine wpAnyH_take (i := 19) (oi := { dst := some 45, op := Op.move (Operand.tmp 8), type := 3, pos := "ref.go:157", after := #[{ on := 17, ground := Ground.guard }], guard := some (17, true) }) (v := undef) rfl (by kernel_rfl) (by kernel_rfl) (by kernel_rfl) (fun _ _ _ h => h) (Or.inr ⟨by rfl, rfl⟩) (by assumption) ?_
        simp only [Act.put, List.setIfInBounds_toArray, List.set_cons_zero, List.set_cons_succ]
        refine wpAnyH_take (i := 20) (oi := { dst := some 46, op := Op.indexAddr 26 (Operand.tmp 44) (Operand.tmp 45), type := 0, pos := "ref.go:157", after := #[{ on := 18, ground := Ground.data }, { on := 19, ground := Ground.data }, { on := 17, ground := Ground.guard }], guard := some (17, true) }) (v := undef) rfl (by kernel_rfl) (by kernel_rfl) (by kernel_rfl) (fun _ _ _ h => h) (Or.inr ⟨by rfl, rfl⟩) (by assumption) ?_
        simp only [Act.put, List.setIfInBounds_toArray, List.set_cons_zero, List.set_cons_succ]
        refine wpAnyH_take (i := 21) (oi := { dst := some 47, op := Op.fieldAddr 76 (Operand.tmp 46) 0, type := 0, pos := "ref.go:157", after := #[{ on := 20, ground := Ground.data }, { on := 17, ground := Ground.guard }], guard := some (17, true) }) (v := undef) rfl (by kernel_rfl) (by kernel_rfl) (by kernel_rfl) (fun _ _ _ h => h) (Or.inr ⟨by rfl, rfl⟩) (by assumption) ?_
        simp only [Act.put, List.setIfInBounds_toArray, List.set_cons_zero, List.set_cons_succ]
        refine wpAnyH_take (i := 22) (oi := { dst := some 48, op := Op.load 3 (Operand.tmp 47), type := 3, pos := "ref.go:157", after := #[{ on := 21, ground := Ground.data }, { on := 17, ground := Ground.guard }], guard := some (17, true) }) (v := undef) rfl (by kernel_rfl) (by kernel_rfl) (by kernel_rfl) (fun _ _ _ h => h) (Or.inr ⟨by rfl, rfl⟩) (by assumption) ?_
        simp only [Act.put, List.setIfInBounds_toArray, List.set_cons_zero, List.set_cons_succ]
        refine wpAnyH_take (i := 23) (oi := { dst := some 49, op := Op.move (Operand.tmp 1), type := 26, pos := "ref.go:157", after := #[{ on := 17, ground := Ground.guard }], guard := some (17, true) }) (v := undef) rfl (by kernel_rfl) (by kernel_rfl) (by kernel_rfl) (fun _ _ _ h => h) (Or.inr ⟨by rfl, rfl⟩) (by assumption) ?_
        simp only [Act.put, List.setIfInBounds_toArray, List.set_cons_zero, List.set_cons_succ]
        refine wpAnyH_take (i := 24) (oi := { dst := some 50, op := Op.move (Operand.tmp 8), type := 3, pos := "ref.go:157", after := #[{ on := 17, ground := Ground.guard }], guard := some (17, true) }) (v := undef) rfl (by kernel_rfl) (by kernel_rfl) (by kernel_rfl) (fun _ _ _ h => h) (Or.inr ⟨by rfl, rfl⟩) (by assumption) ?_
        simp only [Act.put, List.setIfInBounds_toArray, List.set_cons_zero, List.set_cons_succ]
        refine wpAnyH_take (i := 25) (oi := { dst := some 51, op := Op.binOp BinOp.sub 3 (Operand.tmp 50) (Operand.const (Value.int IntKind.i64 1)) 3, type := 3, pos := "ref.go:157", after := #[{ on := 24, ground := Ground.data }, { on := 17, ground := Ground.guard }], guard := some (17, true) }) (v := undef) rfl (by kernel_rfl) (by kernel_rfl) (by kernel_rfl) (fun _ _ _ h => h) (Or.inr ⟨by rfl, rfl⟩) (by assumption) ?_
        simp only [Act.put, List.setIfInBounds_toArray, List.set_cons_zero, List.set_cons_succ]
        refine wpAnyH_take (i := 26) (oi := { dst := some 52, op := Op.indexAddr 26 (Operand.tmp 49) (Operand.tmp 51), type := 0, pos := "ref.go:157", after := #[{ on := 23, ground := Ground.data }, { on := 25, ground := Ground.data }, { on := 17, ground := Ground.guard }], guard := some (17, true) }) (v := undef) rfl (by kernel_rfl) (by kernel_rfl) (by kernel_rfl) (fun _ _ _ h => h) (Or.inr ⟨by rfl, rfl⟩) (by assumption) ?_
        simp only [Act.put, List.setIfInBounds_toArray, List.set_cons_zero, List.set_cons_succ]
        refine wpAnyH_take (i := 27) (oi := { dst := some 53, op := Op.fieldAddr 76 (Operand.tmp 52) 0, type := 0, pos := "ref.go:157", after := #[{ on := 26, ground := Ground.data }, { on := 17, ground := Ground.guard }], guard := some (17, true) }) (v := undef) rfl (by kernel_rfl) (by kernel_rfl) (by kernel_rfl) (fun _ _ _ h => h) (Or.inr ⟨by rfl, rfl⟩) (by assumption) ?_
        simp only [Act.put, List.setIfInBounds_toArray, List.set_cons_zero, List.set_cons_succ]
        refine wpAnyH_take (i := 28) (oi := { dst := some 54, op := Op.load 3 (Operand.tmp 53), type := 3, pos := "ref.go:157", after := #[{ on := 27, ground := Ground.data }, { on := 17, ground := Ground.guard }], guard := some (17, true) }) (v := undef) rfl (by kernel_rfl) (by kernel_rfl) (by kernel_rfl) (fun _ _ _ h => h) (Or.inr ⟨by rfl, rfl⟩) (by assumption) ?_
        simp only [Act.put, List.setIfInBounds_toArray, List.set_cons_zero, List.set_cons_succ]
        refine wpAnyH_take (i := 29) (oi := { dst := some 55, op := Op.binOp BinOp.lss 3 (Operand.tmp 48) (Operand.tmp 54) 3, type := 4, pos := "ref.go:157", after := #[{ on := 22, ground := Ground.data }, { on := 28, ground := Ground.data }, { on := 17, ground := Ground.guard }], guard := some (17, true) }) (v := undef) rfl (by kernel_rfl) (by kernel_rfl) (by kernel_rfl) (fun _ _ _ h => h) (Or.inr ⟨by rfl, rfl⟩) (by assumption) ?_
        simp only [Act.put, List.setIfInBounds_toArray, List.set_cons_zero, List.set_cons_succ]
        refine wpAnyH_take (i := 30) (oi := { dst := some 56, op := Op.pick (Operand.tmp 43) (Operand.tmp 55) (Operand.const (Value.bool false)), type := 4, pos := "ref.go:157", after := #[{ on := 17, ground := Ground.data }, { on := 29, ground := Ground.data }, { on := 14, ground := Ground.guard }], guard := some (14, false) }) (v := ?_) rfl (by kernel_rfl) (by kernel_rfl) (by kernel_rfl) (fun _ _ _ h => h) (Or.inl ⟨by rfl, ?_⟩) (by assumption) ?_
        rotate_left
        · intro w hSw; (try dsimp only at hSw); go_simp <;> with_reducible rfl
        simp only [Act.put, List.setIfInBounds_toArray, List.set_cons_zero, List.set_cons_succ]
        refine wpAnyH_take (i := 31) (oi := { dst := some 57, op := Op.pick (Operand.tmp 40) (Operand.const (Value.bool true)) (Operand.tmp 56), type := 4, pos := "ref.go:157", after := #[{ on := 14, ground := Ground.data }, { on := 30, ground := Ground.data }], guard := none }) (v := ?_) rfl (by kernel_rfl) (by kernel_rfl) (by kernel_rfl) (fun _ _ _ h => h) (Or.inl ⟨by rfl, ?_⟩) (by assumption) ?_
        rotate_left
        · intro w hSw; (try dsimp only at hSw); go_simp <;> with_reducible rfl
        simp only [Act.put, List.setIfInBounds_toArray, List.set_cons_zero, List.set_cons_succ]
        refine wpAnyH_done (by kernel_rfl) ?_ _
        skip
        go_wp2
        exact ⟨⟨c + 1, by omega, by go_num, hT2, hp2, hBl.out.drew⟩, by simp [intOf]; omega⟩
      · obtain ⟨p, hp⟩ : ∃ p, c = p + 1 := ⟨c - 1, by omega⟩
        obtain ⟨e', hx'⟩ : ∃ x, L[p]? = some x := ⟨_, List.getElem?_eq_getElem (by omega)⟩
        obtain ⟨_, _, e1, b0, _⟩ := hC.out wr hbw.out p e' hx'
        cases e1
        have hA2 : Hid (∀ V, Below wr.heap.size wr V → V.cell? ⟨g1, f1 + c * 4, none⟩ = some (.int .i64 e.tick) ∧ V.cell? ⟨g1, f1 + p * 4, none⟩ = some (.int .i64 e'.tick)) := fun V hV => ⟨hA.out V hV, (hV.cell (cell_lt b0)).trans b0⟩
        have hl0 : lstT L c = e'.tick := by rw [hp]; exact lstT_next hx'
        have hcp : (0 : Int) < (c : Int) := by omega
        have hcp' : 0 < c := by omega
        have hsub : IntKind.i64.wrap ((c : Int) - 1) = (p : Int) := by first | (rw [IntKind.wrap_i64]; omega) | (show wrap64 _ = _; unfold wrap64; omega)
        have hcL : p < L.length := by omega
        by_cases h3 : e.tick < e'.tick
        · have hG := hide' (fun w' => hF.out true rfl (by omega) w')
          clear hC hT hpos hE1 hE2 hD2 hRS hx hx' hBl hbw hpos' hNo hYes hN hF hsz hsz2 hl0 h0 hp hA
          generalize e.tick = s0 at *
          generalize e'.tick = s1 at *
          go_upto_region 7 with fail
          refine wp_region_held_drew (S := (fun V => V.cell? ⟨g1, f1 + c * 4, none⟩ = some (.int .i64 s0) ∧ V.cell? ⟨g1, f1 + p * 4, none⟩ = some (.int .i64 s1))) (by kernel_rfl) ?_ (fun hHeld => ?_)
          · exact hA2.out _ hd.out
          refine wpAnyH_take (i := 0) (oi := { dst := some 26, op := Op.move (Operand.tmp 1), type := 26, pos := "ref.go:157", after := #[], guard := none }) (v := ?_) rfl (by kernel_rfl) (by kernel_rfl) (by kernel_rfl) (fun _ _ _ h => h) (Or.inl ⟨by rfl, ?_⟩) (by assumption) ?_
          rotate_left
          · intro w hSw; (try dsimp only at hSw); go_simp <;> with_reducible rfl
          simp only [Act.put, List.setIfInBounds_toArray, List.set_cons_zero, List.set_cons_succ]
          refine wpAnyH_take (i := 1) (oi := { dst := some 27, op := Op.move (Operand.tmp 8), type := 3, pos := "ref.go:157", after := #[], guard := none }) (v := ?_) rfl (by kernel_rfl) (by kernel_rfl) (by kernel_rfl) (fun _ _ _ h => h) (Or.inl ⟨by rfl, ?_⟩) (by assumption) ?_
          rotate_left
          · intro w hSw; (try dsimp only at hSw); go_simp <;> with_reducible rfl
          simp only [Act.put, List.setIfInBounds_toArray, List.set_cons_zero, List.set_cons_succ]
          refine wpAnyH_take (i := 2) (oi := { dst := some 28, op := Op.indexAddr 26 (Operand.tmp 26) (Operand.tmp 27), type := 0, pos := "ref.go:157", after := #[{ on := 0, ground := Ground.data }, { on := 1, ground := Ground.data }], guard := none }) (v := ?_) rfl (by kernel_rfl) (by kernel_rfl) (by kernel_rfl) (fun _ _ _ h => h) (Or.inl ⟨by rfl, ?_⟩) (by assumption) ?_
          rotate_left
          · intro w hSw; (try dsimp only at hSw); go_simp <;> with_reducible rfl
          simp only [Act.put, List.setIfInBounds_toArray, List.set_cons_zero, List.set_cons_succ]
          refine wpAnyH_take (i := 3) (oi := { dst := some 29, op := Op.fieldAddr 76 (Operand.tmp 28) 0, type := 0, pos := "ref.go:157", after := #[{ on := 2, ground := Ground.data }], guard := none }) (v := ?_) rfl (by kernel_rfl) (by kernel_rfl) (by kernel_rfl) (fun _ _ _ h => h) (Or.inl ⟨by rfl, ?_⟩) (by assumption) ?_
          rotate_left
          · intro w hSw; (try dsimp only at hSw); go_simp <;> with_reducible rfl
          simp only [Act.put, List.setIfInBounds_toArray, List.set_cons_zero, List.set_cons_succ]
          refine wpAnyH_take (i := 4) (oi := { dst := some 30, op := Op.load 3 (Operand.tmp 29), type := 3, pos := "ref.go:157", after := #[{ on := 3, ground := Ground.data }], guard := none }) (v := ?_) rfl (by kernel_rfl) (by kernel_rfl) (by kernel_rfl) (fun _ _ _ h => h) (Or.inl ⟨by rfl, ?_⟩) (by assumption) ?_
          rotate_left
          · intro w hSw; (try dsimp only at hSw); go_simp <;> with_reducible rfl
          simp only [Act.put, List.setIfInBounds_toArray, List.set_cons_zero, List.set_cons_succ]
          refine wpAnyH_take (i := 5) (oi := { dst := some 31, op := Op.binOp BinOp.lss 3 (Operand.tmp 30) (Operand.const (Value.int IntKind.i64 0)) 3, type := 4, pos := "ref.go:157", after := #[{ on := 4, ground := Ground.data }], guard := none }) (v := ?_) rfl (by kernel_rfl) (by kernel_rfl) (by kernel_rfl) (fun _ _ _ h => h) (Or.inl ⟨by rfl, ?_⟩) (by assumption) ?_
          rotate_left
          · intro w hSw; (try dsimp only at hSw); go_simp <;> with_reducible rfl
          simp only [Act.put, List.setIfInBounds_toArray, List.set_cons_zero, List.set_cons_succ]
          refine wpAnyH_take (i := 6) (oi := { dst := some 32, op := Op.move (Operand.tmp 31), type := 4, pos := "ref.go:157", after := #[{ on := 5, ground := Ground.data }], guard := none }) (v := ?_) rfl (by kernel_rfl) (by kernel_rfl) (by kernel_rfl) (fun _ _ _ h => h) (Or.inl ⟨by rfl, ?_⟩) (by assumption) ?_
          rotate_left
          · intro w hSw; (try dsimp only at hSw); go_simp <;> with_reducible rfl
          simp only [Act.put, List.setIfInBounds_toArray, List.set_cons_zero, List.set_cons_succ]
          refine wpAnyH_take (i := 7) (oi := { dst := some 33, op := Op.move (Operand.tmp 1), type := 26, pos := "ref.go:157", after := #[{ on := 6, ground := Ground.guard }], guard := some (6, false) }) (v := ?_) rfl (by kernel_rfl) (by kernel_rfl) (by kernel_rfl) (fun _ _ _ h => h) (Or.inl ⟨by rfl, ?_⟩) (by assumption) ?_
          rotate_left
          · intro w hSw; (try dsimp only at hSw); go_simp <;> with_reducible rfl
          simp only [Act.put, List.setIfInBounds_toArray, List.set_cons_zero, List.set_cons_succ]
          refine wpAnyH_take (i := 8) (oi := { dst := some 34, op := Op.move (Operand.tmp 8), type := 3, pos := "ref.go:157", after := #[{ on := 6, ground := Ground.guard }], guard := some (6, false) }) (v := ?_) rfl (by kernel_rfl) (by kernel_rfl) (by kernel_rfl) (fun _ _ _ h => h) (Or.inl ⟨by rfl, ?_⟩) (by assumption) ?_
          rotate_left
          · intro w hSw; (try dsimp only at hSw); go_simp <;> with_reducible rfl
          simp only [Act.put, List.setIfInBounds_toArray, List.set_cons_zero, List.set_cons_succ]
          refine wpAnyH_take (i := 9) (oi := { dst := some 35, op := Op.indexAddr 26 (Operand.tmp 33) (Operand.tmp 34), type := 0, pos := "ref.go:157", after := #[{ on := 7, ground := Ground.data }, { on := 8, ground := Ground.data }, { on := 6, ground := Ground.guard }], guard := some (6, false) }) (v := ?_) rfl (by kernel_rfl) (by kernel_rfl) (by kernel_rfl) (fun _ _ _ h => h) (Or.inl ⟨by rfl, ?_⟩) (by assumption) ?_
          rotate_left
          · intro w hSw; (try dsimp only at hSw); go_simp <;> with_reducible rfl
          simp only [Act.put, List.setIfInBounds_toArray, List.set_cons_zero, List.set_cons_succ]
          refine wpAnyH_take (i := 10) (oi := { dst := some 36, op := Op.fieldAddr 76 (Operand.tmp 35) 0, type := 0, pos := "ref.go:157", after := #[{ on := 9, ground := Ground.data }, { on := 6, ground := Ground.guard }], guard := some (6, false) }) (v := ?_) rfl (by kernel_rfl) (by kernel_rfl) (by kernel_rfl) (fun _ _ _ h => h) (Or.inl ⟨by rfl, ?_⟩) (by assumption) ?_
          rotate_left
          · intro w hSw; (try dsimp only at hSw); go_simp <;> with_reducible rfl
          simp only [Act.put, List.setIfInBounds_toArray, List.set_cons_zero, List.set_cons_succ]
          refine wpAnyH_take (i := 11) (oi := { dst := some 37, op := Op.load 3 (Operand.tmp 36), type := 3, pos := "ref.go:157", after := #[{ on := 10, ground := Ground.data }, { on := 6, ground := Ground.guard }], guard := some (6, false) }) (v := ?_) rfl (by kernel_rfl) (by kernel_rfl) (by kernel_rfl) (fun _ _ _ h => h) (Or.inl ⟨by rfl, ?_⟩) (by assumption) ?_
          rotate_left
          · intro w hSw; (try dsimp only at hSw); go_simp <;> with_reducible rfl
          simp only [Act.put, List.setIfInBounds_toArray, List.set_cons_zero, List.set_cons_succ]
          refine wpAnyH_take (i := 12) (oi := { dst := some 38, op := Op.binOp BinOp.gtr 3 (Operand.tmp 37) (Operand.const (Value.int IntKind.i64 999999999)) 3, type := 4, pos := "ref.go:157", after := #[{ on := 11, ground := Ground.data }, { on := 6, ground := Ground.guard }], guard := some (6, false) }) (v := ?_) rfl (by kernel_rfl) (by kernel_rfl) (by kernel_rfl) (fun _ _ _ h => h) (Or.inl ⟨by rfl, ?_⟩) (by assumption) ?_
          rotate_left
          · intro w hSw; (try dsimp only at hSw); go_simp <;> with_reducible rfl
          simp only [Act.put, List.setIfInBounds_toArray, List.set_cons_zero, List.set_cons_succ]
          refine wpAnyH_take (i := 13) (oi := { dst := some 39, op := Op.pick (Operand.tmp 32) (Operand.const (Value.bool true)) (Operand.tmp 38), type := 4, pos := "ref.go:157", after := #[{ on := 6, ground := Ground.data }, { on := 12, ground := Ground.data }], guard := none }) (v := ?_) rfl (by kernel_rfl) (by kernel_rfl) (by kernel_rfl) (fun _ _ _ h => h) (Or.inl ⟨by rfl, ?_⟩) (by assumption) ?_
          rotate_left
          · intro w hSw; (try dsimp only at hSw); go_simp <;> with_reducible rfl
          simp only [Act.put, List.setIfInBounds_toArray, List.set_cons_zero, List.set_cons_succ]
          refine wpAnyH_take (i := 14) (oi := { dst := some 40, op := Op.move (Operand.tmp 39), type := 4, pos := "ref.go:157", after := #[{ on := 13, ground := Ground.data }, { on := 6, ground := Ground.chain }], guard := none }) (v := ?_) rfl (by kernel_rfl) (by kernel_rfl) (by kernel_rfl) (fun _ _ _ h => h) (Or.inl ⟨by rfl, ?_⟩) (by assumption) ?_
          rotate_left
          · intro w hSw; (try dsimp only at hSw); go_simp <;> with_reducible rfl
          simp only [Act.put, List.setIfInBounds_toArray, List.set_cons_zero, List.set_cons_succ]
          refine wpAnyH_take (i := 15) (oi := { dst := some 41, op := Op.move (Operand.tmp 8), type := 3, pos := "ref.go:157", after := #[{ on := 14, ground := Ground.guard }], guard := some (14, false) }) (v := ?_) rfl (by kernel_rfl) (by kernel_rfl) (by kernel_rfl) (fun _ _ _ h => h) (Or.inl ⟨by rfl, ?_⟩) (by assumption) ?_
          rotate_left
          · intro w hSw; (try dsimp only at hSw); go_simp <;> with_reducible rfl
          simp only [Act.put, List.setIfInBounds_toArray, List.set_cons_zero, List.set_cons_succ]
          refine wpAnyH_take (i := 16) (oi := { dst := some 42, op := Op.binOp BinOp.gtr 3 (Operand.tmp 41) (Operand.const (Value.int IntKind.i64 0)) 3, type := 4, pos := "ref.go:157", after := #[{ on := 15, ground := Ground.data }, { on := 14, ground := Ground.guard }], guard := some (14, false) }) (v := ?_) rfl (by kernel_rfl) (by kernel_rfl) (by kernel_rfl) (fun _ _ _ h => h) (Or.inl ⟨by rfl, ?_⟩) (by assumption) ?_
          rotate_left
          · intro w hSw; (try dsimp only at hSw); go_simp <;> with_reducible rfl
          simp only [Act.put, List.setIfInBounds_toArray, List.set_cons_zero, List.set_cons_succ]
          refine wpAnyH_take (i := 17) (oi := { dst := some 43, op := Op.move (Operand.tmp 42), type := 4, pos := "ref.go:157", after := #[{ on := 16, ground := Ground.data }, { on := 14, ground := Ground.chain }, { on := 14, ground := Ground.guard }], guard := some (14, false) }) (v := ?_) rfl (by kernel_rfl) (by kernel_rfl) (by kernel_rfl) (fun _ _ _ h => h) (Or.inl ⟨by rfl, ?_⟩) (by assumption) ?_
          rotate_left
          · intro w hSw; (try dsimp only at hSw); go_simp <;> with_reducible rfl
          simp only [Act.put, List.setIfInBounds_toArray, List.set_cons_zero, List.set_cons_succ]
          refine wpAnyH_take (i := 18) (oi := { dst := some 44, op := Op.move (Operand.tmp 1), type := 26, pos := "ref.go:157", after := #[{ on := 17, ground := Ground.guard }], guard := some (17, true) }) (v := ?_) rfl (by kernel_rfl) (by kernel_rfl) (by kernel_rfl) (fun _ _ _ h => h) (Or.inl ⟨by rfl, ?_⟩) (by assumption) ?_
          rotate_left
          · intro w hSw; (try dsimp only at hSw); go_simp <;> with_reducible rfl
          simp only [Act.put, List.setIfInBounds_toArray, List.set_cons_zero, List.set_cons_succ]
          refine wpAnyH_take (i := 19) (oi := { dst := some 45, op := Op.move (Operand.tmp 8), type := 3, pos := "ref.go:157", after := #[{ on := 17, ground := Ground.guard }], guard := some (17, true) }) (v := ?_) rfl (by kernel_rfl) (by kernel_rfl) (by kernel_rfl) (fun _ _ _ h => h) (Or.inl ⟨by rfl, ?_⟩) (by assumption) ?_
          rotate_left
          · intro w hSw; (try dsimp only at hSw); go_simp <;> with_reducible rfl
          simp only [Act.put, List.setIfInBounds_toArray, List.set_cons_zero, List.set_cons_succ]
          refine wpAnyH_take (i := 20) (oi := { dst := some 46, op := Op.indexAddr 26 (Operand.tmp 44) (Operand.tmp 45), type := 0, pos := "ref.go:157", after := #[{ on := 18, ground := Ground.data }, { on := 19, ground := Ground.data }, { on := 17, ground := Ground.guard }], guard := some (17, true) }) (v := ?_) rfl (by kernel_rfl) (by kernel_rfl) (by kernel_rfl) (fun _ _ _ h => h) (Or.inl ⟨by rfl, ?_⟩) (by assumption) ?_
          rotate_left
          · intro w hSw; (try dsimp only at hSw); go_simp <;> with_reducible rfl
          simp only [Act.put, List.setIfInBounds_toArray, List.set_cons_zero, List.set_cons_succ]
          refine wpAnyH_take (i := 21) (oi := { dst := some 47, op := Op.fieldAddr 76 (Operand.tmp 46) 0, type := 0, pos := "ref.go:157", after := #[{ on := 20, ground := Ground.data }, { on := 17, ground := Ground.guard }], guard := some (17, true) }) (v := ?_) rfl (by kernel_rfl) (by kernel_rfl) (by kernel_rfl) (fun _ _ _ h => h) (Or.inl ⟨by rfl, ?_⟩) (by assumption) ?_
          rotate_left
          · intro w hSw; (try dsimp only at hSw); go_simp <;> with_reducible rfl
          simp only [Act.put, List.setIfInBounds_toArray, List.set_cons_zero, List.set_cons_succ]
          refine wpAnyH_take (i := 22) (oi := { dst := some 48, op := Op.load 3 (Operand.tmp 47), type := 3, pos := "ref.go:157", after := #[{ on := 21, ground := Ground.data }, { on := 17, ground := Ground.guard }], guard := some (17, true) }) (v := ?_) rfl (by kernel_rfl) (by kernel_rfl) (by kernel_rfl) (fun _ _ _ h => h) (Or.inl ⟨by rfl, ?_⟩) (by assumption) ?_
          rotate_left
          · intro w hSw; (try dsimp only at hSw); go_simp <;> with_reducible rfl
          simp only [Act.put, List.setIfInBounds_toArray, List.set_cons_zero, List.set_cons_succ]
          refine wpAnyH_take (i := 23) (oi := { dst := some 49, op := Op.move (Operand.tmp 1), type := 26, pos := "ref.go:157", after := #[{ on := 17, ground := Ground.guard }], guard := some (17, true) }) (v := ?_) rfl (by kernel_rfl) (by kernel_rfl) (by kernel_rfl) (fun _ _ _ h => h) (Or.inl ⟨by rfl, ?_⟩) (by assumption) ?_
          rotate_left
          · intro w hSw; (try dsimp only at hSw); go_simp <;> with_reducible rfl
          simp only [Act.put, List.setIfInBounds_toArray, List.set_cons_zero, List.set_cons_succ]
          refine wpAnyH_take (i := 24) (oi := { dst := some 50, op := Op.move (Operand.tmp 8), type := 3, pos := "ref.go:157", after := #[{ on := 17, ground := Ground.guard }], guard := some (17, true) }) (v := ?_) rfl (by kernel_rfl) (by kernel_rfl) (by kernel_rfl) (fun _ _ _ h => h) (Or.inl ⟨by rfl, ?_⟩) (by assumption) ?_
          rotate_left
          · intro w hSw; (try dsimp only at hSw); go_simp <;> with_reducible rfl
          simp only [Act.put, List.setIfInBounds_toArray, List.set_cons_zero, List.set_cons_succ]
          refine wpAnyH_take (i := 25) (oi := { dst := some 51, op := Op.binOp BinOp.sub 3 (Operand.tmp 50) (Operand.const (Value.int IntKind.i64 1)) 3, type := 3, pos := "ref.go:157", after := #[{ on := 24, ground := Ground.data }, { on := 17, ground := Ground.guard }], guard := some (17, true) }) (v := .int .i64 (p : Int)) rfl (by kernel_rfl) (by kernel_rfl) (by kernel_rfl) (fun _ _ _ h => h) (Or.inl ⟨by rfl, ?_⟩) (by assumption) ?_
          · intro w hSw; (try dsimp only at hSw); go_simp <;> (first | with_reducible rfl | exact hsub | (rw [hsub]; done) | (rw [hsub]; with_reducible rfl))
          simp only [Act.put, List.setIfInBounds_toArray, List.set_cons_zero, List.set_cons_succ]
          refine wpAnyH_take (i := 26) (oi := { dst := some 52, op := Op.indexAddr 26 (Operand.tmp 49) (Operand.tmp 51), type := 0, pos := "ref.go:157", after := #[{ on := 23, ground := Ground.data }, { on := 25, ground := Ground.data }, { on := 17, ground := Ground.guard }], guard := some (17, true) }) (v := ?_) rfl (by kernel_rfl) (by kernel_rfl) (by kernel_rfl) (fun _ _ _ h => h) (Or.inl ⟨by rfl, ?_⟩) (by assumption) ?_
          rotate_left
          · intro w hSw; (try dsimp only at hSw); go_simp <;> with_reducible rfl
          simp only [Act.put, List.setIfInBounds_toArray, List.set_cons_zero, List.set_cons_succ]
          refine wpAnyH_take (i := 27) (oi := { dst := some 53, op := Op.fieldAddr 76 (Operand.tmp 52) 0, type := 0, pos := "ref.go:157", after := #[{ on := 26, ground := Ground.data }, { on := 17, ground := Ground.guard }], guard := some (17, true) }) (v := ?_) rfl (by kernel_rfl) (by kernel_rfl) (by kernel_rfl) (fun _ _ _ h => h) (Or.inl ⟨by rfl, ?_⟩) (by assumption) ?_
          rotate_left
          · intro w hSw; (try dsimp only at hSw); go_simp <;> with_reducible rfl
          simp only [Act.put, List.setIfInBounds_toArray, List.set_cons_zero, List.set_cons_succ]
          refine wpAnyH_take (i := 28) (oi := { dst := some 54, op := Op.load 3 (Operand.tmp 53), type := 3, pos := "ref.go:157", after := #[{ on := 27, ground := Ground.data }, { on := 17, ground := Ground.guard }], guard := some (17, true) }) (v := ?_) rfl (by kernel_rfl) (by kernel_rfl) (by kernel_rfl) (fun _ _ _ h => h) (Or.inl ⟨by rfl, ?_⟩) (by assumption) ?_
          rotate_left
          · intro w hSw; (try dsimp only at hSw); go_simp <;> with_reducible rfl
          simp only [Act.put, List.setIfInBounds_toArray, List.set_cons_zero, List.set_cons_succ]
          refine wpAnyH_take (i := 29) (oi := { dst := some 55, op := Op.binOp BinOp.lss 3 (Operand.tmp 48) (Operand.tmp 54) 3, type := 4, pos := "ref.go:157", after := #[{ on := 22, ground := Ground.data }, { on := 28, ground := Ground.data }, { on := 17, ground := Ground.guard }], guard := some (17, true) }) (v := ?_) rfl (by kernel_rfl) (by kernel_rfl) (by kernel_rfl) (fun _ _ _ h => h) (Or.inl ⟨by rfl, ?_⟩) (by assumption) ?_
          rotate_left
          · intro w hSw; (try dsimp only at hSw); go_simp <;> with_reducible rfl
          simp only [Act.put, List.setIfInBounds_toArray, List.set_cons_zero, List.set_cons_succ]
          refine wpAnyH_take (i := 30) (oi := { dst := some 56, op := Op.pick (Operand.tmp 43) (Operand.tmp 55) (Operand.const (Value.bool false)), type := 4, pos := "ref.go:157", after := #[{ on := 17, ground := Ground.data }, { on := 29, ground := Ground.data }, { on := 14, ground := Ground.guard }], guard := some (14, false) }) (v := ?_) rfl (by kernel_rfl) (by kernel_rfl) (by kernel_rfl) (fun _ _ _ h => h) (Or.inl ⟨by rfl, ?_⟩) (by assumption) ?_
          rotate_left
          · intro w hSw; (try dsimp only at hSw); go_simp <;> with_reducible rfl
          simp only [Act.put, List.setIfInBounds_toArray, List.set_cons_zero, List.set_cons_succ]
          refine wpAnyH_take (i := 31) (oi := { dst := some 57, op := Op.pick (Operand.tmp 40) (Operand.const (Value.bool true)) (Operand.tmp 56), type := 4, pos := "ref.go:157", after := #[{ on := 14, ground := Ground.data }, { on := 30, ground := Ground.data }], guard := none }) (v := ?_) rfl (by kernel_rfl) (by kernel_rfl) (by kernel_rfl) (fun _ _ _ h => h) (Or.inl ⟨by rfl, ?_⟩) (by assumption) ?_
          rotate_left
          · intro w hSw; (try dsimp only at hSw); go_simp <;> with_reducible rfl
          simp only [Act.put, List.setIfInBounds_toArray, List.set_cons_zero, List.set_cons_succ]
          refine wpAnyH_done (by kernel_rfl) ?_ _
          skip
          go_wp2
          exact hG.out _ hd.out
        · have hT2 := hide' (hYes.out (by omega) (by omega))
          have hp2 : Hid (0 ≤ lstT L (c + 1)) := by show _ ≤ _; rw [hN.out]; omega
          clear hC hT hpos hE1 hE2 hD2 hRS hx hx' hbw hpos' hNo hYes hN hF hsz hl0 h0 hp hA
          generalize e.tick = s0 at *
          generalize e'.tick = s1 at *
          go_upto_region 7 with fail
          refine wp_region_held_drew (S := (fun V => V.cell? ⟨g1, f1 + c * 4, none⟩ = some (.int .i64 s0) ∧ V.cell? ⟨g1, f1 + p * 4, none⟩ = some (.int .i64 s1))) (by kernel_rfl) ?_ (fun hHeld => ?_)
          · exact hA2.out _ hd.out
          refine wpAnyH_take (i := 0) (oi := { dst := some 26, op := Op.move (Operand.tmp 1), type := 26, pos := "ref.go:157", after := #[], guard := none }) (v := ?_) rfl (by kernel_rfl) (by kernel_rfl) (by kernel_rfl) (fun _ _ _ h => h) (Or.inl ⟨by rfl, ?_⟩) (by assumption) ?_
          rotate_left
          · intro w hSw; (try dsimp only at hSw); go_simp <;> with_reducible rfl
          simp only [Act.put, List.setIfInBounds_toArray, List.set_cons_zero, List.set_cons_succ]
          refine wpAnyH_take (i := 1) (oi := { dst := some 27, op := Op.move (Operand.tmp 8), type := 3, pos := "ref.go:157", after := #[], guard := none }) (v := ?_) rfl (by kernel_rfl) (by kernel_rfl) (by kernel_rfl) (fun _ _ _ h => h) (Or.inl ⟨by rfl, ?_⟩) (by assumption) ?_
          rotate_left
          · intro w hSw; (try dsimp only at hSw); go_simp <;> with_reducible rfl
          simp only [Act.put, List.setIfInBounds_toArray, List.set_cons_zero, List.set_cons_succ]
          refine wpAnyH_take (i := 2) (oi := { dst := some 28, op := Op.indexAddr 26 (Operand.tmp 26) (Operand.tmp 27), type := 0, pos := "ref.go:157", after := #[{ on := 0, ground := Ground.data }, { on := 1, ground := Ground.data }], guard := none }) (v := ?_) rfl (by kernel_rfl) (by kernel_rfl) (by kernel_rfl) (fun _ _ _ h => h) (Or.inl ⟨by rfl, ?_⟩) (by assumption) ?_
          rotate_left
          · intro w hSw; (try dsimp only at hSw); go_simp <;> with_reducible rfl
          simp only [Act.put, List.setIfInBounds_toArray, List.set_cons_zero, List.set_cons_succ]
          refine wpAnyH_take (i := 3) (oi := { dst := some 29, op := Op.fieldAddr 76 (Operand.tmp 28) 0, type := 0, pos := "ref.go:157", after := #[{ on := 2, ground := Ground.data }], guard := none }) (v := ?_) rfl (by kernel_rfl) (by kernel_rfl) (by kernel_rfl) (fun _ _ _ h => h) (Or.inl ⟨by rfl, ?_⟩) (by assumption) ?_
          rotate_left
          · intro w hSw; (try dsimp only at hSw); go_simp <;> with_reducible rfl
          simp only [Act.put, List.setIfInBounds_toArray, List.set_cons_zero, List.set_cons_succ]
          refine wpAnyH_take (i := 4) (oi := { dst := some 30, op := Op.load 3 (Operand.tmp 29), type := 3, pos := "ref.go:157", after := #[{ on := 3, ground := Ground.data }], guard := none }) (v := ?_) rfl (by kernel_rfl) (by kernel_rfl) (by kernel_rfl) (fun _ _ _ h => h) (Or.inl ⟨by rfl, ?_⟩) (by assumption) ?_
          rotate_left
          · intro w hSw; (try dsimp only at hSw); go_simp <;> with_reducible rfl
          simp only [Act.put, List.setIfInBounds_toArray, List.set_cons_zero, List.set_cons_succ]
          refine wpAnyH_take (i := 5) (oi := { dst := some 31, op := Op.binOp BinOp.lss 3 (Operand.tmp 30) (Operand.const (Value.int IntKind.i64 0)) 3, type := 4, pos := "ref.go:157", after := #[{ on := 4, ground := Ground.data }], guard := none }) (v := ?_) rfl (by kernel_rfl) (by kernel_rfl) (by kernel_rfl) (fun _ _ _ h => h) (Or.inl ⟨by rfl, ?_⟩) (by assumption) ?_
          rotate_left
          · intro w hSw; (try dsimp only at hSw); go_simp <;> with_reducible rfl
          simp only [Act.put, List.setIfInBounds_toArray, List.set_cons_zero, List.set_cons_succ]
          refine wpAnyH_take (i := 6) (oi := { dst := some 32, op := Op.move (Operand.tmp 31), type := 4, pos := "ref.go:157", after := #[{ on := 5, ground := Ground.data }], guard := none }) (v := ?_) rfl (by kernel_rfl) (by kernel_rfl) (by kernel_rfl) (fun _ _ _ h => h) (Or.inl ⟨by rfl, ?_⟩) (by assumption) ?_
          rotate_left
          · intro w hSw; (try dsimp only at hSw); go_simp <;> with_reducible rfl
          simp only [Act.put, List.setIfInBounds_toArray, List.set_cons_zero, List.set_cons_succ]
          refine wpAnyH_take (i := 7) (oi := { dst := some 33, op := Op.move (Operand.tmp 1), type := 26, pos := "ref.go:157", after := #[{ on := 6, ground := Ground.guard }], guard := some (6, false) }) (v := ?_) rfl (by kernel_rfl) (by kernel_rfl) (by kernel_rfl) (fun _ _ _ h => h) (Or.inl ⟨by rfl, ?_⟩) (by assumption) ?_
          rotate_left
          · intro w hSw; (try dsimp only at hSw); go_simp <;> with_reducible rfl
          simp only [Act.put, List.setIfInBounds_toArray, List.set_cons_zero, List.set_cons_succ]
          refine wpAnyH_take (i := 8) (oi := { dst := some 34, op := Op.move (Operand.tmp 8), type := 3, pos := "ref.go:157", after := #[{ on := 6, ground := Ground.guard }], guard := some (6, false) }) (v := ?_) rfl (by kernel_rfl) (by kernel_rfl) (by kernel_rfl) (fun _ _ _ h => h) (Or.inl ⟨by rfl, ?_⟩) (by assumption) ?_
          rotate_left
          · intro w hSw; (try dsimp only at hSw); go_simp <;> with_reducible rfl
          simp only [Act.put, List.setIfInBounds_toArray, List.set_cons_zero, List.set_cons_succ]
          refine wpAnyH_take (i := 9) (oi := { dst := some 35, op := Op.indexAddr 26 (Operand.tmp 33) (Operand.tmp 34), type := 0, pos := "ref.go:157", after := #[{ on := 7, ground := Ground.data }, { on := 8, ground := Ground.data }, { on := 6, ground := Ground.guard }], guard := some (6, false) }) (v := ?_) rfl (by kernel_rfl) (by kernel_rfl) (by kernel_rfl) (fun _ _ _ h => h) (Or.inl ⟨by rfl, ?_⟩) (by assumption) ?_
          rotate_left
          · intro w hSw; (try dsimp only at hSw); go_simp <;> with_reducible rfl
          simp only [Act.put, List.setIfInBounds_toArray, List.set_cons_zero, List.set_cons_succ]
          refine wpAnyH_take (i := 10) (oi := { dst := some 36, op := Op.fieldAddr 76 (Operand.tmp 35) 0, type := 0, pos := "ref.go:157", after := #[{ on := 9, ground := Ground.data }, { on := 6, ground := Ground.guard }], guard := some (6, false) }) (v := ?_) rfl (by kernel_rfl) (by kernel_rfl) (by kernel_rfl) (fun _ _ _ h => h) (Or.inl ⟨by rfl, ?_⟩) (by assumption) ?_
          rotate_left
          · intro w hSw; (try dsimp only at hSw); go_simp <;> with_reducible rfl
          simp only [Act.put, List.setIfInBounds_toArray, List.set_cons_zero, List.set_cons_succ]
          refine wpAnyH_take (i := 11) (oi := { dst := some 37, op := Op.load 3 (Operand.tmp 36), type := 3, pos := "ref.go:157", after := #[{ on := 10, ground := Ground.data }, { on := 6, ground := Ground.guard }], guard := some (6, false) }) (v := ?_) rfl (by kernel_rfl) (by kernel_rfl) (by kernel_rfl) (fun _ _ _ h => h) (Or.inl ⟨by rfl, ?_⟩) (by assumption) ?_
          rotate_left
          · intro w hSw; (try dsimp only at hSw); go_simp <;> with_reducible rfl
          simp only [Act.put, List.setIfInBounds_toArray, List.set_cons_zero, List.set_cons_succ]
          refine wpAnyH_take (i := 12) (oi := { dst := some 38, op := Op.binOp BinOp.gtr 3 (Operand.tmp 37) (Operand.const (Value.int IntKind.i64 999999999)) 3, type := 4, pos := "ref.go:157", after := #[{ on := 11, ground := Ground.data }, { on := 6, ground := Ground.guard }], guard := some (6, false) }) (v := ?_) rfl (by kernel_rfl) (by kernel_rfl) (by kernel_rfl) (fun _ _ _ h => h) (Or.inl ⟨by rfl, ?_⟩) (by assumption) ?_
          rotate_left
          · intro w hSw; (try dsimp only at hSw); go_simp <;> with_reducible rfl
          simp only [Act.put, List.setIfInBounds_toArray, List.set_cons_zero, List.set_cons_succ]
          refine wpAnyH_take (i := 13) (oi := { dst := some 39, op := Op.pick (Operand.tmp 32) (Operand.const (Value.bool true)) (Operand.tmp 38), type := 4, pos := "ref.go:157", after := #[{ on := 6, ground := Ground.data }, { on := 12, ground := Ground.data }], guard := none }) (v := ?_) rfl (by kernel_rfl) (by kernel_rfl) (by kernel_rfl) (fun _ _ _ h => h) (Or.inl ⟨by rfl, ?_⟩) (by assumption) ?_
          rotate_left
          · intro w hSw; (try dsimp only at hSw); go_simp <;> with_reducible rfl
          simp only [Act.put, List.setIfInBounds_toArray, List.set_cons_zero, List.set_cons_succ]
          refine wpAnyH_take (i := 14) (oi := { dst := some 40, op := Op.move (Operand.tmp 39), type := 4, pos := "ref.go:157", after := #[{ on := 13, ground := Ground.data }, { on := 6, ground := Ground.chain }], guard := none }) (v := ?_) rfl (by kernel_rfl) (by kernel_rfl) (by kernel_rfl) (fun _ _ _ h => h) (Or.inl ⟨by rfl, ?_⟩) (by assumption) ?_
          rotate_left
          · intro w hSw; (try dsimp only at hSw); go_simp <;> with_reducible rfl
          simp only [Act.put, List.setIfInBounds_toArray, List.set_cons_zero, List.set_cons_succ]
          refine wpAnyH_take (i := 15) (oi := { dst := some 41, op := Op.move (Operand.tmp 8), type := 3, pos := "ref.go:157", after := #[{ on := 14, ground := Ground.guard }], guard := some (14, false) }) (v := ?_) rfl (by kernel_rfl) (by kernel_rfl) (by kernel_rfl) (fun _ _ _ h => h) (Or.inl ⟨by rfl, ?_⟩) (by assumption) ?_
          rotate_left
          · intro w hSw; (try dsimp only at hSw); go_simp <;> with_reducible rfl
          simp only [Act.put, List.setIfInBounds_toArray, List.set_cons_zero, List.set_cons_succ]
          refine wpAnyH_take (i := 16) (oi := { dst := some 42, op := Op.binOp BinOp.gtr 3 (Operand.tmp 41) (Operand.const (Value.int IntKind.i64 0)) 3, type := 4, pos := "ref.go:157", after := #[{ on := 15, ground := Ground.data }, { on := 14, ground := Ground.guard }], guard := some (14, false) }) (v := ?_) rfl (by kernel_rfl) (by kernel_rfl) (by kernel_rfl) (fun _ _ _ h => h) (Or.inl ⟨by rfl, ?_⟩) (by assumption) ?_
          rotate_left
          · intro w hSw; (try dsimp only at hSw); go_simp <;> with_reducible rfl
          simp only [Act.put, List.setIfInBounds_toArray, List.set_cons_zero, List.set_cons_succ]
          refine wpAnyH_take (i := 17) (oi := { dst := some 43, op := Op.move (Operand.tmp 42), type := 4, pos := "ref.go:157", after := #[{ on := 16, ground := Ground.data }, { on := 14, ground := Ground.chain }, { on := 14, ground := Ground.guard }], guard := some (14, false) }) (v := ?_) rfl (by kernel_rfl) (by kernel_rfl) (by kernel_rfl) (fun _ _ _ h => h) (Or.inl ⟨by rfl, ?_⟩) (by assumption) ?_
          rotate_left
          · intro w hSw; (try dsimp only at hSw); go_simp <;> with_reducible rfl
          simp only [Act.put, List.setIfInBounds_toArray, List.set_cons_zero, List.set_cons_succ]
          refine wpAnyH_take (i := 18) (oi := { dst := some 44, op := Op.move (Operand.tmp 1), type := 26, pos := "ref.go:157", after := #[{ on := 17, ground := Ground.guard }], guard := some (17, true) }) (v := ?_) rfl (by kernel_rfl) (by kernel_rfl) (by kernel_rfl) (fun _ _ _ h => h) (Or.inl ⟨by rfl, ?_⟩) (by assumption) ?_
          rotate_left
          · intro w hSw; (try dsimp only at hSw); go_simp <;> with_reducible rfl
          simp only [Act.put, List.setIfInBounds_toArray, List.set_cons_zero, List.set_cons_succ]
          refine wpAnyH_take (i := 19) (oi := { dst := some 45, op := Op.move (Operand.tmp 8), type := 3, pos := "ref.go:157", after := #[{ on := 17, ground := Ground.guard }], guard := some (17, true) }) (v := ?_) rfl (by kernel_rfl) (by kernel_rfl) (by kernel_rfl) (fun _ _ _ h => h) (Or.inl ⟨by rfl, ?_⟩) (by assumption) ?_
          rotate_left
          · intro w hSw; (try dsimp only at hSw); go_simp <;> with_reducible rfl
          simp only [Act.put, List.setIfInBounds_toArray, List.set_cons_zero, List.set_cons_succ]
          refine wpAnyH_take (i := 20) (oi := { dst := some 46, op := Op.indexAddr 26 (Operand.tmp 44) (Operand.tmp 45), type := 0, pos := "ref.go:157", after := #[{ on := 18, ground := Ground.data }, { on := 19, ground := Ground.data }, { on := 17, ground := Ground.guard }], guard := some (17, true) }) (v := ?_) rfl (by kernel_rfl) (by kernel_rfl) (by kernel_rfl) (fun _ _ _ h => h) (Or.inl ⟨by rfl, ?_⟩) (by assumption) ?_
          rotate_left
          · intro w hSw; (try dsimp only at hSw); go_simp <;> with_reducible rfl
          simp only [Act.put, List.setIfInBounds_toArray, List.set_cons_zero, List.set_cons_succ]
          refine wpAnyH_take (i := 21) (oi := { dst := some 47, op := Op.fieldAddr 76 (Operand.tmp 46) 0, type := 0, pos := "ref.go:157", after := #[{ on := 20, ground := Ground.data }, { on := 17, ground := Ground.guard }], guard := some (17, true) }) (v := ?_) rfl (by kernel_rfl) (by kernel_rfl) (by kernel_rfl) (fun _ _ _ h => h) (Or.inl ⟨by rfl, ?_⟩) (by assumption) ?_
          rotate_left
          · intro w hSw; (try dsimp only at hSw); go_simp <;> with_reducible rfl
          simp only [Act.put, List.setIfInBounds_toArray, List.set_cons_zero, List.set_cons_succ]
          refine wpAnyH_take (i := 22) (oi := { dst := some 48, op := Op.load 3 (Operand.tmp 47), type := 3, pos := "ref.go:157", after := #[{ on := 21, ground := Ground.data }, { on := 17, ground := Ground.guard }], guard := some (17, true) }) (v := ?_) rfl (by kernel_rfl) (by kernel_rfl) (by kernel_rfl) (fun _ _ _ h => h) (Or.inl ⟨by rfl, ?_⟩) (by assumption) ?_
          rotate_left
          · intro w hSw; (try dsimp only at hSw); go_simp <;> with_reducible rfl
          simp only [Act.put, List.setIfInBounds_toArray, List.set_cons_zero, List.set_cons_succ]
          refine wpAnyH_take (i := 23) (oi := { dst := some 49, op := Op.move (Operand.tmp 1), type := 26, pos := "ref.go:157", after := #[{ on := 17, ground := Ground.guard }], guard := some (17, true) }) (v := ?_) rfl (by kernel_rfl) (by kernel_rfl) (by kernel_rfl) (fun _ _ _ h => h) (Or.inl ⟨by rfl, ?_⟩) (by assumption) ?_
          rotate_left
          · intro w hSw; (try dsimp only at hSw); go_simp <;> with_reducible rfl
          simp only [Act.put, List.setIfInBounds_toArray, List.set_cons_zero, List.set_cons_succ]
          refine wpAnyH_take (i := 24) (oi := { dst := some 50, op := Op.move (Operand.tmp 8), type := 3, pos := "ref.go:157", after := #[{ on := 17, ground := Ground.guard }], guard := some (17, true) }) (v := ?_) rfl (by kernel_rfl) (by kernel_rfl) (by kernel_rfl) (fun _ _ _ h => h) (Or.inl ⟨by rfl, ?_⟩) (by assumption) ?_
          rotate_left
          · intro w hSw; (try dsimp only at hSw); go_simp <;> with_reducible rfl
          simp only [Act.put, List.setIfInBounds_toArray, List.set_cons_zero, List.set_cons_succ]
          refine wpAnyH_take (i := 25) (oi := { dst := some 51, op := Op.binOp BinOp.sub 3 (Operand.tmp 50) (Operand.const (Value.int IntKind.i64 1)) 3, type := 3, pos := "ref.go:157", after := #[{ on := 24, ground := Ground.data }, { on := 17, ground := Ground.guard }], guard := some (17, true) }) (v := .int .i64 (p : Int)) rfl (by kernel_rfl) (by kernel_rfl) (by kernel_rfl) (fun _ _ _ h => h) (Or.inl ⟨by rfl, ?_⟩) (by assumption) ?_
          · intro w hSw; (try dsimp only at hSw); go_simp <;> (first | with_reducible rfl | exact hsub | (rw [hsub]; done) | (rw [hsub]; with_reducible rfl))
          simp only [Act.put, List.setIfInBounds_toArray, List.set_cons_zero, List.set_cons_succ]
          refine wpAnyH_take (i := 26) (oi := { dst := some 52, op := Op.indexAddr 26 (Operand.tmp 49) (Operand.tmp 51), type := 0, pos := "ref.go:157", after := #[{ on := 23, ground := Ground.data }, { on := 25, ground := Ground.data }, { on := 17, ground := Ground.guard }], guard := some (17, true) }) (v := ?_) rfl (by kernel_rfl) (by kernel_rfl) (by kernel_rfl) (fun _ _ _ h => h) (Or.inl ⟨by rfl, ?_⟩) (by assumption) ?_
          rotate_left
          · intro w hSw; (try dsimp only at hSw); go_simp <;> with_reducible rfl
          simp only [Act.put, List.setIfInBounds_toArray, List.set_cons_zero, List.set_cons_succ]
          refine wpAnyH_take (i := 27) (oi := { dst := some 53, op := Op.fieldAddr 76 (Operand.tmp 52) 0, type := 0, pos := "ref.go:157", after := #[{ on := 26, ground := Ground.data }, { on := 17, ground := Ground.guard }], guard := some (17, true) }) (v := ?_) rfl (by kernel_rfl) (by kernel_rfl) (by kernel_rfl) (fun _ _ _ h => h) (Or.inl ⟨by rfl, ?_⟩) (by assumption) ?_
          rotate_left
          · intro w hSw; (try dsimp only at hSw); go_simp <;> with_reducible rfl
          simp only [Act.put, List.setIfInBounds_toArray, List.set_cons_zero, List.set_cons_succ]
          refine wpAnyH_take (i := 28) (oi := { dst := some 54, op := Op.load 3 (Operand.tmp 53), type := 3, pos := "ref.go:157", after := #[{ on := 27, ground := Ground.data }, { on := 17, ground := Ground.guard }], guard := some (17, true) }) (v := ?_) rfl (by kernel_rfl) (by kernel_rfl) (by kernel_rfl) (fun _ _ _ h => h) (Or.inl ⟨by rfl, ?_⟩) (by assumption) ?_
          rotate_left
          · intro w hSw; (try dsimp only at hSw); go_simp <;> with_reducible rfl
          simp only [Act.put, List.setIfInBounds_toArray, List.set_cons_zero, List.set_cons_succ]
          refine wpAnyH_take (i := 29) (oi := { dst := some 55, op := Op.binOp BinOp.lss 3 (Operand.tmp 48) (Operand.tmp 54) 3, type := 4, pos := "ref.go:157", after := #[{ on := 22, ground := Ground.data }, { on := 28, ground := Ground.data }, { on := 17, ground := Ground.guard }], guard := some (17, true) }) (v := ?_) rfl (by kernel_rfl) (by kernel_rfl) (by kernel_rfl) (fun _ _ _ h => h) (Or.inl ⟨by rfl, ?_⟩) (by assumption) ?_
          rotate_left
          · intro w hSw; (try dsimp only at hSw); go_simp <;> with_reducible rfl
          simp only [Act.put, List.setIfInBounds_toArray, List.set_cons_zero, List.set_cons_succ]
          refine wpAnyH_take (i := 30) (oi := { dst := some 56, op := Op.pick (Operand.tmp 43) (Operand.tmp 55) (Operand.const (Value.bool false)), type := 4, pos := "ref.go:157", after := #[{ on := 17, ground := Ground.data }, { on := 29, ground := Ground.data }, { on := 14, ground := Ground.guard }], guard := some (14, false) }) (v := ?_) rfl (by kernel_rfl) (by kernel_rfl) (by kernel_rfl) (fun _ _ _ h => h) (Or.inl ⟨by rfl, ?_⟩) (by assumption) ?_
          rotate_left
          · intro w hSw; (try dsimp only at hSw); go_simp <;> with_reducible rfl
          simp only [Act.put, List.setIfInBounds_toArray, List.set_cons_zero, List.set_cons_succ]
          refine wpAnyH_take (i := 31) (oi := { dst := some 57, op := Op.pick (Operand.tmp 40) (Operand.const (Value.bool true)) (Operand.tmp 56), type := 4, pos := "ref.go:157", after := #[{ on := 14, ground := Ground.data }, { on := 30, ground := Ground.data }], guard := none }) (v := ?_) rfl (by kernel_rfl) (by kernel_rfl) (by kernel_rfl) (fun _ _ _ h => h) (Or.inl ⟨by rfl, ?_⟩) (by assumption) ?_
          rotate_left
          · intro w hSw; (try dsimp only at hSw); go_simp <;> with_reducible rfl
          simp only [Act.put, List.setIfInBounds_toArray, List.set_cons_zero, List.set_cons_succ]
          refine wpAnyH_done (by kernel_rfl) ?_ _
          skip
          go_wp2
          exact ⟨⟨c + 1, by omega, by go_num, hT2, hp2, hBl.out.drew⟩, by simp [intOf]; omega⟩
    · obtain rfl : c = L.length := by omega
      have hTk : tkOk L := fun i e he => hT.out i e (List.getElem?_eq_some_iff.1 he).1 he
      have hE3 := hide' (fun l w' => hE2.out l w' hTk)
      have hcS := hD2.out.sts.2.1
      have hS : Hid (∀ V, Below wr.heap.size wr V → V.cell? ⟨k.gd, 4, none⟩ = some (.slice (some ⟨k.hd, 0, none⟩) R.S.length k.ct1)) := fun V hV => (hD2.out.over (hBl.out.trans (hV.mono hBl.out.size))).sts.1
      have hSs : Hid (∀ V, Below wr.heap.size wr V → ∀ i s, R.S[i]? = some s → V.cell? ⟨k.hd, i * 4, none⟩ = some (.int .i64 s.st) ∧ V.cell? ⟨k.hd, i * 4 + 2, none⟩ = some (.int .i64 s.ca) ∧ V.cell? ⟨k.hd, i * 4 + 3, none⟩ = some (.int .i64 s.da)) := fun V hV i s hs => by
        obtain ⟨h0, _, h2, h3⟩ := (hD2.out.over (hBl.out.trans (hV.mono hBl.out.size))).sts.2.2 i s hs
        exact ⟨h0, h2, h3⟩
      obtain ⟨wo, rfl⟩ : ∃ wo, wo = wr := ⟨_, rfl⟩
      have hn12 : R.S.length ≤ 12 := by rw [hRS.out]; exact hns
      clear hT hE1 hE2 hD2 hTk hpos hC hBl
      have y4 := hS.out wo (Below.refl _ _)
      go_wp2
      go_loopw [9, 10] (fun l i wx => ∃ (c n : Nat) (o : Option Addr) (cp : Nat), c ≤ R.S.length ∧ n ≤ c ∧ i = .int .i64 c ∧ l = .slice o n cp ∧ Hid (n = (spN R.S c).length) ∧ Hid (wx.ownsRow wo.heap.size 93 2 (.slice o n cp) n (O.cellsP (spN R.S c))) ∧ Hid (Below wo.heap.size wo wx)) (fun _ i _ => ((R.S.length : Int) - intOf i).toNat)
      case atStart => exact ⟨0, 0, none, 0, Nat.zero_le _, Nat.le_refl _, rfl, rfl, rfl, World.ownsRow_nil _ _ _ _, Below.refl _ _⟩
      case round =>
        clear y4
        obtain ⟨c, n, o, cp, hc, hnc, rfl, rfl, hnl, hO, hB⟩ := hrel
        have y4 := hS.out wr hB.out
        by_cases hlt : c < R.S.length
        · as_aux_lemma =>
          obtain ⟨s, hx⟩ : ∃ x, R.S[c]? = some x := ⟨_, List.getElem?_eq_getElem hlt⟩
          have hcl : Hid (∀ V, Below wo.heap.size wo V → V.cell? ⟨k.gd, 4, none⟩ = some (.slice (some ⟨k.hd, 0, none⟩) R.S.length k.ct1) ∧ V.cell? ⟨k.hd, c * 4 + 2, none⟩ = some (.int .i64 s.ca) ∧ V.cell? ⟨k.hd, c * 4 + 3, none⟩ = some (.int .i64 s.da)) := fun V hV => ⟨hS.out V hV, (hSs.out V hV c s hx).2⟩
          obtain ⟨b0, b2, b3⟩ := hSs.out wr hB.out c s hx
          have hN := hide' (spN_next hx)
          clear hS hSs hE3 hRS hx hbw
          generalize s.st = s0 at *
          generalize s.ca = s2 at *
          generalize s.da = s3 at *
          generalize R.S.length = nS at *
          by_cases hz : s0 = 2
          · have hq : Hid (O.cellsP (spN R.S c) ++ [.int .i64 (c : Int), .int .i64 (wrap64 (s3 - s2))] = O.cellsP (spN R.S (c + 1)) ∧ n + 1 = (spN R.S (c + 1)).length) := by
              show _ ∧ _
              rw [hN.out, if_pos hz, cellsP_app, List.length_append, ← hnl.out]
              exact ⟨rfl, rfl⟩
            subst hz
            clear hN
            have hwq : IntKind.i64.wrap (s3 - s2) = wrap64 (s3 - s2) := by unfold wrap64; exact IntKind.wrap_i64 _
            have hd : Hid (Below wo.heap.size wo wr.drew) := hB.out.drew
            have hOd : Hid (wr.drew.ownsRow wo.heap.size 93 2 (.slice o n cp) n (O.cellsP (spN R.S c))) := hO.out
            go_upto_region 14 with fail
            refine wp_region_held_drew (S := (fun V => V.cell? ⟨k.gd, 4, none⟩ = some (.slice (some ⟨k.hd, 0, none⟩) nS k.ct1) ∧ V.cell? ⟨k.hd, c * 4 + 2, none⟩ = some (.int .i64 s2) ∧ V.cell? ⟨k.hd, c * 4 + 3, none⟩ = some (.int .i64 s3))) (by kernel_rfl) ?_ (fun hHeld => ?_)
            · exact hcl.out _ hd.out
            refine wpAnyH_take (i := 0) (oi := { dst := some 76, op := Op.move (Operand.tmp 9), type := 58, pos := "ref.go:164", after := #[], guard := none }) (v := ?_) rfl (by kernel_rfl) (by kernel_rfl) (by kernel_rfl) (fun _ _ _ h => h) (Or.inl ⟨by rfl, ?_⟩) (by assumption) ?_
            rotate_left
            · intro w hSw; (try dsimp only at hSw); go_simp <;> with_reducible rfl
            simp only [Act.put, List.setIfInBounds_toArray, List.set_cons_zero, List.set_cons_succ]
            refine wpAnyH_take (i := 1) (oi := { dst := some 77, op := Op.move (Operand.tmp 10), type := 3, pos := "ref.go:164", after := #[], guard := none }) (v := ?_) rfl (by kernel_rfl) (by kernel_rfl) (by kernel_rfl) (fun _ _ _ h => h) (Or.inl ⟨by rfl, ?_⟩) (by assumption) ?_
            rotate_left
            · intro w hSw; (try dsimp only at hSw); go_simp <;> with_reducible rfl
            simp only [Act.put, List.setIfInBounds_toArray, List.set_cons_zero, List.set_cons_succ]
            refine wpAnyH_take (i := 2) (oi := { dst := some 78, op := Op.move (Operand.tmp 6), type := 33, pos := "ref.go:164", after := #[], guard := none }) (v := ?_) rfl (by kernel_rfl) (by kernel_rfl) (by kernel_rfl) (fun _ _ _ h => h) (Or.inl ⟨by rfl, ?_⟩) (by assumption) ?_
            rotate_left
            · intro w hSw; (try dsimp only at hSw); go_simp <;> with_reducible rfl
            simp only [Act.put, List.setIfInBounds_toArray, List.set_cons_zero, List.set_cons_succ]
            refine wpAnyH_take (i := 3) (oi := { dst := some 79, op := Op.nilCheck (Operand.tmp 78), type := 0, pos := "ref.go:164", after := #[{ on := 2, ground := Ground.data }], guard := none }) (v := ?_) rfl (by kernel_rfl) (by kernel_rfl) (by kernel_rfl) (fun _ _ _ h => h) (Or.inl ⟨by rfl, ?_⟩) (by assumption) ?_
            rotate_left
            · intro w hSw; (try dsimp only at hSw); go_simp <;> with_reducible rfl
            simp only [Act.put, List.setIfInBounds_toArray, List.set_cons_zero, List.set_cons_succ]
            refine wpAnyH_take (i := 4) (oi := { dst := some 80, op := Op.fieldAddr 40 (Operand.tmp 79) 2, type := 0, pos := "ref.go:164", after := #[{ on := 3, ground := Ground.data }], guard := none }) (v := ?_) rfl (by kernel_rfl) (by kernel_rfl) (by kernel_rfl) (fun _ _ _ h => h) (Or.inl ⟨by rfl, ?_⟩) (by assumption) ?_
            rotate_left
            · intro w hSw; (try dsimp only at hSw); go_simp <;> with_reducible rfl
            simp only [Act.put, List.setIfInBounds_toArray, List.set_cons_zero, List.set_cons_succ]
            refine wpAnyH_take (i := 5) (oi := { dst := some 81, op := Op.load 38 (Operand.tmp 80), type := 38, pos := "ref.go:164", after := #[{ on := 4, ground := Ground.data }], guard := none }) (v := ?_) rfl (by kernel_rfl) (by kernel_rfl) (by kernel_rfl) (fun _ _ _ h => h) (Or.inl ⟨by rfl, ?_⟩) (by assumption) ?_
            rotate_left
            · intro w hSw; (try dsimp only at hSw); go_simp <;> with_reducible rfl
            simp only [Act.put, List.setIfInBounds_toArray, List.set_cons_zero, List.set_cons_succ]
            refine wpAnyH_take (i := 6) (oi := { dst := some 82, op := Op.move (Operand.tmp 10), type := 3, pos := "ref.go:164", after := #[], guard := none }) (v := ?_) rfl (by kernel_rfl) (by kernel_rfl) (by kernel_rfl) (fun _ _ _ h => h) (Or.inl ⟨by rfl, ?_⟩) (by assumption) ?_
            rotate_left
            · intro w hSw; (try dsimp only at hSw); go_simp <;> with_reducible rfl
            simp only [Act.put, List.setIfInBounds_toArray, List.set_cons_zero, List.set_cons_succ]
            refine wpAnyH_take (i := 7) (oi := { dst := some 83, op := Op.indexAddr 38 (Operand.tmp 81) (Operand.tmp 82), type := 0, pos := "ref.go:164", after := #[{ on := 5, ground := Ground.data }, { on := 6, ground := Ground.data }], guard := none }) (v := ?_) rfl (by kernel_rfl) (by kernel_rfl) (by kernel_rfl) (fun _ _ _ h => h) (Or.inl ⟨by rfl, ?_⟩) (by assumption) ?_
            rotate_left
            · intro w hSw; (try dsimp only at hSw); go_simp <;> with_reducible rfl
            simp only [Act.put, List.setIfInBounds_toArray, List.set_cons_zero, List.set_cons_succ]
            refine wpAnyH_take (i := 8) (oi := { dst := some 84, op := Op.fieldAddr 42 (Operand.tmp 83) 3, type := 0, pos := "ref.go:164", after := #[{ on := 7, ground := Ground.data }], guard := none }) (v := ?_) rfl (by kernel_rfl) (by kernel_rfl) (by kernel_rfl) (fun _ _ _ h => h) (Or.inl ⟨by rfl, ?_⟩) (by assumption) ?_
            rotate_left
            · intro w hSw; (try dsimp only at hSw); go_simp <;> with_reducible rfl
            simp only [Act.put, List.setIfInBounds_toArray, List.set_cons_zero, List.set_cons_succ]
            refine wpAnyH_take (i := 9) (oi := { dst := some 85, op := Op.load 3 (Operand.tmp 84), type := 3, pos := "ref.go:164", after := #[{ on := 8, ground := Ground.data }], guard := none }) (v := ?_) rfl (by kernel_rfl) (by kernel_rfl) (by kernel_rfl) (fun _ _ _ h => h) (Or.inl ⟨by rfl, ?_⟩) (by assumption) ?_
            rotate_left
            · intro w hSw; (try dsimp only at hSw); go_simp <;> with_reducible rfl
            simp only [Act.put, List.setIfInBounds_toArray, List.set_cons_zero, List.set_cons_succ]
            refine wpAnyH_take (i := 10) (oi := { dst := some 86, op := Op.move (Operand.tmp 6), type := 33, pos := "ref.go:164", after := #[], guard := none }) (v := ?_) rfl (by kernel_rfl) (by kernel_rfl) (by kernel_rfl) (fun _ _ _ h => h) (Or.inl ⟨by rfl, ?_⟩) (by assumption) ?_
            rotate_left
            · intro w hSw; (try dsimp only at hSw); go_simp <;> with_reducible rfl
            simp only [Act.put, List.setIfInBounds_toArray, List.set_cons_zero, List.set_cons_succ]
            refine wpAnyH_take (i := 11) (oi := { dst := some 87, op := Op.nilCheck (Operand.tmp 86), type := 0, pos := "ref.go:164", after := #[{ on := 10, ground := Ground.data }], guard := none }) (v := ?_) rfl (by kernel_rfl) (by kernel_rfl) (by kernel_rfl) (fun _ _ _ h => h) (Or.inl ⟨by rfl, ?_⟩) (by assumption) ?_
            rotate_left
            · intro w hSw; (try dsimp only at hSw); go_simp <;> with_reducible rfl
            simp only [Act.put, List.setIfInBounds_toArray, List.set_cons_zero, List.set_cons_succ]
            refine wpAnyH_take (i := 12) (oi := { dst := some 88, op := Op.fieldAddr 40 (Operand.tmp 87) 2, type := 0, pos := "ref.go:164", after := #[{ on := 11, ground := Ground.data }], guard := none }) (v := ?_) rfl (by kernel_rfl) (by kernel_rfl) (by kernel_rfl) (fun _ _ _ h => h) (Or.inl ⟨by rfl, ?_⟩) (by assumption) ?_
            rotate_left
            · intro w hSw; (try dsimp only at hSw); go_simp <;> with_reducible rfl
            simp only [Act.put, List.setIfInBounds_toArray, List.set_cons_zero, List.set_cons_succ]
            refine wpAnyH_take (i := 13) (oi := { dst := some 89, op := Op.load 38 (Operand.tmp 88), type := 38, pos := "ref.go:164", after := #[{ on := 12, ground := Ground.data }], guard := none }) (v := ?_) rfl (by kernel_rfl) (by kernel_rfl) (by kernel_rfl) (fun _ _ _ h => h) (Or.inl ⟨by rfl, ?_⟩) (by assumption) ?_
            rotate_left
            · intro w hSw; (try dsimp only at hSw); go_simp <;> with_reducible rfl
            simp only [Act.put, List.setIfInBounds_toArray, List.set_cons_zero, List.set_cons_succ]
            refine wpAnyH_take (i := 14) (oi := { dst := some 90, op := Op.move (Operand.tmp 10), type := 3, pos := "ref.go:164", after := #[], guard := none }) (v := ?_) rfl (by kernel_rfl) (by kernel_rfl) (by kernel_rfl) (fun _ _ _ h => h) (Or.inl ⟨by rfl, ?_⟩) (by assumption) ?_
            rotate_left
            · intro w hSw; (try dsimp only at hSw); go_simp <;> with_reducible rfl
            simp only [Act.put, List.setIfInBounds_toArray, List.set_cons_zero, List.set_cons_succ]
            refine wpAnyH_take (i := 15) (oi := { dst := some 91, op := Op.indexAddr 38 (Operand.tmp 89) (Operand.tmp 90), type := 0, pos := "ref.go:164", after := #[{ on := 13, ground := Ground.data }, { on := 14, ground := Ground.data }], guard := none }) (v := ?_) rfl (by kernel_rfl) (by kernel_rfl) (by kernel_rfl) (fun _ _ _ h => h) (Or.inl ⟨by rfl, ?_⟩) (by assumption) ?_
            rotate_left
            · intro w hSw; (try dsimp only at hSw); go_simp <;> with_reducible rfl
            simp only [Act.put, List.setIfInBounds_toArray, List.set_cons_zero, List.set_cons_succ]
            refine wpAnyH_take (i := 16) (oi := { dst := some 92, op := Op.fieldAddr 42 (Operand.tmp 91) 2, type := 0, pos := "ref.go:164", after := #[{ on := 15, ground := Ground.data }], guard := none }) (v := ?_) rfl (by kernel_rfl) (by kernel_rfl) (by kernel_rfl) (fun _ _ _ h => h) (Or.inl ⟨by rfl, ?_⟩) (by assumption) ?_
            rotate_left
            · intro w hSw; (try dsimp only at hSw); go_simp <;> with_reducible rfl
            simp only [Act.put, List.setIfInBounds_toArray, List.set_cons_zero, List.set_cons_succ]
            refine wpAnyH_take (i := 17) (oi := { dst := some 93, op := Op.load 3 (Operand.tmp 92), type := 3, pos := "ref.go:164", after := #[{ on := 16, ground := Ground.data }], guard := none }) (v := ?_) rfl (by kernel_rfl) (by kernel_rfl) (by kernel_rfl) (fun _ _ _ h => h) (Or.inl ⟨by rfl, ?_⟩) (by assumption) ?_
            rotate_left
            · intro w hSw; (try dsimp only at hSw); go_simp <;> with_reducible rfl
            simp only [Act.put, List.setIfInBounds_toArray, List.set_cons_zero, List.set_cons_succ]
            refine wpAnyH_take (i := 18) (oi := { dst := some 94, op := Op.binOp BinOp.sub 3 (Operand.tmp 85) (Operand.tmp 93) 3, type := 3, pos := "ref.go:164", after := #[{ on := 9, ground := Ground.data }, { on := 17, ground := Ground.data }], guard := none }) (v := ?_) rfl (by kernel_rfl) (by kernel_rfl) (by kernel_rfl) (fun _ _ _ h => h) (Or.inl ⟨by rfl, ?_⟩) (by assumption) ?_
            rotate_left
            · intro w hSw; (try dsimp only at hSw); go_simp <;> with_reducible rfl
            simp only [Act.put, List.setIfInBounds_toArray, List.set_cons_zero, List.set_cons_succ]
            refine wpAnyH_take (i := 19) (oi := { dst := some 95, op := Op.build 93 #[(0, Operand.tmp 77), (1, Operand.tmp 94)], type := 93, pos := "ref.go:164", after := #[{ on := 1, ground := Ground.data }, { on := 18, ground := Ground.data }], guard := none }) (v := ?_) rfl (by kernel_rfl) (by kernel_rfl) (by kernel_rfl) (fun _ _ _ h => h) (Or.inl ⟨by rfl, ?_⟩) (by assumption) ?_
            rotate_left
            · intro w hSw; (try dsimp only at hSw); go_simp <;> with_reducible rfl
            simp only [Act.put, List.setIfInBounds_toArray, List.set_cons_zero, List.set_cons_succ]
            refine wpAnyH_ready (rs := [20]) (by kernel_rfl) (by simp) ?_
            refine AllReadyH.cons (o := { dst := some 96, op := Op.buildSlice 58 1 #[(0, Operand.tmp 95)], type := 58, pos := "ref.go:164", after := #[{ on := 19, ground := Ground.data }], guard := none }) rfl (fun K hK => ?_) AllReadyH.nil
            go_simp
            refine hK.out _ _ ?_ (fun hHeld => ?_)
            · exact hcl.out _ (hd.out.alloc hd.out.size _)
            clear hK K
            try simp only [Act.put, List.setIfInBounds_toArray, List.set_cons_zero, List.set_cons_succ]
            refine wpAnyH_ready (rs := [21]) (by kernel_rfl) (by simp) ?_
            refine AllReadyH.cons (o := { dst := some 97, op := Op.call { callee := Callee.builtin Builtin.append, args := #[Operand.tmp 76, Operand.tmp 96], argTypes := #[58, 58] }, type := 58, pos := "ref.go:164", after := #[{ on := 0, ground := Ground.data }, { on := 20, ground := Ground.data }], guard := none }) rfl (fun K hK => ?_) AllReadyH.nil
            rw [if_pos (by rfl)]
            (try rw [hwq]); refine app1Lw elP (.tmp 76) (.tmp 96) rfl wo.heap.size wr.drew (.slice o n cp) n (O.cellsP (spN R.S c)) [.int .i64 (c : Int), .int .i64 (wrap64 (s3 - s2))] (by rfl) (by rfl) hOd.out rfl (by simp [Value.oneCell']) hd.out.size (by omega) ?_; intro g cap w7 hown hgr hnw; have hO7 := hide' hown; have hB7 := hide' (hd.out.grown hgr hd.out.size (fun _ e => own_ge' hOd.out e)); clear hown hgr hnw; (try dsimp only)
            refine hK.out _ _ ?_ (fun hHeld => ?_)
            · exact hcl.out _ hB7.out
            clear hK K
            try simp only [Act.put, List.setIfInBounds_toArray, List.set_cons_zero, List.set_cons_succ]
            refine wpAnyH_take (i := 22) (oi := { dst := some 9, op := Op.assign (Operand.tmp 97), type := 58, pos := "ref.go:164", after := #[{ on := 21, ground := Ground.data }, { on := 21, ground := Ground.chain }, { on := 0, ground := Ground.phase }, { on := 1, ground := Ground.phase }, { on := 2, ground := Ground.phase }, { on := 3, ground := Ground.phase }, { on := 4, ground := Ground.phase }, { on := 5, ground := Ground.phase }, { on := 6, ground := Ground.phase }, { on := 7, ground := Ground.phase }, { on := 8, ground := Ground.phase }, { on := 9, ground := Ground.phase }, { on := 10, ground := Ground.phase }, { on := 11, ground := Ground.phase }, { on := 12, ground := Ground.phase }, { on := 13, ground := Ground.phase }, { on := 14, ground := Ground.phase }, { on := 15, ground := Ground.phase }, { on := 16, ground := Ground.phase }, { on := 17, ground := Ground.phase }, { on := 18, ground := Ground.phase }, { on := 19, ground := Ground.phase }, { on := 20, ground := Ground.phase }, { on := 21, ground := Ground.phase }], guard := none }) (v := ?_) rfl (by kernel_rfl) (by kernel_rfl) (by kernel_rfl) (fun _ _ _ h => h) (Or.inl ⟨by rfl, ?_⟩) (by assumption) ?_
            rotate_left
            · intro w hSw; (try dsimp only at hSw); go_simp <;> with_reducible rfl
            simp only [Act.put, List.setIfInBounds_toArray, List.set_cons_zero, List.set_cons_succ]
            refine wpAnyH_done (by kernel_rfl) ?_ _
            skip
            rw [hq.out.1] at hO7
            have hl2 := hide' hq.out.2
            go_wp2
            exact ⟨⟨c + 1, n + 1, _, _, by omega, by omega, by go_num, rfl, hl2, hO7, hB7⟩, by simp [intOf]; omega⟩
          · have hz' : (s0 == 2) = false := by rw [beq_eq_false_iff_ne]; exact hz
            have hq : Hid (spN R.S (c + 1) = spN R.S c) := by show _ = _; rw [hN.out, if_neg hz]
            rw [← hq.out] at hnl hO
            clear hN
            go_wp2
            exact ⟨⟨c + 1, n, _, _, by omega, by omega, by go_num, rfl, hnl, hO, hB⟩, by simp [intOf]; omega⟩
        · obtain rfl : c = R.S.length := by omega
          have hF := hide' (hE3.out (.slice o n cp) wr (hbw.out.trans (hB.out.mono hbw.out.size)) (by have h9 := own_down hO.out hbw.out.size; rw [← hRS.out, ← hnl.out]; exact h9))
          clear hE3 hS hSs hRS hO hB
          go_wp2
          exact hF.out
end Go.Proofs.YtahfobbiaimoiaaGreatDoor

/- audit.Broken, audit.Spans. -/
import Derived.Test.YtahfobbiaimoiaaGreatDoorJ43
import Derived.Test.YtahfobbiaimoiaaGreatDoorJ45
import Derived.Deep.CutBlock
namespace Go.Proofs.YtahfobbiaimoiaaGreatDoor
open Go.RowKit
/-- Two rows of ints beside one another. -/
structure Yp (w : World) (o1 : Option Addr) (n1 c1 : Nat) (o2 : Option Addr) (n2 c2 : Nat) (A B : List Int) (W : World) : Prop where
  r : W.ownsRow w.heap.size 3 1 (.slice o1 n1 c1) n1 (cellsI A)
  l : W.ownsRow w.heap.size 3 1 (.slice o2 n2 c2) n2 (cellsI B)
  ne : ∀ g, (Value.slice o1 n1 c1).ownBlock = some g → (Value.slice o2 n2 c2).ownBlock ≠ some g
  be : Below w.heap.size w W
section
variable {w W W' : World} {o1 o2 : Option Addr} {n1 c1 n2 c2 : Nat} {A B : List Int}
theorem Yp.start {W : World} (h : Below w.heap.size w W) : Yp w none 0 0 none 0 0 [] [] W := ⟨World.ownsRow_nil _ _ _ _, World.ownsRow_nil _ _ _ _, (fun g h => by cases h), h⟩
theorem Yp.swap (h : Yp w o1 n1 c1 o2 n2 c2 A B W) : Yp w o2 n2 c2 o1 n1 c1 B A W := ⟨h.l, h.r, fun g h1 h2 => h.ne g h2 h1, h.be⟩
theorem Yp.over (h : Yp w o1 n1 c1 o2 n2 c2 A B W) (hb : Below W.heap.size W W') : Yp w o1 n1 c1 o2 n2 c2 A B W' := ⟨own_same h.r fun k hk _ => hb.block k hk, own_same h.l fun k hk _ => hb.block k hk, h.ne, h.be.trans (hb.mono h.be.size)⟩
theorem Yp.push (h : Yp w o1 n1 c1 o2 n2 c2 A B W) (x : Int) {g cap : Nat} (ho : W'.ownsRow w.heap.size 3 1 (.slice (some ⟨g, 0, none⟩) (n1 + 1) cap) (n1 + 1) (cellsI A ++ [.int .i64 x])) (hg : W.grownBy W' (Value.slice o1 n1 c1).ownBlock) (hn : (Value.slice o1 n1 c1).ownBlock = some g ∨ W.heap.size ≤ g) : Yp w (some ⟨g, 0, none⟩) (n1 + 1) cap o2 n2 c2 (A ++ [x]) B W' := by
  refine ⟨by rw [← cellsI_app1]; exact ho, own_same h.l fun k hk e => hg.block k hk fun e2 => h.ne k e2.symm e, fun k hk q => ?_, h.be.grown hg h.be.size fun k e => own_ge' h.r e⟩
  have hk' : g = k := by simpa [Value.ownBlock] using hk
  subst hk'
  rcases hn with e | e
  · exact h.ne g e q
  · have := own_lt' h.l q
    omega
end
set_option maxRecDepth 100000 in
set_option maxHeartbeats 4000000 in
theorem keepableP {V0 : World} {F : Fw} {gr gt : Nat} {sv rv : Value} {go gp gs ct : Nat} {Pf Sf : Nat → Nat} {P1 : List (Sp × Value)} {P2 : List (Rl × Value)} {lv : Value} {R : Rs} {W : World} (h : RnX V0 F gr gt sv rv go gp gs ct Pf Sf P1 P2 lv R W) (r : Rl) (tv : Value) (ht : RowI W tv r.steps) (hin : ∀ t ∈ r.steps, 0 ≤ t ∧ t < (R.S.length : Int)) (hk : numF r.kind r.k r.steps.length = true) (hm : r.steps.length ≤ 12) :
    Calls Tryz.prog 61 #[.agg #[.int .i64 r.kind, .int .i64 r.k, tv], .pointer (some ⟨gr, 0, none⟩)] W fun e w' => e = .returned (.bool (kpB R.S r)) ∧ Below W.heap.size W w' := by
  have hT0 := hide' (fun V (hV : Below W.heap.size W V) => ht.below hV (Nat.le_refl _))
  have KS : Hid (∀ V, Below W.heap.size W V → ∀ i : Int, Calls Tryz.prog 14 #[.pointer (some ⟨gr, 0, none⟩), .int .i64 i] V fun e w' => e = .returned (.tuple #[staT R i, .bool (hasS R i)]) ∧ Below V.heap.size V w') := fun V z i => stateF (h.over z).run i
  have hSs : Hid (∀ t ∈ r.steps, ∃ s, R.S[t.toNat]? = some s ∧ staT R t = .agg #[.int .i64 s.st, .int .i64 s.us, .int .i64 s.ca, .int .i64 s.da] ∧ hasS R t = true) := fun t hm => by
    have h1 := hin t hm
    have hh : hasS R t = true := by unfold hasS; simp; omega
    exact ⟨sAt R t, sAt_some hh, by unfold staT; rw [if_pos hh]; rfl, hh⟩
  have KE : Hid (∀ V (L : List Int) pv uv, RowI V pv (plsN r.steps.length) → RowI V uv L → L.length ≤ r.steps.length → Calls Tryz.prog 104 #[.agg #[.int .i64 r.kind, .int .i64 r.k, pv], .int .i64 (r.steps.length : Int), uv] V fun e w' => e = .returned (.bool (means r.kind r.k L (r.steps.length - L.length))) ∧ Below V.heap.size V w') := fun V L pv uv h1 h2 h3 => by
    have := earlyF ⟨r.kind, r.k, plsN r.steps.length⟩ (r.steps.length : Int) pv uv L V h1 h2 (by show (plsN r.steps.length).length ≤ _; rw [plsN_len]; omega)
    rwa [early_pls hk hm h3] at this
  have hkp : Hid (kpB R.S r = means r.kind r.k (clU R.S r.steps r.steps.length) (r.steps.length - (clU R.S r.steps r.steps.length).length)) := rfl
  rw [hkp.out]
  have hcl : Hid (∀ c t s, r.steps[c]? = some t → R.S[t.toNat]? = some s → clU R.S r.steps (c + 1) = if s.st = 0 then clU R.S r.steps c else clU R.S r.steps c ++ [s.us]) := fun c t s h1 h2 => clU_next h1 h2
  have hcn : Hid (∀ c, (clU R.S r.steps c).length ≤ c) := clU_len R.S r.steps
  have hb0 : Hid (Below W.heap.size W (W.alloc (.cells #[.int .i64 r.kind, .int .i64 r.k, tv] 82))) := (Below.refl _ W).alloc (Nat.le_refl _) _
  have hX0 := hide' (heap_alloc_new W (.cells #[.int .i64 r.kind, .int .i64 r.k, tv] 82))
  obtain ⟨ot, cpt, rfl, hct, _⟩ := ht
  have hC : Hid (∀ V, Below W.heap.size W V → ∀ i z, r.steps[i]? = some z → ∃ g f, ot = some ⟨g, f, none⟩ ∧ V.cell? ⟨g, f + i, none⟩ = some (.int .i64 z)) := fun V hV i z hz => by
    obtain ⟨_, _, e, _, h⟩ := hT0.out V hV
    injection e with e _ _
    subst e
    exact h i z hz
  have hct1 := hct.1
  obtain ⟨x0, x1, x2⟩ := bx3 hX0.out
  clear h hin hk hT0 hkp hct
  go_enter Tryz.func61, Tryz.ntmps61
  go_upto_block 0 with fail
  clear x0 x1 x2
  generalize hW1 : W.alloc (.cells #[.int .i64 r.kind, .int .i64 r.k, .slice ot r.steps.length cpt] 82) = W1 at *
  clear hW1
  go_wp2
  go_loopw [5, 6, 7, 8, 9, 10, 14] (fun us ps _ _ _ _ k wr => ∃ (c n : Nat) (o1 : Option Addr) (c1 : Nat) (o2 : Option Addr) (c2 : Nat), c ≤ r.steps.length ∧ n ≤ c ∧ k = .int .i64 c ∧ us = .slice o1 n c1 ∧ ps = .slice o2 c c2 ∧ Hid (n = (clU R.S r.steps c).length) ∧ Hid (Yp W1 o1 n c1 o2 c c2 (clU R.S r.steps c) (plsN c) wr)) (fun _ _ _ _ _ _ k _ => ((r.steps.length : Int) - intOf k).toNat)
  case atStart => exact ⟨0, 0, none, 0, none, 0, Nat.zero_le _, Nat.le_refl _, rfl, rfl, rfl, rfl, Yp.start (Below.refl _ _)⟩
  case round =>
    obtain ⟨c, n, o1, c1, o2, c2, hc, hnc, rfl, rfl, rfl, hnl, hY⟩ := hrel
    have hbr := hide' (hb0.out.trans (hY.out.be.mono hb0.out.size))
    by_cases hlt : c < r.steps.length
    · as_aux_lemma =>
      obtain ⟨t, htt⟩ : ∃ x, r.steps[c]? = some x := ⟨_, List.getElem?_eq_getElem hlt⟩
      obtain ⟨g1, f1, rfl, a0⟩ := hC.out wr hbr.out c t htt
      obtain ⟨s, hs, hst, hhs⟩ := hSs.out t (List.mem_of_getElem? htt)
      have hN := hide' (hcl.out c t s htt hs)
      have K1 := hide' (KS.out wr hbr.out t)
      rw [hst, hhs] at K1
      have hpn := hide' (plsN_next c)
      clear hC hSs KS KE hcl hcn hs hst hhs htt hX0
      generalize s.st = s0 at *
      generalize s.us = s1 at *
      generalize s.ca = s2 at *
      generalize s.da = s3 at *
      go_wp2_with fail
      refine K1.out.mono ?_
      rintro e w2 ⟨rfl, hb2⟩
      have hY2 := hide' (hY.out.over (hb2.alloc hb2.size (.cells #[.int .i64 s0, .int .i64 s1, .int .i64 s2, .int .i64 s3] 42)))
      obtain ⟨x0, x1, x2, x3⟩ := bx4 (heap_alloc_new w2 (.cells #[.int .i64 s0, .int .i64 s1, .int .i64 s2, .int .i64 s3] 42))
      clear K1 hb2 hY hbr a0
      go_upto_region 6 with fail
      generalize hx : w2.heap.size = gx at *
      generalize hW2 : w2.alloc (.cells #[.int .i64 s0, .int .i64 s1, .int .i64 s2, .int .i64 s3] 42) = W2 at *
      clear hx hW2
      by_cases hz : s0 = 0
      · have hq : Hid (clU R.S r.steps (c + 1) = clU R.S r.steps c) := by show _ = _; rw [hN.out, if_pos hz]
        subst hz
        clear hN
        go_wp2_with (at_builtin; refine app1L elI rfl (.tmp 33) (.tmp 35) rfl W1.heap.size W2 (.slice o2 c c2) c (cellsI (plsN c)) [.int .i64 (c : Int)] rfl rfl hY2.out.l rfl (by simp [Value.oneCell']) hY2.out.be.size (by omega) ?_; intro g cap w5 hown hgr hnw; have hY5 := hide' (hY2.out.swap.push (c : Int) hown hgr hnw).swap; clear hown hgr hnw)
        rw [← hpn.out, ← hq.out] at hY5
        rw [← hq.out] at hnl
        exact ⟨⟨c + 1, n, _, _, _, _, by omega, by omega, by go_num, rfl, rfl, hnl, hY5⟩, by simp [intOf]; omega⟩
      · have hz' : (s0 == 0) = false := by rw [beq_eq_false_iff_ne]; exact hz
        have hq : Hid (clU R.S r.steps (c + 1) = clU R.S r.steps c ++ [s1] ∧ n + 1 = (clU R.S r.steps (c + 1)).length) := by
          show _ ∧ _
          rw [hN.out, if_neg hz, List.length_append, ← hnl.out]
          exact ⟨rfl, rfl⟩
        clear hN
        go_wp2_with (first | (at_builtin; refine app1L elI rfl (.tmp 28) (.tmp 31) rfl W1.heap.size W2 (.slice o1 n c1) n (cellsI (clU R.S r.steps c)) [.int .i64 s1] rfl rfl hY2.out.r rfl (by simp [Value.oneCell']) hY2.out.be.size (by omega) ?_; intro g cap w4 hown hgr hnw; have hY4 := hide' (hY2.out.push s1 hown hgr hnw); clear hown hgr hnw) | (at_builtin; refine app1L elI rfl (.tmp 33) (.tmp 35) rfl W1.heap.size w4 (.slice o2 c c2) c (cellsI (plsN c)) [.int .i64 (c : Int)] rfl rfl hY4.out.l rfl (by simp [Value.oneCell']) hY4.out.be.size (by omega) ?_; intro g cap w5 hown hgr hnw; have hY5 := hide' (hY4.out.swap.push (c : Int) hown hgr hnw).swap; clear hown hgr hnw))
        rw [← hpn.out, ← hq.out.1] at hY5
        have hl2 := hide' hq.out.2
        exact ⟨⟨c + 1, n + 1, _, _, _, _, by omega, by omega, by go_num, rfl, rfl, hl2, hY5⟩, by simp [intOf]; omega⟩
    · obtain rfl : c = r.steps.length := by omega
      have K2 := hide' (KE.out wr (clU R.S r.steps r.steps.length) (.slice o2 r.steps.length c2) (.slice o1 n c1) (RowI.of_owns hY.out.l) (RowI.of_owns hY.out.r) (hcn.out _))
      obtain ⟨x0, x1, x2⟩ := bx3 ((hY.out.be.block W.heap.size (Array.getElem?_eq_some_iff.1 hX0.out).1).trans hX0.out)
      clear hC hSs KS KE hcl hcn hX0 hY hnl
      go_wp2_with fail
      refine K2.out.mono ?_
      rintro e w3 ⟨rfl, hb3⟩
      have hF := hide' (hbr.out.trans (hb3.mono hbr.out.size))
      clear K2 hb3 hbr x0 x1 x2
      go_wp2
      go_ret
      exact ⟨rfl, hF.out⟩
end Go.Proofs.YtahfobbiaimoiaaGreatDoor
namespace Go.Proofs.YtahfobbiaimoiaaGreatDoor
open Go.RowKit
/-- What a log comes to. -/
def Oc (F : Fw) (L : List Ev) (Pf : Nat → Nat) (z : Int) : Prop := (chkF F ≠ 0 ∧ z = chkF F) ∨ (chkF F = 0 ∧ (rpR Pf (newR F.steps.length (ftk L)) L).log ≠ L ∧ z = 3) ∨ (chkF F = 0 ∧ (rpR Pf (newR F.steps.length (ftk L)) L).log = L ∧ z = 0)
def OrdF (F : Fw) (Pf Sf : Nat → Nat) : Prop := chkF F = 0 → O.Ord F.steps.length (O.ordL F.steps.length (prs F.steps)) Pf Sf
def BrP (F : Fw) (L : List Ev) (w : World) (e : Ending) (w' : World) : Prop :=
  ∃ Pf Sf l z, e = .returned (.tuple #[l, .int .i64 z]) ∧ Below w.heap.size w w' ∧ OrdF F Pf Sf ∧ Oc F L Pf z ∧ (z ≠ 0 → l = .slice none 0 0) ∧ (z = 0 → w'.ownsRow w.heap.size 3 1 l (brN (rpR Pf (newR F.steps.length (ftk L)) L).S F.rules F.rules.length).length (cellsI (brN (rpR Pf (newR F.steps.length (ftk L)) L).S F.rules F.rules.length)))
theorem rules_ok {F : Fw} (ok : FlOk F) {i : Nat} {r : Rl} (h : F.rules[i]? = some r) : (∀ t ∈ r.steps, 0 ≤ t ∧ t < (F.steps.length : Int)) ∧ numF r.kind r.k r.steps.length = true ∧ r.steps.length ≤ 12 := by
  have h1 : chk (F.steps.length : Int) r = true := List.all_eq_true.1 ok.ru r (List.mem_of_getElem? h)
  unfold chk at h1
  simp only [Bool.and_eq_true, decide_eq_true_eq] at h1
  obtain ⟨⟨⟨h2, h3⟩, h4⟩, h5⟩ := h1
  exact ⟨ris_mem h4, h5, by have := ris_len h4 (by omega); omega⟩
set_option maxRecDepth 100000 in
set_option maxHeartbeats 4000000 in
theorem brokenP (F : Fw) (L : List Ev) (v vl : Value) (w : World) (hv : flV w v F) (hB : FlB F) (hl : EvQ w vl L) (hn : L.length ≤ 1000) (ht : O.Tab w) : Calls Tryz.prog 23 #[v, vl] w (BrP F L w) := by
  have hv0 := hide' hv
  obtain ⟨sv0, rv0, rfl, hs, hr⟩ := hv
  obtain ⟨oa, cap, rfl⟩ := hs.shape
  have hr0 := hide' (fun V (hV : Below w.heap.size w V) => hr.below hV (Nat.le_refl _))
  obtain ⟨ob, cb, rfl, hcb, _⟩ := hr
  have hRu : Hid (∀ V, Below w.heap.size w V → ∀ i r, F.rules[i]? = some r → ∃ g o sv, ob = some ⟨g, o, none⟩ ∧ V.cell? ⟨g, o + i * 3, none⟩ = some (.int .i64 r.kind) ∧ V.cell? ⟨g, o + i * 3 + 1, none⟩ = some (.int .i64 r.k) ∧ V.cell? ⟨g, o + i * 3 + 2, none⟩ = some sv ∧ RowI V sv r.steps) := fun V hV i r hi => by
    obtain ⟨_, _, e, _, h⟩ := hr0.out V hV
    injection e with e _ _
    subst e
    exact h i r hi
  have hcb1 := hcb.1
  have B0 : Hid (Below w.heap.size w (w.alloc (.cells #[.string F.name, .slice oa F.steps.length cap, .slice ob F.rules.length cb] 25))) := (Below.refl _ w).alloc (Nat.le_refl _) _
  have X0 := hide' (heap_alloc_new w (.cells #[.string F.name, .slice oa F.steps.length cap, .slice ob F.rules.length cb] 25))
  have KR := hide' (replayF F L _ vl _ (hv0.out.below B0.out (Nat.le_refl _)) hB (hl.over B0.out) hn (ht.over B0.out))
  obtain ⟨ol, cl, rfl, _, _⟩ := hl
  obtain ⟨x0, x1, x2⟩ := bx3 X0.out
  clear hs hr0 hv0 hcb hB ht
  have hQ1 : Hid (∀ Pf Sf z w', OrdF F Pf Sf → Oc F L Pf z → z ≠ 0 → Below w.heap.size w w' → BrP F L w (.returned (.tuple #[.slice none 0 0, .int .i64 z])) w') := fun Pf Sf z w' h1 h2 h3 h4 => ⟨Pf, Sf, _, z, rfl, h4, h1, h2, fun _ => rfl, fun e => absurd e h3⟩
  have hQ2 : Hid (∀ Pf Sf l w', OrdF F Pf Sf → Oc F L Pf 0 → Below w.heap.size w w' → w'.ownsRow w.heap.size 3 1 l (brN (rpR Pf (newR F.steps.length (ftk L)) L).S F.rules F.rules.length).length (cellsI (brN (rpR Pf (newR F.steps.length (ftk L)) L).S F.rules F.rules.length)) → BrP F L w (.returned (.tuple #[l, .int .i64 0])) w') := fun Pf Sf l w' h1 h2 h4 h5 => ⟨Pf, Sf, l, 0, rfl, h4, h1, h2, fun e => absurd rfl e, fun _ => h5⟩
  generalize BrP F L w = QQ at *
  go_enter Tryz.func23, Tryz.ntmps23
  go_wp2_with fail
  clear x0 x1 x2
  generalize w.alloc (.cells #[.string F.name, .slice oa F.steps.length cap, .slice ob F.rules.length cb] 25) = W1 at *
  have hK : Hid (∀ V, Below W1.heap.size W1 V → Below w.heap.size w V ∧ V.cell? ⟨w.heap.size, 2, none⟩ = some (.slice ob F.rules.length cb)) := fun V hW => ⟨B0.out.trans (hW.mono B0.out.size), (bx3 ((hW.block _ (Array.getElem?_eq_some_iff.1 X0.out).1).trans X0.out)).2.2⟩
  clear X0 B0
  refine KR.out.mono ?_
  rintro e w2 ⟨pa, z, rfl, hb2, h2⟩
  have B2 := hide' hb2
  have hw2 := hide' (hK.out _ hb2).1
  clear KR hb2
  rcases h2 with ⟨h0, rfl, rfl⟩ | ⟨ok, V0, gr, gt, sv, rv, go, gp, gs, ct, Pf, Sf, P1, P2, lv, wN, _, hX, h2⟩
  · have hF := hide' (hQ1.out (fun _ => 0) (fun _ => 0) _ _ (fun e => absurd e h0) (.inl ⟨h0, rfl⟩) h0 hw2.out)
    have h0' : (chkF F == 0) = false := by rw [beq_eq_false_iff_ne]; exact h0
    clear hQ1 hQ2 hRu hK B2 h0
    generalize chkF F = z at *
    go_wp2
    exact hF.out
  have hc0 := chkF_ok ok
  rcases h2 with ⟨hlog, rfl, rfl⟩ | ⟨hlog, rfl, rfl⟩
  rotate_left
  · have hF := hide' (hQ1.out Pf Sf 3 _ (fun _ => hX.wrd) (.inr (.inl ⟨hc0, hlog, rfl⟩)) (by decide) hw2.out)
    clear hQ1 hQ2 hRu hK B2 hX hlog
    go_wp2
    exact hF.out
  have hE := hide' (fun l w' => hQ2.out Pf Sf l w' (fun _ => hX.wrd) (.inr (.inr ⟨hc0, hlog, rfl⟩)))
  have hRok := hide' (fun i r (h : F.rules[i]? = some r) => rules_ok ok h)
  have hnr : F.rules.length ≤ 32 := ok.rl
  have hX2 := hide' hX
  have hRS : Hid ((rpR Pf (newR F.steps.length (ftk L)) L).S.length = F.steps.length) := hX.len
  clear hQ1 hQ2 hX hlog hc0
  generalize rpR Pf (newR F.steps.length (ftk L)) L = R at *
  obtain ⟨_, y2⟩ := hK.out w2 B2.out
  go_wp2
  go_loopw [8, 9, 10, 23] (fun l _ _ k wr => ∃ (c n : Nat) (o : Option Addr) (cp : Nat), c ≤ F.rules.length ∧ n ≤ c ∧ k = .int .i64 c ∧ l = .slice o n cp ∧ Hid (n = (brN R.S F.rules c).length) ∧ Hid (wr.ownsRow w2.heap.size 3 1 (.slice o n cp) n (cellsI (brN R.S F.rules c))) ∧ Hid (Below w2.heap.size w2 wr)) (fun _ _ _ k _ => ((F.rules.length : Int) - intOf k).toNat)
  case atStart => exact ⟨0, 0, none, 0, Nat.zero_le _, Nat.le_refl _, rfl, rfl, rfl, World.ownsRow_nil _ _ _ _, Below.refl _ _⟩
  case round =>
    clear y2
    obtain ⟨c, n, o, cp, hc, hnc, rfl, rfl, hnl, hO, hBl⟩ := hrel
    have hbw := hide' (hw2.out.trans (hBl.out.mono hw2.out.size))
    by_cases hlt : c < F.rules.length
    · as_aux_lemma =>
      obtain ⟨r, hr⟩ : ∃ x, F.rules[c]? = some x := ⟨_, List.getElem?_eq_getElem hlt⟩
      obtain ⟨g1, f1, tv, rfl, a0, a1, a2, hti⟩ := hRu.out wr hbw.out c r hr
      obtain ⟨hin, hnum, h12⟩ := hRok.out c r hr
      have hb3 := (Below.refl _ wr).alloc (Nat.le_refl _) (.cells #[.int .i64 r.kind, .int .i64 r.k, tv] 82)
      have K1 := hide' (keepableP (hX2.out.over (hBl.out.trans (hb3.mono hBl.out.size))) r tv (hti.below hb3 (Nat.le_refl _)) (by rw [hRS.out]; exact hin) hnum h12)
      obtain ⟨x0, x1, x2⟩ := bx3 (heap_alloc_new wr (.cells #[.int .i64 r.kind, .int .i64 r.k, tv] 82))
      have hB3 := hide' hb3
      have hN := hide' (brN_next (S := R.S) hr)
      obtain ⟨otv, ctv, htv, _, _⟩ := hti
      subst htv
      clear hRu hRok hX2 hRS hE hin hnum h12 hb3 hr hK
      generalize r.steps.length = ns at *
      generalize r.kind = kd at *
      generalize r.k = kk at *
      go_wp2_with fail
      refine K1.out.mono ?_
      rintro e w5 ⟨rfl, hb5⟩
      have hO5 := hide' (own_same (own_same hO.out fun k hk _ => hB3.out.block k hk) fun k hk _ => hb5.block k hk)
      have hB5 := hide' (hBl.out.trans ((hB3.out.trans (hb5.mono hB3.out.size)).mono hBl.out.size))
      clear K1 hb5 hB3 hO hBl hbw x0 x1 x2 a0 a1 a2
      by_cases hkp : kpB R.S r = true
      · have hq : Hid (brN R.S F.rules (c + 1) = brN R.S F.rules c) := by show _ = _; rw [hN.out, if_pos hkp]
        rw [hkp]
        rw [← hq.out] at hnl hO5
        clear hN hkp
        go_wp2
        exact ⟨⟨c + 1, n, _, _, by omega, by omega, by go_num, rfl, hnl, hO5, hB5⟩, by simp [intOf]; omega⟩
      · have hq : Hid (cellsI (brN R.S F.rules c) ++ [.int .i64 (c : Int)] = cellsI (brN R.S F.rules (c + 1)) ∧ n + 1 = (brN R.S F.rules (c + 1)).length) := by
          show _ ∧ _
          rw [hN.out, if_neg hkp, cellsI_app1, List.length_append, ← hnl.out]
          exact ⟨rfl, rfl⟩
        rw [show kpB R.S r = false by simpa using hkp]
        clear hN hkp
        go_wp2_with (at_builtin; refine app1L elI rfl (.tmp 32) (.tmp 34) rfl w2.heap.size w5 (.slice o n cp) n (cellsI (brN R.S F.rules c)) [.int .i64 (c : Int)] rfl rfl hO5.out rfl (by simp [Value.oneCell']) hB5.out.size (by omega) ?_; intro g cap w6 hown hgr hnw; have hO6 := hide' hown; have hG := hide' hgr; clear hown hgr hnw)
        rw [hq.out.1] at hO6
        have hl2 := hide' hq.out.2
        have hB6 := hide' (hB5.out.grown hG.out hB5.out.size (fun _ e => own_ge' hO5.out e))
        exact ⟨⟨c + 1, n + 1, _, _, by omega, by omega, by go_num, rfl, hl2, hO6, hB6⟩, by simp [intOf]; omega⟩
    · obtain rfl : c = F.rules.length := by omega
      have hF := hide' (hE.out _ _ hbw.out (by have h9 := own_down hO.out hw2.out.size; rw [← hnl.out]; exact h9))
      clear hE hRu hRok hX2 hRS hO hBl hbw hK
      go_wp2
      exact hF.out
end Go.Proofs.YtahfobbiaimoiaaGreatDoor

/- AgendaSorts answers true for every two rows of numbers and every two numbers; it makes new memory alone. -/
import Derived.Test.YtfjdoioobbmkcaaGSortA
import Derived.Deep.QuietTactic
import Derived.BigQuiet
namespace Go.Proofs.Ytfjdoioobbmkcaa
open Go.RowKit Go.Maps
theorem drewB {w W : World} {B : Nat} (h : Below B w W) (n : Nat) : Hid (Below B w (W.drewN n)) := h.trans ⟨rfl, rfl, rfl, Nat.le_refl _, fun _ _ => rfl⟩
set_option maxRecDepth 100000 in
set_option maxHeartbeats 4000000 in
theorem agendaSorts_walk (LT LA : List Int) (now most : Int) (vt va : Value) (w : World) (rt : RowG w vt LT) (ra : RowG w va LA) :
    Calls Try.prog 5 #[.agg #[vt, va, .int .i64 now, .int .i64 most]] w fun e w' => e = .returned (.bool true) ∧ Below w.heap.size w w' := by
  obtain ⟨ot, ct, rfl, -⟩ := id rt
  obtain ⟨oA, cA, rfl, -⟩ := id ra
  have aT := hide' (argR rt).2
  have aA := hide' (argR ra).2
  clear rt ra
  generalize (fun i => LT.getD i 0) = T at *
  generalize (fun i => LA.getD i 0) = A at *
  generalize LT.length = lt at *
  generalize LA.length = la at *
  obtain ⟨N, hN⟩ : ∃ N, min lt 200 = N := ⟨_, rfl⟩
  have hN2 : N ≤ 200 := by omega
  have aT' : Hid (ArgR w ot T N) := aT.out.less (by omega)
  have hNl := hide' hN
  have hmk : ∀ W : World, (Instr.makeSlice 47 (.int .i64 (N : Int)) (.int .i64 (N : Int))).run Try.prog W = .ok (.slice (some ⟨W.heap.size, 0, none⟩) N N) (W.alloc (.cells (madeCells #[.int .i64 0] N) 3)) := fun W => makeI N hN2 W
  clear hN aT
  obtain ⟨d0, d1, d2, d3⟩ := alloc4 w (.slice ot lt ct) (.slice oA la cA) (.int .i64 now) (.int .i64 most) 49
  have hB0 := hide' ((Below.refl w.heap.size w).alloc (Nat.le_refl _) (.cells #[.slice ot lt ct, .slice oA la cA, .int .i64 now, .int .i64 most] 49)).drew
  generalize hW0 : w.alloc (.cells #[.slice ot lt ct, .slice oA la cA, .int .i64 now, .int .i64 most] 49) = W0 at *
  have hi0 : Hid (W0.drew.cell? ⟨w.heap.size, 0, none⟩ = some (.slice ot lt ct) ∧ W0.drew.cell? ⟨w.heap.size, 1, none⟩ = some (.slice oA la cA) ∧ W0.drew.cell? ⟨w.heap.size, 2, none⟩ = some (.int .i64 now) ∧ W0.drew.cell? ⟨w.heap.size, 3, none⟩ = some (.int .i64 most)) := ⟨d0, d1, d2, d3⟩
  go_enter Try.func5, Try.ntmps5
  go_wp2_with fail
  try rw [hW0]
  go_region_held3 (fun V => V.cell? ⟨w.heap.size, 0, none⟩ = some (.slice ot lt ct) ∧ V.cell? ⟨w.heap.size, 1, none⟩ = some (.slice oA la cA) ∧ V.cell? ⟨w.heap.size, 2, none⟩ = some (.int .i64 now) ∧ V.cell? ⟨w.heap.size, 3, none⟩ = some (.int .i64 most)) (exact hi0.out) (fail)
  clear d0 d1 d2 d3 hi0 hW0
  generalize W0.drew = W at *
  clear W0
  go_wp2_with fail
  refine (newA W).mono ?_
  rintro e w1 ⟨rfl, hA1, hb1⟩
  have hA1' := hide' hA1
  have hb1' := hide' hb1
  clear hA1 hb1
  go_wp2_with fail
  refine (wakes4 _).mono ?_
  rintro e w2 ⟨rfl, hb2⟩
  have hS0 : Hid (SrtI w (w2.alloc (.cells (madeCells #[.int .i64 0] N) 3)) (W.heap.size + 1) w2.heap.size N T (fun _ => 0) 0 0 (fun k => W.heap.size ≤ k ∧ k < W.heap.size + 2)) := srt_start hN2 hB0.out hA1'.out hb1'.out hb2
  clear hA1' hb1' hb2 hB0
  generalize W.heap.size + 1 = a at *
  generalize (fun k => W.heap.size ≤ k ∧ k < W.heap.size + 2) = F0 at *
  go_upto_if 41 with fail
  go_cut [8] from 40 to 41 (fun s wx => s = .int .i64 (N : Int) ∧ w2 = wx)
  case first =>
    as_aux_lemma =>
    have hm := hNl.out
    by_cases h : 200 < lt
    · have e : N = 200 := by omega
      clear hm
      subst e
      go_wp2
      go_meet
      exact ⟨rfl, rfl⟩
    · have e : N = lt := by omega
      have hd : decide ((200 : Int) < (lt : Int)) = false := by simp; omega
      clear hm
      go_wp2
      go_meet
      exact ⟨by rw [e], rfl⟩
  case rest =>
  as_aux_lemma =>
  obtain ⟨rfl, rfl⟩ := hcut
  generalize hgw : w2.heap.size = gw at *
  go_upto_block 0 with fail
  try rw [hgw]
  go_cut [10] (fun s wx => ∃ F Wf, Hid (SrtI w wx a gw N T Wf N N F))
  case first =>
    as_aux_lemma =>
    generalize w2.alloc (.cells (madeCells #[.int .i64 0] N) 3) = W2 at *
    go_wp2_with fail
    go_loopw [10] (fun k wr => ∃ (c : Nat) (F : Nat → Prop) (Wf : Nat → Nat), k = .int .i64 c ∧ c ≤ N ∧ Hid (SrtI w wr a gw N T Wf c c F)) (fun k _ => ((N : Int) - intOf k).toNat)
    case atStart => exact ⟨0, _, _, rfl, Nat.zero_le _, hS0⟩
    case round =>
      clear hS0
      obtain ⟨c, F, Wf, rfl, hcN, hI⟩ := hrel
      by_cases hlt : c < N
      · obtain ⟨g, o, rfl, hc⟩ := aT'.out wr hI.out.bel c hlt
        have KS := hide' (setA a c c F (SN T Wf c) (c : Int) (T c) (wfN c (by omega)) (by omega) wr hI.out.ag)
        have hnx : Hid (∀ w2 e, SetPost a c F (SN T Wf c) c (c : Int) (T c) wr e w2 → ∃ F2, SrtI w (w2.setCell ⟨gw, c, none⟩ (.int .i64 (c : Int))) a gw N T (updW Wf c c) (c + 1) (c + 1) F2 ∧ w2.ownsRow 0 3 1 (.slice (some ⟨gw, 0, none⟩) N N) N (cellsW Wf N)) := fun w2 e hP => hI.out.set (fun j => by omega) (.inr ⟨rfl, rfl⟩) hP
        have hcl : c < lt := by have := hNl.out; omega
        clear hI
        go_wp2_with (go_at_call 15; refine KS.out.mono ?_; intro e w3 hP; have he : e = .returned (.tuple #[]) := hP.1; have hq := hide' (hnx.out _ _ hP); clear hP; subst he; obtain ⟨F2, hI2, hrow2⟩ := hq.out; clear hq; have hI2' := hide' hI2; have c9 := hrow2.cellAt c (by omega); rw [cellsW_at _ hlt] at c9; have f9 := hrow2.frozenAt c; clear hI2 hrow2)
        exact ⟨⟨c + 1, F2, _, by go_num, by omega, hI2'⟩, by simp [intOf]; omega⟩
      · obtain rfl : c = N := by omega
        go_wp2
        go_meet
        exact ⟨F, Wf, hI⟩
  case rest =>
  as_aux_lemma =>
  clear hS0 hmk
  obtain ⟨F, Wf, hI⟩ := hcut
  go_upto_block 2 with fail
  go_cut [11, 12] (fun s s2 wx => ∃ F Wf sets, Hid (SrtI w wx a gw N T Wf N sets F))
  case first =>
    as_aux_lemma =>
    go_wp2_with fail
    go_loopw [11] (fun k wr => ∃ (c : Nat) (F : Nat → Prop) (Wf : Nat → Nat), k = .int .i64 c ∧ c ≤ 200 ∧ Hid (SrtI w wr a gw N T Wf N (N + c) F)) (fun k _ => ((200 : Int) - intOf k).toNat)
    case atStart => exact ⟨0, _, _, rfl, Nat.zero_le _, hI⟩
    case round =>
      clear hI
      obtain ⟨c, F, Wf, rfl, hc2, hI⟩ := hrel
      by_cases h1 : c < la
      · by_cases h2 : c < 200
        · by_cases h3 : 0 < N
          · obtain ⟨gA, oo, rfl, hcA⟩ := aA.out wr hI.out.bel c h1
            have hN0 : ((N : Int) == 0) = false := by simp; omega
            have hlo := tmod_lo (A c) N h3
            go_upto_region 18 with fail
            generalize (A c).tmod (N : Int) = r at *
            go_upto_if 81 with fail
            go_cut [12] (fun s wx => ∃ i : Nat, i < N ∧ s = .int .i64 (i : Int) ∧ wr = wx)
            case first =>
              as_aux_lemma =>
              by_cases hneg : r < 0
              · have hw : IntKind.i64.wrap (r + (N : Int)) = (((r + N).toNat : Nat) : Int) := by
                  simp only [IntKind.wrap, IntKind.bits, IntKind.signed]; simp; omega
                go_wp2
                go_meet
                exact ⟨(r + N).toNat, by omega, by go_num, rfl⟩
              · go_wp2
                go_meet
                exact ⟨r.toNat, by omega, by rw [Int.toNat_of_nonneg (by omega)], rfl⟩
            case rest =>
            as_aux_lemma =>
            obtain ⟨i, hi, rfl, rfl⟩ := hcut
            clear hlo hcA
            obtain ⟨g, o, rfl, hc⟩ := aT'.out wr hI.out.bel i hi
            have KS := hide' (setA a N (N + c) F (SN T Wf N) (i : Int) (T i) (wfN i (by omega)) (by omega) wr hI.out.ag)
            have hnx : Hid (∀ w2 e, SetPost a N F (SN T Wf N) (N + c) (i : Int) (T i) wr e w2 → ∃ F2, SrtI w (w2.setCell ⟨gw, i, none⟩ (.int .i64 ((N : Int) + (c : Int)))) a gw N T (updW Wf i (N + c)) N (N + c + 1) F2 ∧ w2.ownsRow 0 3 1 (.slice (some ⟨gw, 0, none⟩) N N) N (cellsW Wf N)) := fun w2 e hP => by
              have h := hI.out.set (m' := N) (fun j => by omega) (.inl ⟨hi, rfl⟩) hP
              rwa [show ((N + c : Nat) : Int) = (N : Int) + (c : Int) from Int.natCast_add N c] at h
            have hil : i < lt := by have := hNl.out; omega
            clear hI
            go_wp2_with (go_at_call 15; refine KS.out.mono ?_; intro e w3 hP; have he : e = .returned (.tuple #[]) := hP.1; have hq := hide' (hnx.out _ _ hP); clear hP; subst he; obtain ⟨F2, hI2, hrow2⟩ := hq.out; clear hq; have hI2' := hide' hI2; have c9 := hrow2.cellAt i (by omega); rw [cellsW_at _ hi] at c9; have f9 := hrow2.frozenAt i; clear hI2 hrow2)
            exact ⟨⟨c + 1, F2, _, by go_num, by omega, hI2'⟩, by simp [intOf]; omega⟩
          · go_wp2
            go_meet
            exact ⟨F, Wf, _, hI⟩
        · go_wp2
          go_meet
          exact ⟨F, Wf, _, hI⟩
      · go_wp2
        go_meet
        exact ⟨F, Wf, _, hI⟩
  case rest =>
  as_aux_lemma =>
  clear hI F Wf
  obtain ⟨F, Wf, sets, hI⟩ := hcut
  obtain ⟨W5, rfl⟩ : ∃ x, x = wc := ⟨_, rfl⟩
  clear aA hgw
  go_upto_block 4 with fail
  go_cut [13, 14] (fun s s2 wx => s = .int .i64 ((dueN T now N : Nat) : Int) ∧ W5 = wx)
  case first =>
    as_aux_lemma =>
    go_wp2_with fail
    go_loopw [13, 14] (fun d k wr => ∃ (c : Nat), k = .int .i64 c ∧ d = .int .i64 ((dueN T now c : Nat) : Int) ∧ c ≤ N ∧ W5 = wr) (fun _ k _ => ((N : Int) - intOf k).toNat)
    case atStart => exact ⟨0, rfl, rfl, Nat.zero_le _, rfl⟩
    case round =>
      obtain ⟨c, rfl, rfl, hcN, rfl⟩ := hrel
      by_cases hlt : c < N
      · obtain ⟨g, o, rfl, hc⟩ := aT'.out W5 hI.out.bel c hlt
        have hcl : c < lt := by have := hNl.out; omega
        have hs := hide' (dueN_succ T now c)
        have hdl : dueN T now c ≤ 200 := by have := dueN_le T now c; omega
        by_cases hd : T c ≤ now
        · have hs2 : Hid (dueN T now (c + 1) = dueN T now c + 1) := by have := hs.out; rw [if_pos hd] at this; exact this
          clear hs hI
          generalize dueN T now c = d at *
          go_wp2
          exact ⟨⟨c + 1, by go_num, by rw [hs2.out]; go_num, by omega, trivial⟩, by simp [intOf]; omega⟩
        · have hs2 : Hid (dueN T now (c + 1) = dueN T now c) := by have := hs.out; rw [if_neg hd] at this; exact this
          clear hs hI
          generalize dueN T now c = d at *
          go_wp2
          exact ⟨⟨c + 1, by go_num, by rw [hs2.out], by omega, trivial⟩, by simp [intOf]; omega⟩
      · obtain rfl : c = N := by omega
        go_wp2
        go_meet
        exact ⟨rfl, rfl⟩
  case rest =>
  as_aux_lemma =>
  obtain ⟨rfl, rfl⟩ := hcut
  have KD := hide' (dueA a N sets F (SN T Wf N) now most W5 hI.out.ag)
  have KDo : Hid (∀ e W', DuePost a N F (SN T Wf N) sets now most W5 e W' → ∃ L S' F' n l oa cap, e = .returned (.slice oa l cap) ∧ DueI w W' a gw N (dueN T now N) l n T Wf now most S' L oa cap F' sets) := fun e W' hP => due_of hI.out hP
  generalize dueN T now N = D at *
  clear hI
  go_wp2_with fail
  refine KD.out.mono ?_
  intro e W6 hP
  obtain ⟨L, S', F', n, l, ol, cl, he, hX⟩ := KDo.out e W6 hP
  clear hP KD KDo
  subst he
  have hX' := hide' hX
  have hnum := hX.num
  have hwant := hide' hX.want
  clear hX
  have hsub : Hid ((N : Int) - (l : Int) = (n : Int)) := by show _ = _; omega
  have hl2 : l ≤ 200 := by omega
  have hnum' := hide' hnum
  clear hnum
  go_upto_if 118 with fail
  go_cut [16] from 116 to 119 (fun s wx => ∃ z : Int, s = .int .i64 z ∧ W6 = wx ∧ Hid (z = l ∨ (z < 0 ∧ l = 0)))
  case first =>
    as_aux_lemma =>
    have hw := hwant.out
    by_cases h : most < (D : Int)
    · have hq := hide' (hw.1 h)
      clear hw
      go_wp2
      go_meet
      exact ⟨most, rfl, rfl, hq⟩
    · have hq := hide' (hw.2 (by omega))
      clear hw
      go_wp2
      go_meet
      exact ⟨D, rfl, rfl, .inl (by rw [hq.out])⟩
  case rest =>
  as_aux_lemma =>
  obtain ⟨z, rfl, rfl, hz⟩ := hcut
  clear hwant
  go_upto_if 121 with fail
  go_cut [16] from 120 to 121 (fun s wx => s = .int .i64 (l : Int) ∧ W6 = wx)
  case first =>
    as_aux_lemma =>
    have hw := hz.out
    clear hz
    by_cases h : z < 0
    · obtain rfl : l = 0 := by omega
      clear hw
      go_wp2
      go_meet
      exact ⟨rfl, rfl⟩
    · have hzl : z = (l : Int) := by omega
      clear hw
      go_wp2
      go_meet
      exact ⟨by first | rfl | rw [hzl], rfl⟩
  case rest =>
  as_aux_lemma =>
  obtain ⟨rfl, rfl⟩ := hcut
  clear hz
  have hsub' := hsub.out
  have KL := hide' (fun W (hb : Below W6.heap.size W6 W) => lenA a n sets F' S' W (hX'.out.ag.below hb))
  go_upto_block 6 with (go_at_call 17; refine (KL.out _ (Below.refl _ _)).mono ?_; rintro e w7 ⟨rfl, hw7⟩; obtain rfl : W6 = w7 := hw7.symm)
  clear KL hsub'
  go_cut [17, 18, 19] (fun s1 s2 s3 wx => Hid (Below W6.heap.size W6 wx))
  case first =>
    as_aux_lemma =>
    go_wp2_with fail
    go_loopw [17] (fun k wr => ∃ (c : Nat), k = .int .i64 c ∧ c ≤ l ∧ Hid (Below W6.heap.size W6 wr)) (fun k _ => ((l : Int) - intOf k).toNat)
    case atStart => exact ⟨0, rfl, Nat.zero_le _, Below.refl _ _⟩
    case round =>
      obtain ⟨c, rfl, hcl, hB⟩ := hrel
      by_cases hlt : c < l
      · obtain ⟨x, hx⟩ : ∃ x, L[c]? = some x := ⟨_, List.getElem?_eq_getElem (by rw [hX'.out.ll]; exact hlt)⟩
        obtain ⟨i, ax⟩ := taken_at hX'.out.taken hx
        have hxid : x.id = (i : Int) := by rw [ax.eq]
        have hbw := hX'.out.bel.trans (hB.out.mono hX'.out.bel.size)
        obtain ⟨gl, rfl, hcl1⟩ := hX'.out.row c x hx
        have d1 := hcl1 wr (fun k hk => hB.out.block k hk)
        rw [hxid] at d1
        obtain ⟨g, o, rfl, d2⟩ := aT'.out wr hbw i ax.lt
        have KA := hide' (atNo a n sets F' S' (i : Int) (wfN i (by have := ax.lt; omega)) ax.out wr (hX'.out.ag.below hB.out))
        have hiN := ax.lt
        have hil : i < lt := by have := hNl.out; omega
        have hdue : decide (now < T i) = false := by have := ax.due; simp; omega
        have hdn : Hid (Below W6.heap.size W6 wr.drew) := hB.out.drew
        have hcl' : Hid (wr.drew.cell? ⟨gl, c, none⟩ = some (.int .i64 (i : Int)) ∧ wr.drew.cell? ⟨g, o + i, none⟩ = some (.int .i64 (T i))) := ⟨d1, d2⟩
        have hax := hide' ax
        have hx' := hide' hx
        clear hcl1 hxid hbw ax hx hsub
        by_cases hc0 : c = 0
        · subst hc0
          clear hcl' hX' hax hx' hnum'
          go_upto_region 44 with (go_at_call 18; refine KA.out.mono ?_; rintro e w8 ⟨rfl, hw8⟩; obtain rfl : wr = w8 := hw8.symm)
          go_quiet (fail)
          go_wp2
          exact ⟨⟨1, by go_num, by omega, drewB hB.out _⟩, by simp [intOf]; omega⟩
        · obtain ⟨c0, hcc⟩ : ∃ c0, c = c0 + 1 := ⟨c - 1, by omega⟩
          obtain ⟨y, hy⟩ : ∃ y, L[c0]? = some y := ⟨_, List.getElem?_eq_getElem (by rw [hX'.out.ll]; omega)⟩
          obtain ⟨j, ay⟩ := taken_at hX'.out.taken hy
          have hyid : y.id = (j : Int) := by rw [ay.eq]
          obtain ⟨gl', e1, hcl1⟩ := hX'.out.row c0 y hy
          cases e1
          have d3 := hcl1 wr (fun k hk => hB.out.block k hk)
          rw [hyid] at d3
          obtain ⟨g', o', e2, d4⟩ := aT'.out wr (hX'.out.bel.trans (hB.out.mono hX'.out.bel.size)) j ay.lt
          cases e2
          have d5 := hX'.out.whn i hiN wr (fun k hk => hB.out.block k hk)
          have d6 := hX'.out.whn j ay.lt wr (fun k hk => hB.out.block k hk)
          have hpr := hX'.out.pair c0 y x i j hy (by rw [← hcc]; exact hx'.out) ay hax.out
          have hjN := ay.lt
          have hjl : j < lt := by have := hNl.out; omega
          have hp1 : (c : Int) - 1 = (c0 : Int) := by omega
          have hc00 : c0 < l := by omega
          have g0 : decide ((0 : Int) < (c : Int)) = true := by simp; omega
          have n1 : (c : Int) < (l : Int) := by omega
          have n2 : (c0 : Int) < (l : Int) := by omega
          have n3 : (i : Int) < (lt : Int) := by omega
          have n4 : (j : Int) < (lt : Int) := by omega
          have n5 : (i : Int) < (N : Int) := by omega
          have n6 : (j : Int) < (N : Int) := by omega
          clear hcl' hX' hax hx' hnum' hcl1 hyid hy ay hcc
          have hcp : 0 < c := by omega
          rcases hpr with hpr | ⟨hpr, hpw⟩
          · have q1 : decide (T i < T j) = false := by simp; omega
            have q2 : (T j == T i) = false := by simp; omega
            go_upto_region 44 with (go_at_call 18; refine KA.out.mono ?_; rintro e w8 ⟨rfl, hw8⟩; obtain rfl : wr = w8 := hw8.symm)
            go_quiet (fail)
            go_wp2
            exact ⟨⟨c + 1, by go_num, by omega, drewB hB.out _⟩, by simp [intOf]; omega⟩
          · have q1 : decide (T i < T j) = false := by simp; omega
            have q2 : (T j == T i) = true := by simp; omega
            have q3 : decide (((Wf i : Nat) : Int) ≤ ((Wf j : Nat) : Int)) = false := by simp; omega
            have q4 : decide (Wf i ≤ Wf j) = false := by simp; omega
            clear hpr hpw
            go_upto_region 44 with (go_at_call 18; refine KA.out.mono ?_; rintro e w8 ⟨rfl, hw8⟩; obtain rfl : wr = w8 := hw8.symm)
            go_quiet (fail)
            go_wp2
            exact ⟨⟨c + 1, by go_num, by omega, drewB hB.out _⟩, by simp [intOf]; omega⟩
      · obtain rfl : c = l := by omega
        go_wp2
        go_meet
        exact hB
  case rest =>
  as_aux_lemma =>
  have hB := hcut
  clear hcut
  obtain ⟨W7, rfl⟩ : ∃ x, x = wc := ⟨_, rfl⟩
  have hA7 := hide' (hX'.out.ag.below hB.out)
  have hbw := hX'.out.bel.trans (hB.out.mono hX'.out.bel.size)
  have hbw' := hide' hbw
  have hend : Hid (∀ W8, Below W7.heap.size W7 W8 → Below w.heap.size w W8) := fun W8 h => hbw'.out.trans (h.mono hbw'.out.size)
  have hnum := hnum'.out
  by_cases hD : l < D
  · have hn0 : 0 < n := by omega
    obtain ⟨x, hx⟩ := first_of hA7.out hn0
    obtain ⟨i, hi, ex⟩ := hX'.out.taken.sub.1 x hx.1
    have KF := firstYes a n sets F' S' hn0 x hx W7 hA7.out
    have hxS := hx.1
    rw [show x.id = (i : Int) by rw [ex], show x.tm = T i by rw [ex]] at KF
    have KF' := hide' KF
    clear KF hx
    obtain ⟨g, o, rfl, d1⟩ := aT'.out W7 hbw i hi
    have hil : i < lt := by have := hNl.out; omega
    have n3 : (i : Int) < (lt : Int) := by omega
    have n5 : (i : Int) < (N : Int) := by omega
    have m1 : (l : Int) < (D : Int) := by omega
    by_cases hl0 : l = 0
    · have g0 : ((l : Int) == 0) = true := by simp [hl0]
      clear hX' hnum hnum' hA7 hbw hbw' hB hl0 ex hsub hxS
      go_upto_region 48 with (go_at_call 19; refine KF'.out.mono ?_; rintro e w8 ⟨rfl, hb8⟩; have hb8' := hide' hb8; have c1 := cell_over d1 hb8; clear hb8)
      simp only [List.append_eq, List.cons_append, List.nil_append]
      go_quiet (fail)
      go_wp2
      go_ret
      exact ⟨rfl, (drewB (hend.out _ hb8'.out) _).out⟩
    · obtain ⟨c0, hcc⟩ : ∃ c0, c0 + 1 = l := ⟨l - 1, by omega⟩
      obtain ⟨y, hy⟩ : ∃ y, L[c0]? = some y := ⟨_, List.getElem?_eq_getElem (by rw [hX'.out.ll]; omega)⟩
      obtain ⟨j, ay⟩ := taken_at hX'.out.taken hy
      have hyid : y.id = (j : Int) := by rw [ay.eq]
      obtain ⟨gl, rfl, hcl1⟩ := hX'.out.row c0 y hy
      have d3 := hcl1 W7 (fun k hk => hB.out.block k hk)
      rw [hyid] at d3
      obtain ⟨g', o', e2, d4⟩ := aT'.out W7 hbw j ay.lt
      cases e2
      have d5 := hX'.out.whn i hi W7 (fun k hk => hB.out.block k hk)
      have d6 := hX'.out.whn j ay.lt W7 (fun k hk => hB.out.block k hk)
      have hpr := hX'.out.last c0 y x i j hy hcc ay hxS hi ex
      have hjN := ay.lt
      have hjl : j < lt := by have := hNl.out; omega
      have hp1 : (l : Int) - 1 = (c0 : Int) := by omega
      have g0 : ((l : Int) == 0) = false := by simp; omega
      have n2 : (c0 : Int) < (l : Int) := by omega
      have n4 : (j : Int) < (lt : Int) := by omega
      have n6 : (j : Int) < (N : Int) := by omega
      clear hX' hnum hnum' hA7 hbw hbw' hB hl0 ex hsub hxS hcl1 hyid hy ay hcc
      rcases hpr with hpr | ⟨hpr, hpw⟩
      · have q1 : decide (T j < T i) = true := by simp; omega
        clear hpr
        go_upto_region 48 with (go_at_call 19; refine KF'.out.mono ?_; rintro e w8 ⟨rfl, hb8⟩; have hb8' := hide' hb8; have c1 := cell_over d1 hb8; have c3 := cell_over d3 hb8; have c4 := cell_over d4 hb8; have c5 := cell_over d5 hb8; have c6 := cell_over d6 hb8; clear hb8)
        simp only [List.append_eq, List.cons_append, List.nil_append]
        go_quiet (fail)
        go_wp2
        go_ret
        exact ⟨rfl, (drewB (hend.out _ hb8'.out) _).out⟩
      · have q1 : decide (T j < T i) = false := by simp; omega
        have q2 : (T i == T j) = true := by simp; omega
        have q3 : decide (((Wf j : Nat) : Int) < ((Wf i : Nat) : Int)) = true := by simp; omega
        have q4 : decide (Wf j < Wf i) = true := by simp; omega
        clear hpr hpw
        go_upto_region 48 with (go_at_call 19; refine KF'.out.mono ?_; rintro e w8 ⟨rfl, hb8⟩; have hb8' := hide' hb8; have c1 := cell_over d1 hb8; have c3 := cell_over d3 hb8; have c4 := cell_over d4 hb8; have c5 := cell_over d5 hb8; have c6 := cell_over d6 hb8; clear hb8)
        simp only [List.append_eq, List.cons_append, List.nil_append]
        go_quiet (fail)
        go_wp2
        go_ret
        exact ⟨rfl, (drewB (hend.out _ hb8'.out) _).out⟩
  · have m1 : decide ((l : Int) < (D : Int)) = false := by simp; omega
    have m2 : decide (l < D) = false := by simp; omega
    by_cases hn0 : n = 0
    · subst hn0
      have KF' := hide' (firstNo a sets F' S' W7 hA7.out)
      have g0 : ((N : Int) == (l : Int)) = true := by simp; omega
      clear hX' hnum hnum' hA7 hbw hbw' hB hsub
      go_wp2_with (go_at_call 19; refine KF'.out.mono ?_; rintro e w8 ⟨rfl, hb8⟩; have hb8' := hide' hb8; clear hb8)
      go_ret
      exact ⟨rfl, hend.out _ hb8'.out⟩
    · obtain ⟨x, hx⟩ := first_of hA7.out (by omega)
      have KF' := hide' (firstYes a n sets F' S' (by omega) x hx W7 hA7.out)
      have g0 : decide (now < x.tm) = true := by have := hX'.out.rest (by omega) x hx.1; simp; omega
      clear hX' hnum hnum' hA7 hbw hbw' hB hsub hx
      generalize x.tm = xt at *
      generalize x.id = xi at *
      go_wp2_with (go_at_call 19; refine KF'.out.mono ?_; rintro e w8 ⟨rfl, hb8⟩; have hb8' := hide' hb8; clear hb8)
      go_ret
      exact ⟨rfl, hend.out _ hb8'.out⟩
end Go.Proofs.Ytfjdoioobbmkcaa

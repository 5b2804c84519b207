/- The law RankGoes: walked. -/
import Derived.Test.YtegpgjiccpglbaaDoorYGoesM
import Derived.Test.YtegpgjiccpglbaaDoorYPairs
import Derived.Test.YtegpgjiccpglbaaDoorYOps
import Derived.Test.YtegpgjiccpglbaaDoorYLinks
import Derived.Test.YtegpgjiccpglbaaDoorYWake
import Derived.Deep.CutBlock
import Derived.Deep.CutRange
namespace Go.Proofs.YtegpgjiccpglbaaDoor
open Go.RowKit
theorem keepG {W W' : World} {g b x y : Nat} {u v : Value} (h : W.cell? ⟨g, x, none⟩ = some u ∧ W.cell? ⟨g, y, none⟩ = some v) (hg : W.grownBy W' (some b)) (hne : g ≠ b) : W'.cell? ⟨g, x, none⟩ = some u ∧ W'.cell? ⟨g, y, none⟩ = some v :=
  ⟨hg.cell h.1 (by simpa using hne), hg.cell h.2 (by simpa using hne)⟩
theorem ov_parts {J : Nat → Nat} {x y : Int} (h : ovC J x y = 0) : okA x = true ∧ okA y = true ∧ hasJ J x y = false := by
  unfold ovC at h
  cases hx : okA x <;> cases hy : okA y <;> cases hh : hasJ J x y <;> simp [hx, hy, hh] at h ⊢
/-- A link that is laid, and what is told of it. -/
theorem goes_ok {J : Nat → Nat} (hw : Wf J) {x y : Int} (h : ovC J x y = 0) : hasJ (ovJ J x y) x y = true ∧ (lks (ovJ J x y)).length = (lks J).length + 1 ∧ ovC (ovJ J x y) x y = 5 ∧ ovJ (ovJ J x y) x y = ovJ J x y ∧ cuC (ovJ J x y) x y = 0 ∧ cuC (cuJ (ovJ J x y) x y) x y = 26 ∧ cuJ (cuJ (ovJ J x y) x y) x y = cuJ (ovJ J x y) x y ∧ ∀ k, k < 64 → cuJ (ovJ J x y) x y k = J k := by
  obtain ⟨hx, hy, hh⟩ := ov_parts h
  have e1 : ovJ J x y = lay J x.toNat y.toNat := by unfold ovJ; rw [if_pos h]
  obtain ⟨i, hi, rfl⟩ := okA_nat hx
  obtain ⟨j, hj, rfl⟩ := okA_nat hy
  rw [Int.toNat_natCast, Int.toNat_natCast] at e1
  rw [hasJ_nat hi hj] at hh
  rw [e1]
  have t1 : hasJ (lay J i j) (i : Int) (j : Int) = true := by
    rw [hasJ_nat hi hj]
    have : lay J i j i = J i ||| 2 ^ j := by simp [lay, putJ]
    rw [this, Nat.testBit_or, Nat.testBit_two_pow]; simp
  have t2 : ovC (lay J i j) (i : Int) (j : Int) = 5 := by unfold ovC; rw [hx, hy, t1]; rfl
  have t3 : cuJ (lay J i j) (i : Int) (j : Int) = cutJ (lay J i j) i j := by unfold cuJ; rw [t1, if_pos rfl, Int.toNat_natCast, Int.toNat_natCast]
  have t4 : ∀ k, k < 64 → cutJ (lay J i j) i j k = J k := lay_cut hw hi hj hh
  have t5 : hasJ (cutJ (lay J i j) i j) (i : Int) (j : Int) = false := by rw [hasJ_nat hi hj, t4 i hi, hh]
  refine ⟨t1, lks_lay hi hj hh, t2, by unfold ovJ; rw [t2, if_neg (by decide)], by unfold cuC; rw [hx, hy, t1]; rfl, ?_, ?_, ?_⟩
  · rw [t3]; unfold cuC; rw [hx, hy, t5]; rfl
  · rw [t3]; unfold cuJ; rw [t5, if_neg (by simp)]
  · rw [t3]; exact t4
theorem PairsAt.grown {W W' : World} {v : Value} {L : List (Int × Int)} {b : Nat} (h : PairsAt W v L) (hv : v.ownBlock ≠ some b) (hg : W.grownBy W' (some b)) : PairsAt W' v L := by
  obtain ⟨oa, cap, rfl, h2, h3⟩ := h
  refine ⟨oa, cap, rfl, h2, fun i p hp => ?_⟩
  obtain ⟨g, o, rfl, c1, c2⟩ := h3 i p hp
  have hne : some g ≠ some b := hv
  exact ⟨g, o, rfl, hg.cell c1 hne, hg.cell c2 hne⟩
/-- The links so far that touch x, and those that don't. -/
theorem tch_take {M : List (Int × Int)} {c : Nat} {p : Int × Int} (x : Int) (h : M[c]? = some p) :
    (M.take (c + 1)).countP (tch x) = (M.take c).countP (tch x) + (if tch x p then 1 else 0) ∧ (M.take (c + 1)).filter (fun p => !tch x p) = (M.take c).filter (fun p => !tch x p) ++ (if tch x p then [] else [p]) := by
  rw [List.take_add_one, h]
  constructor
  · rw [List.countP_append]; simp [List.countP_cons]
  · rw [List.filter_append]; cases ht : tch x p <;> simp [ht]
set_option maxRecDepth 100000 in
set_option maxHeartbeats 20000000 in
theorem rankGoes_walk (L : List OpT) (v : Value) (x y : Int) (w : World) (hr : RowOp w v L) (ht : Tab w) : Calls Tryd.prog 6 #[v, .int .i64 x, .int .i64 y] w fun e w' => e = .returned (.bool true) ∧ Below w.heap.size w w' := by
  have KN := hide' (newR w ht)
  obtain ⟨oa, cap, rfl, hcap, hrow⟩ := hr
  have hrow' := hide' hrow
  clear hrow
  go_enter Tryd.func6, Tryd.ntmps6
  go_wp2_with fail
  refine KN.out.mono ?_
  rintro e w1 ⟨rfl, hr1, hb1⟩
  have KW := hide' (wakes w1 hr1.tab)
  have hR1 := hide' hr1
  have hB1 := hide' hb1
  clear hr1 hb1 KN
  go_wp2_with fail
  refine KW.out.mono ?_
  rintro e w2 ⟨rfl, hb2⟩
  have hR2 := hide' (hR1.out.over hb2)
  have hB2 := hide' (hB1.out.trans (hb2.mono hB1.out.size))
  clear hR1 hB1 hb2 KW
  have hrw : Hid (∀ V, Below w.heap.size w V → ∀ (i : Nat) (p : OpT), L[i]? = some p → ∃ g o, oa = some ⟨g, o, none⟩ ∧ g < w.heap.size ∧ V.cell? ⟨g, o + i * 5 + 2, none⟩ = some (.int .i64 p.a) ∧ V.cell? ⟨g, o + i * 5 + 3, none⟩ = some (.int .i64 p.b)) := fun V hV i p hp => by
    obtain ⟨⟨g, o, e, c0, c1, c2, c3, c4⟩, _⟩ := hrow'.out i p hp
    exact ⟨g, o, e, cell_lt c0, cell_over c2 hV, cell_over c3 hV⟩
  clear hrow'
  generalize hbb : w.heap.size = b at *
  go_upto_block 0 with fail
  go_cut [8] from 21 to 42 (fun s wx => ∃ J, Hid (RkAt wx b J) ∧ Hid (Below b w wx))
  case first =>
    as_aux_lemma =>
    go_wp2_with fail
    go_loopw [8] (fun k wr => ∃ (c : Nat) (J : Nat → Nat), k = .int .i64 c ∧ c ≤ L.length ∧ Hid (RkAt wr b J) ∧ Hid (Below b w wr)) (fun k _ => ((L.length : Int) - intOf k).toNat)
    case atStart => exact ⟨0, noJ, rfl, Nat.zero_le _, hR2, hB2⟩
    case round =>
      clear hR2 hB2 ht
      obtain ⟨c, J, rfl, hc, hR, hB⟩ := hrel
      by_cases h1 : c < L.length
      · by_cases h2 : c < 120
        · obtain ⟨p, hp⟩ : ∃ p, L[c]? = some p := ⟨_, List.getElem?_eq_getElem h1⟩
          obtain ⟨g, o, rfl, hgb, c2, c3⟩ := hrw.out wr hB.out c p hp
          have hne : Hid (g ≠ b) := by show _ ≠ _; omega
          have hnx : Hid (∀ V, wr.grownBy V (some b) → Below b w V) := fun V hV => hB.out.grown hV (Nat.le_of_lt hR.out.lt) (by intro k e; cases e; exact Nat.le_refl _)
          have KO' : Hid (Calls Tryd.prog 10 #[.pointer (some ⟨b, 0, none⟩), .int .i64 p.a, .int .i64 p.b] wr.drew fun e w' => e = .returned (.int .i64 (ovC J p.a p.b)) ∧ RkAt w' b (ovJ J p.a p.b) ∧ wr.grownBy w' (some b)) := (over hR.out.drew p.a p.b).mono fun _ _ ⟨h1, h2, h3⟩ => ⟨h1, h2, grown_trans (grown_below _ (Below.refl _ _).drew) h3⟩
          have hS : Hid (wr.drew.cell? ⟨g, o + c * 5 + 2, none⟩ = some (.int .i64 p.a) ∧ wr.drew.cell? ⟨g, o + c * 5 + 3, none⟩ = some (.int .i64 p.b)) := ⟨c2, c3⟩
          clear hp hcap hrw
          generalize p.a = pa at *
          generalize p.b = pb at *
          go_wp2
          go_region_held3 (fun V => V.cell? ⟨g, o + c * 5 + 2, none⟩ = some (.int .i64 pa) ∧ V.cell? ⟨g, o + c * 5 + 3, none⟩ = some (.int .i64 pb)) (first | assumption | (exact hS.out) | (exact keepG (W := wr) hS.out (by assumption) hne.out)) (first | (go_at_call 10; refine KO'.out.mono ?_; rintro e w3 ⟨rfl, hr3, hg3⟩; have hR3 := hide' hr3; have hB3 := hide' (hnx.out _ hg3)))
          go_wp2
          exact ⟨⟨c + 1, _, by go_num, by omega, hR3, hB3⟩, by simp [intOf]; omega⟩
        · go_wp2
          go_meet
          exact ⟨J, hR, hB⟩
      · go_wp2
        go_meet
        exact ⟨J, hR, hB⟩
  case rest =>
  as_aux_lemma =>
  clear hR2 hB2 hrw hcap
  obtain ⟨J, hR, hB⟩ := hcut
  have KL := hide' (linksR hR.out)
  go_wp2_with fail
  refine KL.out.mono ?_
  rintro e w3 ⟨v3, rfl, hown3, hb3⟩
  obtain ⟨o3, cap3, rfl⟩ := owns_shape hown3
  have hb3' : Hid (Below b w w3) := hB.out.trans (hb3.mono (Nat.le_of_lt hR.out.lt))
  have hR3 := hide' (hR.out.over hb3)
  have hob : (Value.slice o3 (lks J).length cap3).ownBlock ≠ some b := fun e => by
    have := owns_ge hown3 b e
    have := hR.out.lt
    omega
  have hP3 : Hid (∀ V, w3.grownBy V (some b) → PairsAt V (.slice o3 (lks J).length cap3) (lks J)) := fun V hV => (PairsAt.of_owns hown3).grown hob hV
  have hpc : Hid (∀ V, w3.grownBy V (some b) → ∀ (i : Nat) (p : Int × Int), (lks J)[i]? = some p → ∃ g o, o3 = some ⟨g, o, none⟩ ∧ V.cell? ⟨g, o + i * 2, none⟩ = some (.int .i64 p.1) ∧ V.cell? ⟨g, o + i * 2 + 1, none⟩ = some (.int .i64 p.2)) := fun V hV i p hp => by
    obtain ⟨oa', cap', e, _, h⟩ := hP3.out V hV
    cases e
    exact h i p hp
  have hlen := lks_len J
  have hwf := hide' hR.out.wf
  have hgo := hide' (fun h => goes_ok hR.out.wf (x := x) (y := y) h)
  have hdl := hide' (drop_links hR.out.wf x)
  clear hown3 hb3 hR hB KL hob
  generalize hM : lks J = M at *
  have hM' := hide' hM
  clear hM
  generalize hm : M.length = m at *
  have hm' := hide' hm
  clear hm
  have KO := hide' (over hR3.out x y)
  go_wp2_with fail
  refine KO.out.mono ?_
  rintro e w4 ⟨rfl, hr4, hg4⟩
  have hR4 := hide' hr4
  have hG4 := hide' hg4
  clear hr4 hg4 KO hR3
  generalize hec : ovC J x y = ec at *
  have hec' := hide' hec
  clear hec
  go_upto_if 50 with fail
  go_cut [6] from 49 to 85 (fun s wx => Hid (RkAt wx b J) ∧ Hid (w3.grownBy wx (some b)))
  case first =>
    as_aux_lemma =>
    by_cases h0 : ec = 0
    · have hgo1 := hgo.out h0
      obtain ⟨q1, q2, q3, q4, q5, q6, q7, q8⟩ := hgo1
      have q8' := hide' q8
      have h0' : (ec == 0) = true := by simpa using h0
      have KH := has hR4.out x y
      rw [q1] at KH
      have KH' := hide' KH
      have KL := linksR hR4.out
      have q2' := hide' q2
      have K5 : Hid (∀ V, RkAt V b (ovJ J x y) → Calls Tryd.prog 10 #[.pointer (some ⟨b, 0, none⟩), .int .i64 x, .int .i64 y] V fun e w' => e = .returned (.int .i64 5) ∧ RkAt w' b (ovJ J x y) ∧ V.grownBy w' (some b)) := fun V hV => by
        have := over hV x y
        rwa [q3, q4] at this
      have K0 : Hid (∀ V, RkAt V b (ovJ J x y) → Calls Tryd.prog 11 #[.pointer (some ⟨b, 0, none⟩), .int .i64 x, .int .i64 y] V fun e w' => e = .returned (.int .i64 0) ∧ RkAt w' b (cuJ (ovJ J x y) x y) ∧ V.grownBy w' (some b)) := fun V hV => by
        have := cutR hV x y
        rwa [q5] at this
      have K26 : Hid (∀ V, RkAt V b (cuJ (ovJ J x y) x y) → Calls Tryd.prog 11 #[.pointer (some ⟨b, 0, none⟩), .int .i64 x, .int .i64 y] V fun e w' => e = .returned (.int .i64 26) ∧ RkAt w' b (cuJ (ovJ J x y) x y) ∧ V.grownBy w' (some b)) := fun V hV => by
        have := cutR hV x y
        rwa [q6, q7] at this
      have KL' : Hid (Calls Tryd.prog 13 #[.pointer (some ⟨b, 0, none⟩)] w4 fun e w' => ∃ o c, e = .returned (.slice o (m + 1) c) ∧ Below w4.heap.size w4 w') := KL.mono fun e w' ⟨v, h1, h2, h3⟩ => by
        obtain ⟨o, c, rfl⟩ := owns_shape h2
        rw [q2] at h1
        exact ⟨o, c, h1, h3⟩
      clear q1 q2 q3 q4 q5 q6 q7 q8 KL KH h0 hgo hdl hpc hP3
      go_wp2_with fail
      refine KH'.out.mono ?_
      rintro e w5 ⟨rfl, hw5⟩
      obtain rfl : w4 = w5 := hw5.symm
      go_wp2_with fail
      refine KL'.out.mono ?_
      rintro e w6 ⟨o6, c6, rfl, hb6⟩
      have hR6 := hide' (hR4.out.over hb6)
      have hG6 := hide' (grown_trans hG4.out (grown_below (some b) hb6))
      clear hb6 hw5 hR4 hG4
      go_wp2_with fail
      refine (K5.out _ hR6.out).mono ?_
      rintro e w7 ⟨rfl, hr7, hg7⟩
      have hR7 := hide' hr7
      have hG7 := hide' (grown_trans hG6.out hg7)
      clear hr7 hg7 hR6 hG6
      go_wp2_with fail
      refine (K0.out _ hR7.out).mono ?_
      rintro e w8 ⟨rfl, hr8, hg8⟩
      have hR8 := hide' hr8
      have hG8 := hide' (grown_trans hG7.out hg8)
      clear hr8 hg8 hR7 hG7
      go_wp2_with fail
      refine (K26.out _ hR8.out).mono ?_
      rintro e w9 ⟨rfl, hr9, hg9⟩
      have hR9 := hide' (hr9.congr q8'.out)
      have hG9 := hide' (grown_trans hG8.out hg9)
      clear hr9 hg9 hR8 hG8
      go_wp2
      go_meet
      exact ⟨hR9, hG9⟩
    · have h0' : (ec == 0) = false := by simpa using h0
      have e : ovJ J x y = J := by unfold ovJ; rw [hec'.out, if_neg h0]
      rw [e] at hR4
      clear h0 e
      go_wp2
      go_meet
      exact ⟨hR4, hG4⟩
  case rest =>
  as_aux_lemma =>
  obtain ⟨hR5, hG5⟩ := hcut
  clear hR4 hG4 hgo
  have KE := hide' (fun V va vb (ha : PairsAt V va M) (hb : PairsAt V vb M) => keepPairsT M va vb V ha hb (by have := hm'.out; omega))
  have KL := linksR hR5.out
  rw [hM'.out] at KL
  have KL' := hide' KL
  clear KL
  go_wp2_with fail
  refine KL'.out.mono ?_
  rintro e w5 ⟨v5, rfl, hown5, hb5⟩
  have hP5 := hide' (PairsAt.of_owns hown5)
  have hR6 := hide' (hR5.out.over hb5)
  have hG6 := hide' (grown_trans hG5.out (grown_below (some b) hb5))
  clear hown5 hb5 hR5 hG5 KL'
  have KE5 := hide' (KE.out _ _ _ hP5.out (hP3.out _ hG6.out))
  go_wp2_with fail
  refine KE5.out.mono ?_
  rintro e W6 ⟨rfl, hb6⟩
  have hR7 := hide' (hR6.out.over hb6)
  have hG7 := hide' (grown_trans hG6.out (grown_below (some b) hb6))
  clear hb6 hR6 hG6 hP5 KE5 hP3
  obtain ⟨i0, hi, hz0, hz1, hz2⟩ := info_q infoP
  go_upto_block 2 with fail
  go_cut [11, 12, 13] from 91 to 121 (fun s11 s12 s13 wx => s11 = .int .i64 (M.countP (tch x) : Int) ∧ Hid (wx.ownsRow W6.heap.size 42 2 s12 (M.filter (fun p => !tch x p)).length (cellsP (M.filter (fun p => !tch x p)))) ∧ Hid (Below W6.heap.size W6 wx))
  case first =>
    as_aux_lemma =>
    go_wp2_with fail
    go_loopw [11, 12, 13] (fun n v k wr => ∃ c : Nat, k = .int .i64 c ∧ c ≤ m ∧ n = .int .i64 ((M.take c).countP (tch x) : Int) ∧ Hid (wr.ownsRow W6.heap.size 42 2 v ((M.take c).filter (fun p => !tch x p)).length (cellsP ((M.take c).filter (fun p => !tch x p)))) ∧ Hid (Below W6.heap.size W6 wr)) (fun _ _ k _ => ((m : Int) - intOf k).toNat)
    case atStart => exact ⟨0, rfl, Nat.zero_le _, rfl, World.ownsRow_nil _ _ _ _, Below.refl _ _⟩
    case round =>
      obtain ⟨c, rfl, hc, rfl, hrow, hB⟩ := hrel
      obtain ⟨oa2, cap2, hv2⟩ := owns_shape hrow.out
      subst hv2
      by_cases hlt : c < m
      · obtain ⟨p, hp⟩ : ∃ p, M[c]? = some p := ⟨_, List.getElem?_eq_getElem (by have := hm'.out; omega)⟩
        obtain ⟨ht1, ht2⟩ := tch_take x hp
        obtain ⟨g, o, rfl, c1, c2⟩ := hpc.out wr (grown_trans hG7.out (grown_below _ hB.out)) c p hp
        have hcl : (M.take c).countP (tch x) ≤ 4096 := Nat.le_trans (List.countP_le_length) (by have := hm'.out; rw [List.length_take]; omega)
        have hfl : ((M.take c).filter (fun p => !tch x p)).length ≤ 4096 := Nat.le_trans (List.length_filter_le _ _) (by have := hm'.out; rw [List.length_take]; omega)
        have ht2' := hide' ht2
        have ht1' := hide' ht1
        clear hp hpc hdl hR7 hG7 KE ht1 ht2
        obtain ⟨px, py⟩ := p
        simp only [] at c1 c2
        have hsz := hB.out.size
        generalize hnn : (M.take c).countP (tch x) = n at *
        generalize hF : (M.take c).filter (fun p => !tch x p) = F at *
        have hF' := hide' hF
        clear hF hnn
        cases ht : tch x (px, py) with
        | true =>
          rw [ht, if_pos rfl] at ht1' ht2'
          rw [List.append_nil] at ht2'
          have hrow2 : Hid (wr.ownsRow W6.heap.size 42 2 (.slice oa2 F.length cap2) ((M.take (c + 1)).filter (fun p => !tch x p)).length (cellsP ((M.take (c + 1)).filter (fun p => !tch x p)))) := by
            show World.ownsRow _ _ _ _ _ _ _
            rw [ht2'.out]; exact hrow.out
          unfold tch at ht
          clear hrow ht2'
          by_cases hpx : px = x
          · have f1 : (px == x) = true := by simpa using hpx
            clear ht hpx
            as_aux_lemma =>
            go_wp2
            exact ⟨⟨c + 1, by go_num, by omega, by rw [ht1'.out]; go_num, hrow2, hB⟩, by simp [intOf]; omega⟩
          · have f1 : (px == x) = false := by simpa using hpx
            have f2 : (py == x) = true := by simpa [hpx] using ht
            clear ht hpx
            as_aux_lemma =>
            go_wp2
            exact ⟨⟨c + 1, by go_num, by omega, by rw [ht1'.out]; go_num, hrow2, hB⟩, by simp [intOf]; omega⟩
        | false =>
          rw [ht, if_neg (by simp)] at ht1' ht2'
          unfold tch at ht
          have f1 : (px == x) = false := by simp at ht; simpa using ht.1
          have f2 : (py == x) = false := by simp at ht; simpa using ht.2
          clear ht
          generalize hml : F.length = ml at *
          have hml' := hide' hml
          clear hml
          as_aux_lemma =>
          go_wp2_with (at_builtin; go_loud (refine wpList_append_lies _ rfl _ _ 29 rfl W6.heap.size 42 i0 (.agg #[.int .i64 0, .int .i64 0]) 2 16 Tryd.underlying29 hi hz0 hz1 hz2 rfl (by decide) (.slice oa2 ml cap2) ml (cellsP F) rfl (hrow.out.alloc _) ⟨wr.heap.size, 0, none⟩ 1 1 [.int .i64 px, .int .i64 py] rfl rfl (cell_two_new _ _ _ _) (by simp [Value.oneCell']) (by decide) (by unfold maxLen; omega) (by omega) (by simp; omega) _ rfl ?_); intro g4 cap4 w4 hown4 hgrow4 hat4 hlt4)
          have hge := owns_ge hrow.out
          have hB4 : Hid (Below W6.heap.size W6 w4) := (hB.out.alloc hsz _).grown hgrow4 (by simp; omega) hge
          have hown5 : Hid (w4.ownsRow W6.heap.size 42 2 (.slice (some ⟨g4, 0, none⟩) (ml + 1) cap4) ((M.take (c + 1)).filter (fun p => !tch x p)).length (cellsP ((M.take (c + 1)).filter (fun p => !tch x p)))) := by
            show World.ownsRow _ _ _ _ _ _ _
            rw [ht2'.out, cellsP_snoc, List.length_append, hml'.out]; exact hown4
          clear hown4 hgrow4 hat4 hrow
          exact ⟨⟨c + 1, by go_num, by omega, by rw [ht1'.out]; rfl, hown5, hB4⟩, by simp [intOf]; omega⟩
      · obtain rfl : c = m := by omega
        have e : M.take c = M := by rw [← hm'.out, List.take_length]
        have e' := hide' e
        clear e
        go_wp2
        go_meet
        exact ⟨by rw [e'.out], by have h := hrow.out; rw [e'.out] at h ⊢; exact h, hB⟩
  case rest =>
  as_aux_lemma =>
  obtain ⟨rfl, hrow, hB⟩ := hcut
  obtain ⟨oa2, cap2, hv2⟩ := owns_shape hrow.out
  subst hv2
  have hd1 := hdl.out.1
  have hd2 := hide' hdl.out.2
  rw [hd1]
  have hR8 := hide' (hR7.out.over hB.out)
  have hG8 := hide' (grown_trans hG7.out (grown_below (some b) hB.out))
  have KD := hide' (dropR hR8.out x)
  have hob : (Value.slice oa2 (M.filter (fun p => !tch x p)).length cap2).ownBlock ≠ some b := fun e => by
    have := owns_ge hrow.out b e
    have := hR7.out.lt
    omega
  have hPr := hide' (fun V hV => (PairsAt.of_owns hrow.out).grown hob (W' := V) hV)
  have hfl : (M.filter (fun p => !tch x p)).length ≤ 4096 := Nat.le_trans (List.length_filter_le _ _) (by have := hm'.out; omega)
  have KE2 := hide' (fun V va vb (ha : PairsAt V va (M.filter (fun p => !tch x p))) (hb : PairsAt V vb (M.filter (fun p => !tch x p))) => keepPairsT _ va vb V ha hb (by omega))
  clear hdl hd1 hrow hob hR7 hG7 hpc KE hi hz0 hz1 hz2
  go_wp2_with fail
  refine KD.out.mono ?_
  rintro e w8 ⟨rfl, hr8, hg8⟩
  have KL := linksR hr8
  rw [← hd2.out] at KL
  have KL' := hide' KL
  have hP8 := hide' (hPr.out _ hg8)
  have hBw8 : Hid (Below b w w8) := hb3'.out.grown (grown_trans hG8.out hg8) (by have := hb3'.out.size; omega) (by intro k e; cases e; exact Nat.le_refl _)
  have hs8 : Hid (b ≤ w8.heap.size) := Nat.le_of_lt hr8.lt
  clear KL hr8 hg8 KD
  generalize M.filter (fun p => !tch x p) = F at *
  generalize drCI J x = dc at *
  go_wp2_with fail
  refine KL'.out.mono ?_
  rintro e w9 ⟨v9, rfl, hown9, hb9⟩
  have KE9 := hide' (KE2.out _ _ _ (PairsAt.of_owns hown9) (hP8.out.over hb9))
  have hBw9 : Hid (Below b w w9) := hBw8.out.trans (hb9.mono hs8.out)
  have hs9 : Hid (b ≤ w9.heap.size) := Nat.le_trans hs8.out hb9.size
  clear hown9 hb9 KL'
  go_wp2_with fail
  refine KE9.out.mono ?_
  rintro e w10 ⟨rfl, hb10⟩
  have hBw10 : Hid (Below b w w10) := hBw9.out.trans (hb10.mono hs9.out)
  clear hb10
  go_wp2
  go_ret
  exact ⟨rfl, by rw [hbb]; exact hBw10.out⟩
end Go.Proofs.YtegpgjiccpglbaaDoor

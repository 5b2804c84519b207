/- The law RankReach: walked. -/
import Derived.Test.YtegpgjiccpglbaaDoorYReachM
import Derived.Test.YtegpgjiccpglbaaDoorYOps
import Derived.Test.YtegpgjiccpglbaaDoorYLinks
import Derived.Test.YtegpgjiccpglbaaDoorYDrop
import Derived.Test.YtegpgjiccpglbaaDoorYWake
import Derived.Deep.CutBlock
import Derived.Deep.CutRange
import Derived.Deep.QuietTactic
import Derived.BigQuiet
namespace Go.Proofs.YtegpgjiccpglbaaDoor
open Go.RowKit
theorem keepC {W W' : World} {g b x y : Nat} {u v : Value} (h : W.cell? ⟨g, x, none⟩ = some u ∧ W.cell? ⟨g, y, none⟩ = some v) (hg : W.grownBy W' (some b)) (hne : g ≠ b) : W'.cell? ⟨g, x, none⟩ = some u ∧ W'.cell? ⟨g, y, none⟩ = some v :=
  ⟨hg.cell h.1 (by simpa using hne), hg.cell h.2 (by simpa using hne)⟩
theorem shr_bit (x i : Nat) (hx : x < 18446744073709551616) : bits .and .u64 ((x : Int) / 2 ^ i) 1 = ((x.testBit i).toNat : Int) := by
  have h1 : ((x : Int) / 2 ^ i) = ((x / 2 ^ i : Nat) : Int) := by simp
  have h2 : x / 2 ^ i < 18446744073709551616 := Nat.lt_of_le_of_lt (Nat.div_le_self _ _) hx
  have h3 := u64_and_nat (x / 2 ^ i) 1 h2 (by decide)
  rw [h1, show (1 : Int) = ((1 : Nat) : Int) from rfl, h3, Nat.and_one_is_mod, Nat.testBit_eq_decide_div_mod_eq]
  rcases Nat.mod_two_eq_zero_or_one (x / 2 ^ i) with e | e <;> rw [e] <;> rfl
theorem shr_bitT {x i : Nat} (hx : x < 18446744073709551616) (h : x.testBit i = true) : bits .and .u64 ((x : Int) / 2 ^ i) 1 = 1 := by rw [shr_bit x i hx, h]; rfl
theorem shr_bitF {x i : Nat} (hx : x < 18446744073709551616) (h : x.testBit i = false) : bits .and .u64 ((x : Int) / 2 ^ i) 1 = 0 := by rw [shr_bit x i hx, h]; rfl
set_option maxRecDepth 100000 in
set_option maxHeartbeats 20000000 in
theorem rankReach_walk (L : List OpT) (v : Value) (w : World) (hr : RowOp w v L) (ht : Tab w) : Calls Tryd.prog 4 #[v] w fun e w' => e = .returned (.bool true) ∧ Below w.heap.size w w' := by
  have KN := hide' (newR w ht)
  have hr' := hide' hr
  obtain ⟨oa, cap, rfl, hcap, hrow⟩ := hr
  have hrow' := hide' hrow
  clear hrow
  go_enter Tryd.func4, Tryd.ntmps4
  go_wp2_with fail
  refine KN.out.mono ?_
  rintro e w1 ⟨rfl, hr1, hb1⟩
  have KW := hide' (wakes w1 hr1.tab)
  have hR1 := hide' hr1
  have hB1 := hide' hb1
  clear hr1 hb1 KN
  go_wp2_with fail
  refine KW.out.mono ?_
  rintro e w2 ⟨rfl, hb2⟩
  have hR2 := hide' (hR1.out.over hb2)
  have hB2 := hide' (hB1.out.trans (hb2.mono hB1.out.size))
  clear hR1 hB1 hb2 KW
  have hrw : Hid (∀ V, Below w.heap.size w V → ∀ (i : Nat) (p : OpT), L[i]? = some p → ∃ g o, oa = some ⟨g, o, none⟩ ∧ g < w.heap.size ∧ V.cell? ⟨g, o + i * 5 + 1, none⟩ = some (.int .i64 p.op) ∧ V.cell? ⟨g, o + i * 5 + 2, none⟩ = some (.int .i64 p.a) ∧ V.cell? ⟨g, o + i * 5 + 3, none⟩ = some (.int .i64 p.b)) := fun V hV i p hp => by
    obtain ⟨⟨g, o, e, c0, c1, c2, c3, c4⟩, _⟩ := hrow'.out i p hp
    exact ⟨g, o, e, cell_lt c0, cell_over c1 hV, cell_over c2 hV, cell_over c3 hV⟩
  clear hrow' hr'
  generalize hbb : w.heap.size = b at *
  go_upto_block 0 with fail
  go_cut [4] from 20 to 71 (fun s wx => ∃ J, Hid (RkAt wx b J) ∧ Hid (Below b w wx))
  case first =>
    as_aux_lemma =>
    go_wp2_with fail
    go_loopw [4] (fun k wr => ∃ (c : Nat) (J : Nat → Nat), k = .int .i64 c ∧ c ≤ L.length ∧ Hid (RkAt wr b J) ∧ Hid (Below b w wr)) (fun k _ => ((L.length : Int) - intOf k).toNat)
    case atStart => exact ⟨0, noJ, rfl, Nat.zero_le _, hR2, hB2⟩
    case round =>
      clear hR2 hB2 ht
      obtain ⟨c, J, rfl, hc, hR, hB⟩ := hrel
      by_cases h1 : c < L.length
      · by_cases h2 : c < 120
        · obtain ⟨p, hp⟩ : ∃ p, L[c]? = some p := ⟨_, List.getElem?_eq_getElem h1⟩
          obtain ⟨g, o, rfl, hgb, c1, c2, c3⟩ := hrw.out wr hB.out c p hp
          have hne : Hid (g ≠ b) := by show _ ≠ _; omega
          have hnx : Hid (∀ V, wr.grownBy V (some b) → Below b w V) := fun V hV => hB.out.grown hV (Nat.le_of_lt hR.out.lt) (by intro k e; cases e; exact Nat.le_refl _)
          have KO := hide' (over hR.out p.a p.b)
          have KO' : Hid (Calls Tryd.prog 10 #[.pointer (some ⟨b, 0, none⟩), .int .i64 p.a, .int .i64 p.b] wr.drew fun e w' => e = .returned (.int .i64 (ovC J p.a p.b)) ∧ RkAt w' b (ovJ J p.a p.b) ∧ wr.grownBy w' (some b)) := (over hR.out.drew p.a p.b).mono fun _ _ ⟨h1, h2, h3⟩ => ⟨h1, h2, grown_trans (grown_below _ (Below.refl _ _).drew) h3⟩
          have KC' : Hid (Calls Tryd.prog 11 #[.pointer (some ⟨b, 0, none⟩), .int .i64 p.a, .int .i64 p.b] wr.drew fun e w' => e = .returned (.int .i64 (cuC J p.a p.b)) ∧ RkAt w' b (cuJ J p.a p.b) ∧ wr.grownBy w' (some b)) := (cutR hR.out.drew p.a p.b).mono fun _ _ ⟨h1, h2, h3⟩ => ⟨h1, h2, grown_trans (grown_below _ (Below.refl _ _).drew) h3⟩
          have KD := hide' (dropR hR.out p.a)
          have hS : Hid (wr.drew.cell? ⟨g, o + c * 5 + 2, none⟩ = some (.int .i64 p.a) ∧ wr.drew.cell? ⟨g, o + c * 5 + 3, none⟩ = some (.int .i64 p.b)) := ⟨c2, c3⟩
          clear hp hcap KO hrw
          generalize p.a = pa at *
          generalize p.b = pb at *
          generalize p.op = d at *
          by_cases d1 : d = 1
          · subst d1
            clear KC' KD
            go_wp2
            go_region_held3 (fun V => V.cell? ⟨g, o + c * 5 + 2, none⟩ = some (.int .i64 pa) ∧ V.cell? ⟨g, o + c * 5 + 3, none⟩ = some (.int .i64 pb)) (first | assumption | (exact hS.out) | (exact keepC (W := wr) hS.out (by assumption) hne.out)) (first | (go_at_call 10; refine KO'.out.mono ?_; rintro e w3 ⟨rfl, hr3, hg3⟩; have hR3 := hide' hr3; have hB3 := hide' (hnx.out _ hg3)))
            go_wp2
            exact ⟨⟨c + 1, _, by go_num, by omega, hR3, hB3⟩, by simp [intOf]; omega⟩
          · by_cases d2 : d = 2
            · subst d2
              clear KO' KD
              go_wp2
              go_region_held3 (fun V => V.cell? ⟨g, o + c * 5 + 2, none⟩ = some (.int .i64 pa) ∧ V.cell? ⟨g, o + c * 5 + 3, none⟩ = some (.int .i64 pb)) (first | assumption | (exact hS.out) | (exact keepC (W := wr) hS.out (by assumption) hne.out)) (first | (go_at_call 11; refine KC'.out.mono ?_; rintro e w3 ⟨rfl, hr3, hg3⟩; have hR3 := hide' hr3; have hB3 := hide' (hnx.out _ hg3)))
              go_wp2
              exact ⟨⟨c + 1, _, by go_num, by omega, hR3, hB3⟩, by simp [intOf]; omega⟩
            · by_cases d3 : d = 3
              · subst d3
                clear KC' KO' hS
                go_wp2_with (go_at_call 12; refine KD.out.mono ?_; rintro e w3 ⟨rfl, hr3, hg3⟩; have hR3 := hide' hr3; have hB3 := hide' (hnx.out _ hg3))
                exact ⟨⟨c + 1, _, by go_num, by omega, hR3, hB3⟩, by simp [intOf]; omega⟩
              · have e1 : (d == 1) = false := by simpa using d1
                have e2 : (d == 2) = false := by simpa using d2
                have e3 : (d == 3) = false := by simpa using d3
                clear KC' KO' KD hS d1 d2 d3
                go_wp2
                exact ⟨⟨c + 1, _, by go_num, by omega, hR, hB⟩, by simp [intOf]; omega⟩
        · go_wp2
          go_meet
          exact ⟨J, hR, hB⟩
      · go_wp2
        go_meet
        exact ⟨J, hR, hB⟩
  case rest =>
  as_aux_lemma =>
  clear hR2 hB2 hrw hcap
  obtain ⟨J, hR, hB⟩ := hcut
  have KL := hide' (linksR hR.out)
  go_wp2_with fail
  refine KL.out.mono ?_
  rintro e w3 ⟨v3, rfl, hown3, hb3⟩
  obtain ⟨o3, cap3, rfl⟩ := owns_shape hown3
  have hb3' : Hid (Below b w w3) := hB.out.trans (hb3.mono (Nat.le_of_lt hR.out.lt))
  have hR3 := hide' (hR.out.over hb3)
  have hP3 := hide' (PairsAt.of_owns hown3)
  have hpc : Hid (∀ V, Qt w3 V → ∀ (i : Nat) (p : Int × Int), (lks J)[i]? = some p → ∃ g o, o3 = some ⟨g, o, none⟩ ∧ V.cell? ⟨g, o + i * 2, none⟩ = some (.int .i64 p.1) ∧ V.cell? ⟨g, o + i * 2 + 1, none⟩ = some (.int .i64 p.2)) := fun V hV i p hp => by
    obtain ⟨oa', cap', e, _, h⟩ := hP3.out.over hV.below
    cases e
    exact h i p hp
  have hsrt := hide' (lks_sorted J)
  have hmem := hide' (fun p (hp : p ∈ lks J) => (mem_lks hR.out.wf).1 hp)
  have hRQ : Hid (∀ V, Qt w3 V → RkAt V b J) := fun V hV => hR3.out.over hV.below
  have hlen := lks_len J
  have hbel := hide' (fun a (ha : a < 64) => rndN_bel hR.out.wf hR.out.acy (a := a) ha)
  have hMok := hide' (lks_ok hR.out.wf)
  clear hown3 hb3 hR hB hR3 hP3 KL
  generalize hM : lks J = M at *
  have hM' := hide' hM
  clear hM
  generalize hm : M.length = m at *
  have hm' := hide' hm
  clear hm
  go_upto_block 3 with fail
  go_cut [6] from 74 to 171 (fun s wx => Hid (Qt w3 wx))
  case first =>
    as_aux_lemma =>
    go_wp2_with fail
    go_loopw [6] (fun k wr => ∃ c : Nat, k = .int .i64 c ∧ c ≤ m ∧ Hid (Qt w3 wr)) (fun k _ => ((m : Int) - intOf k).toNat)
    case atStart => exact ⟨0, rfl, Nat.zero_le _, Qt.refl _⟩
    case round =>
      obtain ⟨c, rfl, hc, hQ⟩ := hrel
      by_cases hlt : c < m
      · obtain ⟨p, hp⟩ : ∃ p, M[c]? = some p := ⟨_, List.getElem?_eq_getElem (by have := hm'.out; omega)⟩
        obtain ⟨x, y, hE, rfl⟩ := hmem.out p (List.mem_of_getElem? hp)
        obtain ⟨g, o, rfl, c1, c2⟩ := hpc.out wr hQ.out c _ hp
        have hxl := hE.1
        have hyl := hE.lt (hRQ.out wr hQ.out).wf
        have KH : Hid (∀ n, Calls Tryd.prog 14 #[.pointer (some ⟨b, 0, none⟩), .int .i64 (x : Int), .int .i64 (y : Int)] (wr.drewN n) fun e w' => e = .returned (.bool true) ∧ w' = wr.drewN n) := fun n => by
          have := has ((hRQ.out wr hQ.out).over (Qt.below ⟨n, rfl⟩)) (x : Int) (y : Int)
          rwa [hasJ_nat hxl hyl, hE.2] at this
        have d1 : decide ((x : Int) < 0) = false := by simp
        have d2 : decide ((63 : Int) < (x : Int)) = false := by simp; omega
        have d3 : decide ((y : Int) < 0) = false := by simp
        have d4 : decide ((63 : Int) < (y : Int)) = false := by simp; omega
        have hlt' : (c : Int) < (m : Int) := by omega
        have h0' : (0 : Int) ≤ (c : Int) := by omega
        simp only [] at c1 c2
        by_cases h0 : c = 0
        · have e0 : decide ((0 : Int) < (c : Int)) = false := by simp; omega
          have e0n : decide (0 < c) = false := by simp; omega
          have h0h := hide' h0
          clear h0 hp hE hmem hpc hRQ hbel hMok hsrt
          as_aux_lemma =>
          go_upto_region 18 with fail
          simp only [List.append_eq, List.cons_append, List.nil_append]
          go_quiet ((go_at_call 14; exact Calls.quiet_of_same (KH.out _)))
          go_wp2
          exact ⟨⟨c + 1, by go_num, by omega, hQ.out.trans ⟨nq, rfl⟩⟩, by simp [intOf]; omega⟩
        · obtain ⟨q, hq⟩ : ∃ q, M[c - 1]? = some q := ⟨_, List.getElem?_eq_getElem (by have := hm'.out; omega)⟩
          obtain ⟨x', y', hE', rfl⟩ := hmem.out q (List.mem_of_getElem? hq)
          obtain ⟨g2, o2, e2, k1, k2⟩ := hpc.out wr hQ.out (c - 1) _ hq
          cases e2
          have hs : ltP ((x' : Int), (y' : Int)) ((x : Int), (y : Int)) := by
            obtain ⟨i1, j1⟩ := List.getElem?_eq_some_iff.1 hq
            obtain ⟨i2, j2⟩ := List.getElem?_eq_some_iff.1 hp
            rw [← j1, ← j2]
            exact List.pairwise_iff_getElem.1 hsrt.out _ _ i1 i2 (by omega)
          have e0 : decide ((0 : Int) < (c : Int)) = true := by simp; omega
          have e0n : decide (0 < c) = true := by simp; omega
          have hpos : 0 < c := by omega
          have hw1 : IntKind.i64.wrap ((c : Int) - 1) = ((c - 1 : Nat) : Int) := by
            simp only [IntKind.wrap, IntKind.bits, IntKind.signed]; simp; omega
          have hw2 : ((c : Int) - 1) = ((c - 1 : Nat) : Int) := by omega
          have hlt1 : (((c - 1 : Nat) : Int)) < (m : Int) := by omega
          have hge1 : (0 : Int) ≤ ((c - 1 : Nat) : Int) := by omega
          simp only [] at k1 k2
          unfold ltP at hs
          simp only [] at hs
          clear hp hE hmem hpc hRQ hbel hMok hsrt hE' hq
          generalize hcc : c - 1 = c' at *
          have hcc' := hide' hcc
          clear hcc h0
          by_cases hs1 : x' < x
          · have f1 : decide (x' < x) = true := by simpa using hs1
            have f2 : decide ((x' : Int) < (x : Int)) = true := by simpa using hs1
            have hs1' := hide' hs1
            clear hs hs1
            as_aux_lemma =>
            go_upto_region 18 with fail
            simp only [List.append_eq, List.cons_append, List.nil_append]
            go_quiet ((go_at_call 14; exact Calls.quiet_of_same (KH.out _)))
            go_wp2
            exact ⟨⟨c + 1, by go_num, by omega, hQ.out.trans ⟨nq, rfl⟩⟩, by simp [intOf]; omega⟩
          · obtain ⟨hxx, hyy⟩ : x' = x ∧ y' < y := by omega
            subst hxx
            have f1 : decide (x' < x') = false := by simp
            have f2 : decide ((x' : Int) < (x' : Int)) = false := by simp
            have f3 : decide (y' < y) = true := by simpa using hyy
            have f4 : decide ((y' : Int) < (y : Int)) = true := by simpa using hyy
            clear hs hs1 hyy
            as_aux_lemma =>
            go_upto_region 18 with fail
            simp only [List.append_eq, List.cons_append, List.nil_append]
            go_quiet ((go_at_call 14; exact Calls.quiet_of_same (KH.out _)))
            go_wp2
            exact ⟨⟨c + 1, by go_num, by omega, hQ.out.trans ⟨nq, rfl⟩⟩, by simp [intOf]; omega⟩
      · go_wp2
        go_meet
        exact hQ
  case rest =>
  as_aux_lemma =>
  obtain ⟨W5, rfl⟩ : ∃ x, x = wc := ⟨_, rfl⟩
  have hQ5 := hcut
  clear hsrt hcut
  go_upto_block 5 with fail
  go_cut [7, 8, 9, 10, 11, 12] from 172 to 259 (fun s7 s8 s9 s10 s11 s12 wx => s7 = .int .u64 (thrN J 64 : Int) ∧ Hid (Qt w3 wx))
  case first =>
    as_aux_lemma =>
    go_wp2_with fail
    go_loopw [7, 8] (fun al k wr => ∃ a : Nat, k = .int .i64 a ∧ a ≤ 64 ∧ al = .int .u64 (thrN J a : Int) ∧ Hid (Qt w3 wr)) (fun _ k _ => (64 - intOf k).toNat)
    case atStart => exact ⟨0, rfl, by omega, rfl, hQ5⟩
    case round =>
      obtain ⟨a, rfl, ha, rfl, hQ⟩ := hrel
      by_cases hlt : a < 64
      · have hd : decide ((a : Int) < 64) = true := by simp; omega
        have hsh := shlc a hlt
        have hb64 := hbel.out a hlt
        have h0 : rndN M (2 ^ a) 0 = 2 ^ a := rfl
        have hrl := hide' (fun n => rndN_lt (l := M) (w := 2 ^ a) (pow_lt64 hlt) hMok.out n)
        rw [← h0] at hsh
        go_upto_block 7 with fail
        go_cut [9, 10, 11] from 178 to 204 (fun s9 s10 s11 wx => s9 = .int .u64 (rndN M (2 ^ a) 64 : Int) ∧ wr = wx)
        case first =>
          as_aux_lemma =>
          go_wp2_with fail
          go_loopw [9, 10, 11] (fun s k s11 wv => ∃ n : Nat, k = .int .i64 n ∧ n ≤ 64 ∧ s = .int .u64 (rndN M (2 ^ a) n : Int) ∧ wr = wv) (fun _ k _ _ => (64 - intOf k).toNat)
          case atStart => exact ⟨0, rfl, by omega, rfl, rfl⟩
          case round =>
            obtain ⟨n, rfl, hn, rfl, rfl⟩ := hrel
            by_cases hln : n < 64
            · have hdn : decide ((n : Int) < 64) = true := by simp; omega
              clear h0 hsh hb64
              go_wp2_with fail
              go_loopw [9, 11] (fun s i wv => ∃ c : Nat, i = .int .i64 c ∧ c ≤ m ∧ s = .int .u64 (rnd (M.take c) (rndN M (2 ^ a) n) : Int) ∧ wr = wv) (fun _ i _ => ((m : Int) - intOf i).toNat)
              case atStart => exact ⟨0, rfl, by omega, rfl, rfl⟩
              case round =>
                obtain ⟨c, rfl, hc, rfl, rfl⟩ := hrel
                by_cases hlc : c < m
                · obtain ⟨p, hp⟩ : ∃ p, M[c]? = some p := ⟨_, List.getElem?_eq_getElem (by have := hm'.out; omega)⟩
                  have htk := hide' (rnd_take hp (rndN M (2 ^ a) n))
                  obtain ⟨x, y, hE, rfl⟩ := hmem.out p (List.mem_of_getElem? hp)
                  obtain ⟨g, o, rfl, c1, c2⟩ := hpc.out wr hQ.out c _ hp
                  have hxl := hE.1
                  have hyl := hE.lt (hRQ.out wr hQ.out).wf
                  have hzl : rnd (M.take c) (rndN M (2 ^ a) n) < 18446744073709551616 := rnd_lt _ (hrl.out n) fun q hq => hMok.out q (List.mem_of_mem_take hq)
                  have hxl' : (x : Int) < 64 := by omega
                  have hyl' : (y : Int) < 64 := by omega
                  have hx0' : (0 : Int) ≤ (x : Int) := by omega
                  have hy0' : (0 : Int) ≤ (y : Int) := by omega
                  have hsy := shlc y hyl
                  have hor := u64_or_nat _ _ hzl (pow_lt64 hyl)
                  simp only [] at c1 c2
                  unfold stp at htk
                  simp only [Int.toNat_natCast] at htk
                  clear hp hE hmem hpc hRQ hbel hMok hrl
                  generalize rnd (M.take c) (rndN M (2 ^ a) n) = z at *
                  generalize (2 ^ y : Nat) = py at *
                  generalize hzo : z ||| py = zo at *
                  cases htz : z.testBit x with
                  | true =>
                    rw [htz, if_pos rfl] at htk
                    have hb := shr_bitT hzl htz
                    clear htz hzo
                    as_aux_lemma =>
                    go_wp2
                    exact ⟨⟨c + 1, by go_num, by omega, by rw [htk.out], by trivial⟩, by simp [intOf]; omega⟩
                  | false =>
                    rw [htz, if_neg (by simp)] at htk
                    have hb := shr_bitF hzl htz
                    clear htz hzo
                    as_aux_lemma =>
                    go_wp2
                    exact ⟨⟨c + 1, by go_num, by omega, by rw [htk.out], by trivial⟩, by simp [intOf]; omega⟩
                · obtain rfl : c = m := by omega
                  have hfull : Hid (rnd (M.take c) (rndN M (2 ^ a) n) = rndN M (2 ^ a) (n + 1)) := by
                    show _ = _
                    rw [← hm'.out, List.take_length]; rfl
                  go_wp2
                  exact ⟨⟨n + 1, by go_num, by omega, by rw [hfull.out], by trivial⟩, by simp [intOf]; omega⟩
            · obtain rfl : n = 64 := by omega
              go_wp2
              go_meet
              exact ⟨rfl, rfl⟩
        case rest =>
        as_aux_lemma =>
        obtain ⟨rfl, rfl⟩ := hcut
        have hR := hRQ.out wr hQ.out
        have KB := hide' (belowN hR hlt)
        have KS : Hid (∀ V, Qt wr V → Calls Tryd.prog 16 #[.pointer (some ⟨b, 0, none⟩), .int .u64 ((2 ^ a : Nat) : Int)] V fun e w' => e = .returned (.int .u64 (bel J a : Int)) ∧ Qt V w') := fun V hV => spread (hR.over hV.below) (2 ^ a) (pow_lt64 hlt)
        have hthr : Hid (thrN J (a + 1) = if a % 3 = 0 then thrN J a ||| bel J a else thrN J a) := rfl
        have hthl := thrN_lt hR.wf a ha
        have hbl := bel_lt hR.wf hlt
        have hself : Hid ((bel J a).testBit a = true) := (bel_bit hR.wf hR.acy hlt).2 (.refl _ _)
        have hab : Hid (∀ c, c < 64 → (abv J c).testBit a = (bel J a).testBit c) := fun c _ => abv_bit J c a hlt
        have hanti : Hid (∀ c, c < 64 → c ≠ a → (bel J a).testBit c = true → (bel J c).testBit a = false) := fun c hc hne h1 => by
          cases h2 : (bel J c).testBit a with
          | false => rfl
          | true => exact absurd (Rc.anti hR.acy ((bel_bit hR.wf hR.acy hc).1 h2) ((bel_bit hR.wf hR.acy hlt).1 h1)) hne
        have hwf := hide' hR.wf
        rw [h0] at hsh
        rw [hb64]
        clear h0 hrl hb64 hR hbel hMok hmem hpc
        generalize (2 ^ a : Nat) = pa at *
        generalize hz : bel J a = z at *
        have hz' := hide' hz
        clear hz
        go_wp2_with fail
        refine KB.out.mono ?_
        rintro e w8 ⟨rfl, hq8⟩
        have hQ8 := hide' hq8
        clear hq8
        go_wp2_with fail
        refine (KS.out _ hQ8.out).mono ?_
        rintro e w9 ⟨rfl, hq9⟩
        have hQ9 : Hid (Qt w3 w9) := (hQ.out.trans hQ8.out).trans hq9
        clear hq9 hQ8 KB KS
        go_upto_block 11 with fail
        go_cut [12] from 218 to 253 (fun s12 wx => Hid (Qt w3 wx))
        case first =>
          as_aux_lemma =>
          go_wp2_with fail
          go_loopw [12] (fun k wv => ∃ c : Nat, k = .int .i64 c ∧ c ≤ 64 ∧ Hid (Qt w3 wv)) (fun k _ => (64 - intOf k).toNat)
          case atStart => exact ⟨0, rfl, by omega, hQ9⟩
          case round =>
            clear hQ9 hQ hsh hthr hthl
            obtain ⟨c, rfl, hc, hQ⟩ := hrel
            by_cases hlc : c < 64
            · have hR := hRQ.out wr hQ.out
              have KA : Hid (∀ n, Calls Tryd.prog 17 #[.pointer (some ⟨b, 0, none⟩), .int .i64 (c : Int)] (wr.drewN n) fun e w' => e = .returned (.int .u64 (abv J c : Int)) ∧ ∃ m, w' = (wr.drewN n).drewN m) := fun n => by
                have := above (hR.over (Qt.below ⟨n, rfl⟩)) (c : Int)
                rwa [show abvI J (c : Int) = abv J c by simp [abvI, okA_of hlc]] at this
              have KB : Hid (∀ n, Calls Tryd.prog 15 #[.pointer (some ⟨b, 0, none⟩), .int .i64 (c : Int)] (wr.drewN n) fun e w' => e = .returned (.int .u64 (bel J c : Int)) ∧ ∃ m, w' = (wr.drewN n).drewN m) := fun n => belowN (hR.over (Qt.below ⟨n, rfl⟩)) hlc
              have hac := hab.out c hlc
              have hal := abv_lt J c
              have hbc := bel_lt hR.wf hlc
              have hcl' : (c : Int) < 64 := by omega
              have hcl0 : (0 : Int) ≤ (c : Int) := by omega
              have hal' : (a : Int) < 64 := by omega
              have hal0 : (0 : Int) ≤ (a : Int) := by omega
              clear hR hRQ hab
              by_cases hca : c = a
              · have e1 : ((c : Int) != (a : Int)) = false := by simp; omega
                have t1 : z.testBit c = true := by rw [hca]; exact hself.out
                rw [t1] at hac
                have f1 := shr_bitT hal hac
                have f2 := shr_bitT hbl t1
                clear hac t1 hanti hself hca KB hbc
                generalize abv J c = ac at *
                as_aux_lemma =>
                go_upto_region 38 with fail
                go_quiet ((go_at_call 17; exact Calls.quiet_of (KA.out _)))
                go_wp2
                exact ⟨⟨c + 1, by go_num, by omega, hQ.out.trans ⟨nq, rfl⟩⟩, by simp [intOf]; omega⟩
              · have e1 : ((c : Int) != (a : Int)) = true := by simp; omega
                cases t1 : z.testBit c with
                | true =>
                  rw [t1] at hac
                  have f1 := shr_bitT hal hac
                  have f2 := shr_bitT hbl t1
                  have f3 := shr_bitF hbc (hanti.out c hlc hca t1)
                  clear hac t1 hanti hself hca
                  generalize abv J c = ac at *
                  generalize bel J c = bc at *
                  as_aux_lemma =>
                  go_upto_region 38 with fail
                  go_quiet ((first | (go_at_call 17; exact Calls.quiet_of (KA.out _)) | (go_at_call 15; exact Calls.quiet_of (KB.out _))))
                  go_wp2
                  exact ⟨⟨c + 1, by go_num, by omega, hQ.out.trans ⟨nq, rfl⟩⟩, by simp [intOf]; omega⟩
                | false =>
                  rw [t1] at hac
                  have f1 := shr_bitF hal hac
                  have f2 := shr_bitF hbl t1
                  clear hac t1 hanti hself hca KB hbc
                  generalize abv J c = ac at *
                  as_aux_lemma =>
                  go_upto_region 38 with fail
                  go_quiet ((go_at_call 17; exact Calls.quiet_of (KA.out _)))
                  go_wp2
                  exact ⟨⟨c + 1, by go_num, by omega, hQ.out.trans ⟨nq, rfl⟩⟩, by simp [intOf]; omega⟩
            · go_wp2
              go_meet
              exact hQ
        case rest =>
        as_aux_lemma =>
        have hQ10 := hcut
        clear hcut hQ9 hQ hab hanti hself
        have hor := u64_or_nat (thrN J a) z hthl hbl
        by_cases h3 : a % 3 = 0
        · rw [if_pos h3] at hthr
          have hm1 : ((a : Int) % 3 == 0) = true := by simp; omega
          have hm2 : ((a : Int).tmod 3 == 0) = true := by rw [Int.tmod_eq_emod_of_nonneg (by omega)]; exact hm1
          generalize hu : thrN J a ||| z = u at *
          clear hu h3
          go_wp2
          exact ⟨⟨a + 1, by go_num, by omega, by rw [hthr.out], hQ10⟩, by simp [intOf]; omega⟩
        · rw [if_neg h3] at hthr
          have hm1 : ((a : Int) % 3 == 0) = false := by simp; omega
          have hm2 : ((a : Int).tmod 3 == 0) = false := by rw [Int.tmod_eq_emod_of_nonneg (by omega)]; exact hm1
          clear h3
          go_wp2
          exact ⟨⟨a + 1, by go_num, by omega, by rw [hthr.out], hQ10⟩, by simp [intOf]; omega⟩
      · obtain rfl : a = 64 := by omega
        go_wp2
        go_meet
        exact ⟨rfl, hQ⟩
  case rest =>
  as_aux_lemma =>
  obtain ⟨rfl, hQ6⟩ := hcut
  have hR6 := hRQ.out _ hQ6.out
  have KS := hide' (spread hR6 10540996613548315209 (by decide))
  rw [spr_thirds hR6.wf hR6.acy] at KS
  clear hR6
  generalize thrN J 64 = z at *
  go_wp2_with (go_at_call 16; refine KS.out.mono ?_; rintro e w7 ⟨rfl, hb7⟩)
  go_ret
  exact ⟨by simp, by rw [hbb]; exact hb3'.out.trans ((hQ6.out.trans hb7).below.mono (by have := hb3'.out.size; omega))⟩
end Go.Proofs.YtegpgjiccpglbaaDoor

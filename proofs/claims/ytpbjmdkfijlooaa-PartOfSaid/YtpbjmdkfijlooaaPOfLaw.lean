/- PartOf answers true for every row of labels; it makes new memory alone. -/
import Derived.Test.YtpbjmdkfijlooaaPBlkFn
import Derived.Test.YtpbjmdkfijlooaaPBlkM
import Derived.Deep.DeepCutAuto
import Derived.Deep.CutRange
namespace Go.Proofs.Ytpbjmdkfijlooaa
open Go.RowKit
theorem ints_take' (l : List Nat) (h : l.length ≤ 25) : (ints l).take 25 = ints l := List.take_of_length_le (by rw [ints_len]; exact h)
/-- What is kept of two rows, and of all that lay ahead. -/
def Both (w W : World) (v u : Value) (l m : List Int) : Prop := RowI W v l ∧ RowI W u m ∧ Below w.heap.size w W
theorem Both.keep {w W w1 : World} {v u : Value} {l m : List Int} (h : Both w W v u l m) (hb : Below W.heap.size W w1) : Both w w1 v u l m :=
  ⟨h.1.below hb (Nat.le_refl _), h.2.1.below hb (Nat.le_refl _), h.2.2.trans (hb.mono h.2.2.size)⟩
theorem rowI_cells {W : World} {oa : Option Addr} {n cap : Nat} {l : List Int} (h : RowI W (.slice oa n cap) l) : ∀ i z, l[i]? = some z → ∃ g o, oa = some ⟨g, o, none⟩ ∧ W.cell? ⟨g, o + i, none⟩ = some (.int .i64 z) := fun i z hz => by
  obtain ⟨oa', cap', e, _, h⟩ := h
  cases e
  exact h i z hz
theorem rowI_len {W : World} {v : Value} {l : List Int} {n : Nat} (h : RowI W v l) (hl : l.length = n) : ∃ oa cap, v = .slice oa n cap := by
  obtain ⟨oa, cap, e, _⟩ := h
  exact ⟨oa, cap, by rw [e, hl]⟩
theorem Tab.row {B : Nat} {w : World} {gt m : Nat} {vs : List Value} {rows : Nat → List Nat} (h : Tab B w gt m vs rows) {c : Nat} (hc : c < m) (hp : 0 < (rows c).length) :
    ∃ g cap, w.cell? ⟨gt, c, none⟩ = some (.slice (some ⟨g, 0, none⟩) (rows c).length cap) ∧ ∀ k p : Nat, (rows c)[k]? = some p → w.cell? ⟨g, k, none⟩ = some (.int .i64 (p : Int)) := by
  obtain ⟨u, hu⟩ : ∃ u, vs[c]? = some u := ⟨_, List.getElem?_eq_getElem (by rw [h.len]; exact hc)⟩
  have hI := h.inner c u hu
  have hcell := h.outer.cellAt c (by omega)
  rw [hu] at hcell
  rcases hI.2 with ⟨_, h0⟩ | ⟨g, cap, cur, rfl, _⟩
  · omega
  · refine ⟨g, cap, hcell, fun k p hk => ?_⟩
    obtain ⟨hlt, _⟩ := List.getElem?_eq_some_iff.1 hk
    rw [hI.cellAt k (by omega)]
    simp [cellsI, ints, hk]
set_option maxRecDepth 100000 in
set_option maxHeartbeats 4000000 in
theorem partOf_walk (L : List Int) (v : Value) (w : World) (hr : RowI w v L) (hwf : ∀ z ∈ L, (Lit.int .i64 z).wf = true) :
    Calls Try.prog 4 #[v] w fun e w' => e = .returned (.bool true) ∧ Below w.heap.size w w' := by
  obtain ⟨T, hT⟩ : ∃ T, L.take 25 = T := ⟨_, rfl⟩
  obtain ⟨A, hA⟩ : ∃ A, pat T = A := ⟨_, rfl⟩
  obtain ⟨n, hn⟩ : ∃ n, T.length = n := ⟨_, rfl⟩
  obtain ⟨m, hm⟩ : ∃ m, blks 0 A = m := ⟨_, rfl⟩
  have hn25 : n ≤ 25 := by rw [← hn, ← hT, List.length_take]; omega
  have hAl : A.length = n := by rw [← hA, pat, patG_len, hn]
  have hleg : Leg 0 A := by rw [← hA]; exact leg_pat [] T
  have hmn : m ≤ n := by have := blks_leg hleg; omega
  have K1 : Hid (Calls Try.prog 5 #[v, .int .i64 25] w fun e w' => ∃ v', e = .returned v' ∧ RowI w' v' T ∧ Below w.heap.size w w') := by
    have := few L v 25 w hr (by omega)
    rwa [hT] at this
  have K2 : Hid (∀ v' W, RowI W v' T → Calls Try.prog 5 #[v', .int .i64 25] W fun e w' => ∃ v'', e = .returned v'' ∧ RowI w' v'' T ∧ Below W.heap.size W w') := fun v' W h => by
    have := few T v' 25 W h (by omega)
    rwa [List.take_of_length_le (by omega)] at this
  have K3 : Hid (∀ v' W, RowI W v' T → Calls Try.prog 6 #[v'] W fun e w' => ∃ g, e = .returned (.tuple #[.slice (some ⟨g, 0, none⟩) n n, .int .i64 0]) ∧ w'.ownsRow W.heap.size 3 1 (.slice (some ⟨g, 0, none⟩) n n) n (cellsI (ints A)) ∧ Below W.heap.size W w') := fun v' W h => by
    have := ofP T v' W h (by omega) (fun z hz => hwf z (List.mem_of_mem_take (by rw [hT]; exact hz)))
    rw [hA, hn] at this
    exact this
  have K4 : Hid (∀ v' W, RowI W v' (ints A) → Calls Try.prog 5 #[v', .int .i64 25] W fun e w' => ∃ v'', e = .returned v'' ∧ RowI w' v'' (ints A) ∧ Below W.heap.size W w') := fun v' W h => by
    have := few (ints A) v' 25 W h (by omega)
    rwa [ints_take' A (by omega)] at this
  have K5 : Hid (∀ v' W, RowI W v' (ints A) → Calls Try.prog 13 #[v'] W fun e w' => e = .returned (.bool true) ∧ w' = W) := fun v' W h => legalT A v' W h (by omega) hleg
  have K6 := hide' wakes
  have K7 : Hid (∀ v' W, RowI W v' (ints A) → Calls Try.prog 14 #[v'] W fun e w' => ∃ gt vs, e = .returned (.slice (some ⟨gt, 0, none⟩) m m) ∧ Tab W.heap.size w' gt m vs (plc A) ∧ Below W.heap.size W w') := fun v' W h => blocksP n m A v' W h hAl hn25 hleg hm
  have K8 : Hid (∀ v' W, RowI W v' (ints A) → Calls Try.prog 15 #[v'] W fun e w' => e = .returned (.int .i64 m) ∧ w' = W) := fun v' W h => by
    have := sizeT A v' W h (by omega) hleg
    rwa [hm] at this
  have hker : Hid (∀ (i j : Nat) (y z : Int) (a b : Nat), T[i]? = some y → T[j]? = some z → A[i]? = some a → A[j]? = some b → (a = b ↔ y = z)) := fun i j y z a b h1 h2 h3 h4 => by
    have := pat_ker h1 h2
    rw [hA, h3, h4] at this
    simpa using this
  have hsome : Hid (∀ c, c < m → 0 < (plc A c).length) := fun c hc => plc_some hleg (by omega)
  have hrise : Hid (∀ b f g, (plc A b)[0]? = some f → (plc A (b + 1))[0]? = some g → f < g) := fun b f g h1 h2 => plc_rise hleg h1 h2
  have hall : Hid (cnt A m = n) := by show _ = _; rw [← hm, cnt_all, hAl]
  have hcle : Hid (∀ c, cnt A c ≤ n) := fun c => by have := cnt_le A c; omega
  have hTn := hide' hn
  have hAn := hide' hAl
  obtain ⟨ol, cl, rfl⟩ := rowI_len hr rfl
  clear hT hA hn hm hAl hleg hwf hr
  go_enter Try.func4, Try.ntmps4
  go_wp2_with fail
  refine K1.out.mono ?_
  rintro e w1 ⟨v1, rfl, hr1, hb1⟩
  obtain ⟨o1, c1, rfl⟩ := rowI_len hr1 hTn.out
  clear K1
  go_wp2_with fail
  refine (K2.out _ _ hr1).mono ?_
  rintro e w2 ⟨v2, rfl, hr2, hb2⟩
  go_wp2_with fail
  refine (K3.out _ _ hr2).mono ?_
  rintro e w3 ⟨ga, rfl, hown, hb3⟩
  have hk : Both w w3 _ _ T (ints A) := ⟨(hr1.below hb2 (Nat.le_refl _)).below hb3 (Nat.le_refl _), RowI.of_owns hown, (hb1.trans (hb2.mono hb1.size)).trans (hb3.mono (Nat.le_trans hb1.size hb2.size))⟩
  clear hr1 hb1 hr2 hb2 hb3 hown K2 K3
  go_wp2_with (first | (go_at_call 5; refine (K4.out _ _ hk.2.1).mono ?_; rintro e w4 ⟨v4, rfl, hr4, hb⟩; replace hk := hk.keep hb; clear hb) | (go_at_call 13; refine (K5.out _ _ hr4).mono ?_; rintro e w5 ⟨rfl, rfl⟩; clear hr4) | (go_at_call 12; refine (K6.out _).mono ?_; rintro e w6 ⟨rfl, hb⟩; replace hk := hk.keep hb; clear hb))
  have hcT := hide' (rowI_cells hk.1)
  have hcA := hide' (rowI_cells hk.2.1)
  go_loopw [6] (fun k wr => ∃ c : Nat, c ≤ n ∧ k = .int .i64 c ∧ Below w6.heap.size w6 wr) (fun k _ => ((n : Int) - intOf k).toNat)
  case atStart => exact ⟨0, Nat.zero_le _, rfl, Below.refl _ _⟩
  case round =>
    obtain ⟨c, hc, rfl, hB⟩ := hrel
    by_cases hlt : c < n
    · as_aux_lemma =>
      clear K4 K5 K6 K7 K8 hsome hrise hall hcle hmn
      go_wp2
      go_loopw [7] (fun k wr => ∃ d : Nat, d ≤ c ∧ k = .int .i64 d ∧ Below w6.heap.size w6 wr) (fun k _ => ((c : Int) - intOf k).toNat)
      case atStart => exact ⟨0, Nat.zero_le _, rfl, hB⟩
      case round =>
        clear hB
        obtain ⟨d, hd, rfl, hB⟩ := hrel
        by_cases hdc : d < c
        · obtain ⟨y, hy⟩ : ∃ y, T[c]? = some y := ⟨_, List.getElem?_eq_getElem (by have := hTn.out; omega)⟩
          obtain ⟨z, hz⟩ : ∃ z, T[d]? = some z := ⟨_, List.getElem?_eq_getElem (by have := hTn.out; omega)⟩
          obtain ⟨a, ha⟩ : ∃ a, A[c]? = some a := ⟨_, List.getElem?_eq_getElem (by have := hAn.out; omega)⟩
          obtain ⟨b, hb⟩ : ∃ b, A[d]? = some b := ⟨_, List.getElem?_eq_getElem (by have := hAn.out; omega)⟩
          have hiff := hker.out c d y z a b hy hz ha hb
          obtain ⟨g1, p1, rfl, cy0⟩ := hcT.out c y hy
          obtain ⟨g2, p2, e2, cz0⟩ := hcT.out d z hz
          cases e2
          obtain ⟨g3, p3, e3, ca0⟩ := hcA.out c a (ints_at ha)
          cases e3
          obtain ⟨g4, p4, e4, cb0⟩ := hcA.out d b (ints_at hb)
          cases e4
          have cy := (hB.cell (p := ⟨g1, p1 + c, none⟩) (cell_lt cy0)).trans cy0
          have cz := (hB.cell (p := ⟨g1, p1 + d, none⟩) (cell_lt cz0)).trans cz0
          have ca := (hB.cell (p := ⟨ga, 0 + c, none⟩) (cell_lt ca0)).trans ca0
          have cb := (hB.cell (p := ⟨ga, 0 + d, none⟩) (cell_lt cb0)).trans cb0
          rw [Nat.zero_add] at ca cb
          have hdn : d < n := by omega
          clear cy0 cz0 ca0 cb0 hy hz ha hb hker hcT hcA hk
          by_cases hyz : y = z
          · obtain rfl := hyz
            obtain rfl := hiff.2 rfl
            clear hiff
            go_wp2
            go_region
            go_wp2
            exact ⟨⟨d + 1, by omega, by go_num, hB.drew⟩, by simp [intOf]; omega⟩
          · have hab : ¬ ((a : Int) = (b : Int)) := fun e => hyz (hiff.1 (by omega))
            have hf1 : (y == z) = false := by simpa using hyz
            have hf2 : ((a : Int) == (b : Int)) = false := by simpa using hab
            clear hiff hyz hab
            go_wp2
            go_region
            go_wp2
            exact ⟨⟨d + 1, by omega, by go_num, hB.drew⟩, by simp [intOf]; omega⟩
        · obtain rfl : d = c := by omega
          clear hker hcT hcA hk
          go_wp2
          exact ⟨⟨d + 1, by omega, by go_num, hB⟩, by simp [intOf]; omega⟩
    · replace hk := hk.keep hB
      clear hB hker hcT hcA K5 K6
      go_wp2_with fail
      refine (K4.out _ _ hk.2.1).mono ?_
      rintro e w7 ⟨v7, rfl, hr7, hb⟩
      replace hk := hk.keep hb
      clear hb
      go_wp2_with fail
      refine (K7.out _ _ hr7).mono ?_
      rintro e w8 ⟨gt, vs, rfl, hT, hb⟩
      replace hk := hk.keep hb
      clear hb hr7 K4 K7
      have hrow : Hid (∀ c, c < m → ∃ g cap, w8.cell? ⟨gt, c, none⟩ = some (.slice (some ⟨g, 0, none⟩) (plc A c).length cap) ∧ ∀ k p : Nat, (plc A c)[k]? = some p → w8.cell? ⟨g, k, none⟩ = some (.int .i64 (p : Int))) := fun c hc => hT.row hc (hsome.out c hc)
      clear hT
      have hcA := hide' (rowI_cells hk.2.1)
      go_wp2
      go_loopw [9, 10] (fun nv k wr => ∃ c : Nat, c ≤ m ∧ k = .int .i64 c ∧ nv = .int .i64 ((cnt A c : Nat) : Int) ∧ Below w8.heap.size w8 wr) (fun _ k _ => ((m : Int) - intOf k).toNat)
      case atStart => exact ⟨0, Nat.zero_le _, rfl, rfl, Below.refl _ _⟩
      case round =>
        obtain ⟨c, hc, rfl, rfl, hB⟩ := hrel
        by_cases hltm : c < m
        · as_aux_lemma =>
          obtain ⟨g1, cap1, cu0, cr0⟩ := hrow.out c hltm
          have cu := (hB.cell (p := ⟨gt, c, none⟩) (cell_lt cu0)).trans cu0
          have hq0 := hsome.out c hltm
          obtain ⟨f, hf⟩ : ∃ f, (plc A c)[0]? = some f := ⟨_, List.getElem?_eq_getElem hq0⟩
          have hct := hcle.out (c + 1)
          rw [cnt_succ] at hct
          have cr := hide' cr0
          have hpa : Hid (∀ k p : Nat, (plc A c)[k]? = some p → A[p]? = some c) := fun k p h => mem_plc.1 (List.mem_of_getElem? h)
          have hst : Hid (∀ i j x y : Nat, i < j → (plc A c)[i]? = some x → (plc A c)[j]? = some y → x < y) := fun i j x y h h1 h2 => plc_step h h1 h2
          have cf := (hB.cell (p := ⟨g1, 0, none⟩) (cell_lt (cr0 0 f hf))).trans (cr0 0 f hf)
          have hPl : Hid (∀ k, k < (plc A c).length → ∃ p, (plc A c)[k]? = some p) := fun k hk => ⟨_, List.getElem?_eq_getElem hk⟩
          have hSucc := hide' (cnt_succ A c)
          have hfirst : Hid (∀ d, c = d + 1 → ∃ g0 cap0 q0 f0, w8.cell? ⟨gt, d, none⟩ = some (.slice (some ⟨g0, 0, none⟩) q0 cap0) ∧ 0 < q0 ∧ w8.cell? ⟨g0, 0, none⟩ = some (.int .i64 ((f0 : Nat) : Int)) ∧ f0 < f) := fun d e => by
            subst e
            obtain ⟨g0, cap0, h1, h2⟩ := hrow.out d (by omega)
            have h3 := hsome.out d (by omega)
            obtain ⟨f0, h4⟩ : ∃ f0, (plc A d)[0]? = some f0 := ⟨_, List.getElem?_eq_getElem h3⟩
            exact ⟨g0, cap0, _, f0, h1, h3, h2 0 f0 h4, hrise.out d f0 f h4 hf⟩
          have cu' := hide' cu0
          clear cu0 cr0 hf hrow hsome hrise hall hcle K8 hk
          generalize hq : (plc A c).length = q at *
          generalize hs : cnt A c = s at *
          clear hq hs
          have hz : ((q : Int) == 0) = false := by simp; omega
          go_upto_region 18 with fail
          go_cut [104] from 73 to 154 (fun t wx => t = .bool false ∧ Below w8.heap.size w8 wx)
          case first =>
            as_aux_lemma =>
            clear cr hpa hst hPl hSucc hcA cu'
            by_cases h0 : c = 0
            · subst h0
              clear hfirst
              go_region
              go_wp2
              go_meet
              exact ⟨rfl, hB.drew⟩
            · obtain ⟨d, rfl⟩ : ∃ d, c = d + 1 := ⟨c - 1, by omega⟩
              obtain ⟨g0, cap0, q0, f0, cd0, hq1, ce0, hlf⟩ := hfirst.out d rfl
              have cd := (hB.cell (p := ⟨gt, d, none⟩) (cell_lt cd0)).trans cd0
              have ce := (hB.cell (p := ⟨g0, 0, none⟩) (cell_lt ce0)).trans ce0
              clear hfirst cd0 ce0 h0
              go_region
              go_wp2
              go_meet
              exact ⟨congrArg Value.bool (decide_eq_false (by omega)), hB.drew⟩
          case rest =>
            as_aux_lemma =>
            clear hB
            obtain ⟨rfl, hB⟩ := hcut
            clear cu cf hfirst hz
            go_wp2
            go_loopw [9, 11] (fun nv k wr => ∃ k' : Nat, k' ≤ q ∧ k = .int .i64 k' ∧ nv = .int .i64 ((s + k' : Nat) : Int) ∧ Below w8.heap.size w8 wr) (fun _ k _ => ((q : Int) - intOf k).toNat)
            case atStart => exact ⟨0, Nat.zero_le _, rfl, rfl, hB⟩
            case round =>
              clear hB
              obtain ⟨k, hkq, rfl, rfl, hB⟩ := hrel
              have cu := (hB.cell (p := ⟨gt, c, none⟩) (cell_lt cu'.out)).trans cu'.out
              by_cases hkl : k < q
              · obtain ⟨p, hp⟩ := hPl.out k hkl
                have hAp := hpa.out k p hp
                have hpn : p < n := by have := (List.getElem?_eq_some_iff.1 hAp).1; have := hAn.out; omega
                have cp0 := cr.out k p hp
                have cp := (hB.cell (p := ⟨g1, k, none⟩) (cell_lt cp0)).trans cp0
                obtain ⟨g3, p3, e3, ca0⟩ := hcA.out p c (ints_at hAp)
                cases e3
                have ca := (hB.cell (p := ⟨ga, 0 + p, none⟩) (cell_lt ca0)).trans ca0
                rw [Nat.zero_add] at ca
                by_cases h0 : k = 0
                · subst h0
                  clear cp0 ca0 hAp hp hPl hpa hst cr hcA hSucc cu'
                  go_wp2
                  exact ⟨⟨0 + 1, by omega, by go_num, by go_num, hB⟩, by simp [intOf]; omega⟩
                · obtain ⟨d, rfl⟩ : ∃ d, k = d + 1 := ⟨k - 1, by omega⟩
                  obtain ⟨p', hp'⟩ := hPl.out d (by omega)
                  have hlt' := hst.out d (d + 1) p' p (by omega) hp' hp
                  have cq0 := cr.out d p' hp'
                  have cq := (hB.cell (p := ⟨g1, d, none⟩) (cell_lt cq0)).trans cq0
                  clear cp0 ca0 cq0 hAp hp hp' hPl hpa hst cr hcA hSucc cu' h0
                  go_wp2
                  exact ⟨⟨d + 1 + 1, by omega, by go_num, by go_num, hB⟩, by simp [intOf]; omega⟩
              · have hkq2 : k = q := by omega
                subst hkq2
                clear hPl hpa hst cr hcA cu'
                go_wp2
                exact ⟨⟨c + 1, by omega, by go_num, by rw [hSucc.out], hB⟩, by simp [intOf]; omega⟩
        · have hcm : c = m := by omega
          have hcn : cnt A c = n := by rw [hcm]; exact hall.out
          rw [hcn]
          replace hk := hk.keep hB
          clear hB hrow hsome hrise hall hcle hcA hcn
          go_wp2_with (go_at_call 15; refine (K8.out _ _ hk.2.1).mono ?_; rintro e w9 ⟨rfl, rfl⟩)
          go_ret
          exact ⟨rfl, hk.2.2⟩
end Go.Proofs.Ytpbjmdkfijlooaa

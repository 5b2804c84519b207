/- RuleMeans: it returns true. -/
import Derived.Test.YtnlpbhoilalgnaaRSet
import Derived.Deep.QuietTactic
import Derived.BigQuiet
import Derived.Deep.CutRange
namespace Go.Proofs.Ytnlpbhoilalgnaa
open Go.RowKit
theorem unl_one {P : List Int} (h : unl P ≤ 1) : ∀ x ∈ P, ∀ y ∈ P, x = y := by
  induction P using snoc_ind with
  | h0 => intro x hx; cases hx
  | h1 l z ih =>
    rw [unl_snoc] at h
    by_cases e : l = []
    · subst e
      intro x hx y hy
      simp at hx hy
      rw [hx, hy]
    · by_cases hz : z ∈ l
      · have ih' := ih (by rw [if_pos hz] at h; omega)
        have hm : ∀ x, x ∈ l ++ [z] → x ∈ l := fun x hx => by
          rcases List.mem_append.1 hx with h | h
          · exact h
          · rw [List.mem_singleton] at h; rw [h]; exact hz
        intro x hx y hy
        exact ih' x (hm x hx) y (hm y hy)
      · rw [if_neg hz] at h
        have hpos : 1 ≤ unl l := by
          clear ih h hz
          induction l using snoc_ind with
          | h0 => exact absurd rfl e
          | h1 l x ih =>
            rw [unl_snoc]
            by_cases e : l = []
            · subst e; simp
            · have := ih e; omega
        omega
theorem count_all {P : List Int} {x : Int} (h : ∀ y ∈ P, x = y) : P.count x = P.length := by
  rw [List.count_eq_length]
  exact h
theorem count_pos {P : List Int} {x : Int} (h : x ∈ P) : 1 ≤ P.count x := List.count_pos_iff.2 h
/-- What is known of a rule that holds, with all its labels there. -/
theorem holds_facts {r : Rl} {B : List Int} (h : holds r B = true) (hB : B.length ≤ 40) : ∃ (T : List Nat), r.steps = ints T ∧ T.length ≤ 12 ∧ 1 ≤ T.length ∧ (∀ t ∈ T, t < B.length) ∧ (labs B r.steps).length = T.length ∧ (∀ i t : Nat, T[i]? = some t → ∃ y, B[t]? = some y ∧ (labs B r.steps)[i]? = some y) ∧ means r.kind r.k (labs B r.steps) 0 = true ∧ (r.kind = 1 ∨ r.kind = 2 ∨ r.kind = 3 ∨ r.kind = 4 ∨ r.kind = 5) := by
  unfold holds early at h
  rw [Bool.and_eq_true, Bool.and_eq_true] at h
  obtain ⟨⟨hc, _⟩, hm⟩ := h
  have hris : ris B.length 0 r.steps = true := by simp [chk] at hc; exact hc.1.2
  have hnum : numF r.kind r.k r.steps.length = true := by simp [chk] at hc; exact hc.2
  have h12 : (B.length : Int) ≤ 12 := by simp [chk] at hc; omega
  obtain ⟨T, hT⟩ := ris_nat hris (Int.le_refl _)
  have hlt : ∀ t ∈ T, t < B.length := fun t ht => by
    have := (ris_mem hris (t : Int) (by rw [hT]; unfold ints; exact List.mem_map.2 ⟨t, ht, rfl⟩)).2
    omega
  have hTl : r.steps.length = T.length := by rw [hT, ints_len]
  have hlen := ris_len hris (by omega)
  have hl : labs B r.steps = T.map fun t => B[t]?.getD 0 := by
    rw [hT]
    clear hT hTl hlen hris hnum hc hm
    unfold labs ints
    rw [List.filterMap_map]
    induction T with
    | nil => rfl
    | cons a l ih =>
      have ha := hlt a List.mem_cons_self
      rw [List.filterMap_cons, List.map_cons, ← ih fun t ht => hlt t (List.mem_cons_of_mem _ ht)]
      simp [ha]
  have hll : (labs B r.steps).length = T.length := by rw [hl, List.length_map]
  have hk := hnum
  refine ⟨T, hT, by omega, ?_, hlt, hll, fun i t ht => ?_, ?_, ?_⟩
  · unfold numF at hnum
    rw [hTl] at hnum
    split at hnum
    · simp at hnum; omega
    · split at hnum
      · simp at hnum; omega
      · split at hnum
        · simp at hnum; omega
        · cases hnum
  · have := hlt t (List.mem_of_getElem? ht)
    refine ⟨B[t], List.getElem?_eq_getElem this, ?_⟩
    rw [hl, List.getElem?_map, ht]
    simp [this]
  · rwa [hll, hTl, Nat.sub_self] at hm
  · unfold numF at hk
    by_cases h1 : r.kind = 1 ∨ r.kind = 2
    · omega
    · rw [if_neg h1] at hk
      by_cases h2 : r.kind = 3 ∨ r.kind = 4
      · omega
      · rw [if_neg h2] at hk
        by_cases h3 : r.kind = 5
        · omega
        · rw [if_neg h3] at hk; cases hk
set_option maxRecDepth 100000 in
set_option maxHeartbeats 8000000 in
theorem ruleMeans_walk (n : Int) (L0 : List Rl) (B0 : List Int) (or : Option Addr) (cr : Nat) (oB : Option Addr) (cB : Nat) (on : Option Addr) (ln cn : Nat) (w : World) (hr : RowR w (.slice or L0.length cr) L0) (hl : RowI w (.slice oB B0.length cB) B0) :
    Calls Try.prog 4 #[.agg #[.int .i64 n, .slice or L0.length cr, .slice oB B0.length cB, .slice on ln cn]] w fun e w' => e = .returned (.bool true) ∧ Below w.heap.size w w' := by
  have hB : Hid (Below w.heap.size w (w.alloc (.cells #[.int .i64 n, .slice or L0.length cr, .slice oB B0.length cB, .slice on ln cn] 26))) := (Below.refl _ w).alloc (Nat.le_refl _) _
  have hbox : Hid (∀ V, Below (w.alloc (.cells #[.int .i64 n, .slice or L0.length cr, .slice oB B0.length cB, .slice on ln cn] 26)).heap.size (w.alloc (.cells #[.int .i64 n, .slice or L0.length cr, .slice oB B0.length cB, .slice on ln cn] 26)) V → V.cell? ⟨w.heap.size, 0, none⟩ = some (.int .i64 n) ∧ V.cell? ⟨w.heap.size, 2, none⟩ = some (.slice oB B0.length cB)) := fun V hV => by
    have e : V.heap[w.heap.size]? = some (.cells #[.int .i64 n, .slice or L0.length cr, .slice oB B0.length cB, .slice on ln cn] 26) := by
      rw [hV.block _ (by simp)]
      exact heap_new w _
    simp [World.cell?, e]
  have K1 := hide' (twinR L0 _ _ (hr.below hB.out (Nat.le_refl _)))
  have K2 : Hid (∀ V, Below w.heap.size w V → Calls Try.prog 10 #[.slice oB B0.length cB] V fun e w' => ∃ ob cb, e = .returned (.slice ob (B0.take 40).length cb) ∧ RowI w' (.slice ob (B0.take 40).length cb) (B0.take 40) ∧ Below V.heap.size V w') := fun V hV => rowR B0 _ V (hl.below hV (Nat.le_refl _))
  have K9 := hide' wakesR
  clear hr hl
  go_enter Try.func4, Try.ntmps4
  go_wp2_with fail
  refine K1.out.mono ?_
  rintro e w1 ⟨ol, cl, rfl, hr1, hb1⟩
  obtain ⟨x0, x2⟩ := hbox.out _ hb1
  have hB1 : Hid (Below w.heap.size w w1) := hB.out.trans (hb1.mono hB.out.size)
  have hb1' := hide' hb1
  have hr1' := hide' hr1
  clear K1 hr1 hb1 hB
  go_wp2_with fail
  refine (K2.out _ hB1.out).mono ?_
  rintro e w2 ⟨ob, cb, rfl, hr2, hb2⟩
  have hS0 : Hid (St w w2 n ol cl (twin L0) ob cb (B0.take 40)) := ⟨(hbox.out _ (hb1'.out.trans (hb2.mono hb1'.out.size))).1, hr1'.out.below hb2 (Nat.le_refl _), hr2, hB1.out.trans (hb2.mono hB1.out.size), twin_len L0, fun r h => twin_steps h, by rw [List.length_take]; omega⟩
  have hTw := hide' (twin_twin L0)
  clear hr2 hb2 hb1' hr1' hB1 hbox K2 x0 x2
  generalize twin L0 = L at *
  generalize B0.take 40 = B at *
  clear hTw
  go_wp2
  go_loopw [5, 6, 7, 8, 9, 10, 11] (fun k _ _ _ _ _ _ wr => ∃ c : Nat, c ≤ L.length ∧ k = .int .i64 c ∧ Hid (St w wr n ol cl L ob cb B)) (fun k _ _ _ _ _ _ _ => ((L.length : Int) - intOf k).toNat)
  case atStart => exact ⟨0, Nat.zero_le _, rfl, hS0⟩
  case round =>
    clear hS0
    obtain ⟨c, hcl, rfl, hS⟩ := hrel
    have hf := hS.out.few
    by_cases hlt : c < L.length
    · as_aux_lemma =>
      obtain ⟨r, hx⟩ : ∃ r, L[c]? = some r := ⟨_, List.getElem?_eq_getElem hlt⟩
      obtain ⟨g, o, os, cs, rfl, hC, hV⟩ := hS.out.cells hx
      have hC' := hide' hC
      have hV' := hide' hV
      have hm := hS.out.low r (List.mem_of_getElem? hx)
      have KR := hide' (rowAgain hS.out)
      have KE : Hid (∀ V o1 k1, Below wr.heap.size wr V → RowI V (.slice o1 B.length k1) B → Calls Try.prog 13 #[.agg #[.int .i64 r.kind, .int .i64 r.k, .slice os r.steps.length cs], .slice o1 B.length k1] V fun e w' => e = .returned (.bool (holds r B)) ∧ Below V.heap.size V w') := fun V o1 k1 h1 h2 => holdsF r _ _ B V (hV V h1) h2 (by omega)
      have hd : Hid (Below wr.heap.size wr wr.drew) := (Below.refl _ _).drew
      have hBf := hS.out.fewB
      clear hC hV hx K9
      have hfacts : Hid (holds r B = true → _) := fun h => holds_facts h hBf
      obtain ⟨q, hq⟩ : ∃ q, q = r.steps.length := ⟨_, rfl⟩
      obtain ⟨kd, hkd⟩ : ∃ kd, kd = r.kind := ⟨_, rfl⟩
      obtain ⟨kk, hkk⟩ : ∃ kk, kk = r.k := ⟨_, rfl⟩
      rw [← hq, ← hkd, ← hkk] at KE
      have hC2 : Hid (∀ V, Below wr.heap.size wr V → V.cell? ⟨g, o + c * 3, none⟩ = some (.int .i64 kd) ∧ V.cell? ⟨g, o + c * 3 + 1, none⟩ = some (.int .i64 kk) ∧ V.cell? ⟨g, o + c * 3 + 2, none⟩ = some (.slice os q cs) ∧ V.cell? ⟨w.heap.size, 0, none⟩ = some (.int .i64 n)) := by
        rw [hq, hkd, hkk]; exact hC'
      clear hC'
      have hq' := hide' hq
      have hkd' := hide' hkd
      have hkk' := hide' hkk
      clear hq hkd hkk
      go_wp2_with fail
      go_region_held3 (fun V => V.cell? ⟨g, o + c * 3, none⟩ = some (.int .i64 kd) ∧ V.cell? ⟨g, o + c * 3 + 1, none⟩ = some (.int .i64 kk) ∧ V.cell? ⟨g, o + c * 3 + 2, none⟩ = some (.slice os q cs) ∧ V.cell? ⟨w.heap.size, 0, none⟩ = some (.int .i64 n)) (first | (exact hC2.out _ hd.out) | (exact hC2.out _ h1.out) | (exact hC2.out _ h2.out)) (first | (go_at_call 10; refine (KR.out _ hd.out).mono ?_; rintro e w3 ⟨o1, k1, rfl, hr3, hb⟩; have h1 : Hid (Below wr.heap.size wr w3) := hd.out.trans hb; clear hb) | (go_at_call 13; refine (KE.out _ _ _ h1.out hr3.out).mono ?_; rintro e w4 ⟨rfl, hb⟩; have h2 : Hid (Below wr.heap.size wr w4) := h1.out.trans (hb.mono h1.out.size); clear hb))
      all_goals
        have hS4 := hide' (hS.out.over h2.out)
        have hrow := hide' (hV'.out w4 h2.out)
        obtain ⟨z0, z1, z2, -⟩ := hC2.out w4 h2.out
        clear KR KE hC2 hr3 hS h1 h2 hV' hd
        cases hh : holds r B with
        | false =>
          clear hfacts hh
          go_wp2
          exact ⟨⟨c + 1, by omega, by go_num, hS4⟩, by simp [intOf]; omega⟩
        | true =>
          obtain ⟨T, hT, hT12, hT1, hTlt, hPl, hPat, hmean, hkind⟩ := hfacts.out hh
          clear hfacts hh
          rw [← hkd'.out, ← hkk'.out] at hmean
          rw [← hkd'.out] at hkind
          obtain ⟨P, hP⟩ : ∃ P, P = labs B r.steps := ⟨_, rfl⟩
          rw [← hP] at hPl hPat hmean
          have hqT : q = T.length := by rw [hq'.out, hT, ints_len]
          subst hqT
          have hcT : Hid (∀ i t : Nat, T[i]? = some t → ∃ gs ps, os = some ⟨gs, ps, none⟩ ∧ w4.cell? ⟨gs, ps + i, none⟩ = some (.int .i64 (t : Int))) := by
            obtain ⟨_, _, e, _, h⟩ := hrow.out
            cases e
            intro i t ht
            exact h i t (by rw [hT]; exact ints_at ht)
          have hcB : Hid (∀ i y, B[i]? = some y → ∃ gs ps, ob = some ⟨gs, ps, none⟩ ∧ w4.cell? ⟨gs, ps + i, none⟩ = some (.int .i64 y)) := by
            obtain ⟨_, _, e, _, h⟩ := hS4.out.lb
            cases e
            exact h
          have hPat' := hide' hPat
          have hTlt' := hide' hTlt
          have hmean' := hide' hmean
          have hkind' := hide' hkind
          clear hP hT hrow hPat hTlt hmean hkind hq' hkd' hkk' hm
          have hPl' := hide' hPl
          have hnone : Hid (T.length ≤ 12) := hT12
          clear hPl
          go_wp2
          go_loopw [7, 8, 9, 10, 11] (fun kn k _ _ _ wv => ∃ (a z : Nat), w4.drewN z = wv ∧ a ≤ T.length ∧ k = .int .i64 a ∧ kn = .int .i64 ((unl (P.take a) : Nat) : Int)) (fun _ k _ _ _ _ => ((T.length : Int) - intOf k).toNat)
          case atStart => exact ⟨0, 0, rfl, Nat.zero_le _, rfl, rfl⟩
          case round =>
            obtain ⟨a, z, rfl, hal, rfl, rfl⟩ := hrel
            by_cases halt : a < T.length
            · as_aux_lemma =>
              obtain ⟨t, ht⟩ : ∃ t, T[a]? = some t := ⟨_, List.getElem?_eq_getElem halt⟩
              obtain ⟨y, hy, hPy⟩ := hPat'.out a t ht
              obtain ⟨gs, ps, rfl, ct⟩ := hcT.out a t ht
              obtain ⟨gb, pb, rfl, cy⟩ := hcB.out t y hy
              have htB : t < B.length := hTlt'.out t (List.mem_of_getElem? ht)
              have htB' : (t : Int) < (B.length : Int) := by omega
              have htB2 : decide ((B.length : Int) ≤ (t : Int)) = false := decide_eq_false (by omega)
              have ht0 : decide ((t : Int) < 0) = false := decide_eq_false (by omega)
              have hu := unl_le (P.take a)
              have hu2 : unl (P.take a) ≤ 12 := by
                rw [List.length_take] at hu; omega
              have hN : Hid (unl (P.take (a + 1)) = unl (P.take a) + if y ∈ P.take a then 0 else 1) := by show _ = _; rw [List.take_add_one, hPy, show (some y).toList = [y] from rfl, unl_snoc]
              have hPy' := hide' hPy
              clear hu hPy hy ht
              generalize unl (P.take a) = un at *
              go_wp2
              go_loopw [9, 10, 11] (fun tm fs k wv => ∃ (b z tv : Nat), w4.drewN z = wv ∧ b ≤ T.length ∧ k = .int .i64 b ∧ tm = .int .i64 (tv : Int) ∧ tv ≤ b ∧ Hid (tv = (P.take b).count y) ∧ fs = .bool (decide (y ∉ P.take (min a b)))) (fun _ _ k _ => ((T.length : Int) - intOf k).toNat)
              case atStart => exact ⟨0, z, 0, rfl, Nat.zero_le _, rfl, rfl, Nat.le_refl _, by show _ = _; simp, by simp⟩
              case round =>
                clear z
                obtain ⟨b, z, tv, rfl, hbl, rfl, rfl, htv, hct, rfl⟩ := hrel
                by_cases hblt : b < T.length
                · as_aux_lemma =>
                  obtain ⟨t2, ht2⟩ : ∃ t, T[b]? = some t := ⟨_, List.getElem?_eq_getElem hblt⟩
                  obtain ⟨y2, hy2, hPy2⟩ := hPat'.out b t2 ht2
                  obtain ⟨gs2, ps2, e2, ct2⟩ := hcT.out b t2 ht2
                  cases e2
                  obtain ⟨gb2, pb2, e3, cy2⟩ := hcB.out t2 y2 hy2
                  cases e3
                  have htB3 : t2 < B.length := hTlt'.out t2 (List.mem_of_getElem? ht2)
                  have htB4 : (t2 : Int) < (B.length : Int) := by omega
                  have hCt : Hid ((P.take (b + 1)).count y = tv + if y2 = y then 1 else 0) := by
                    show _ = _
                    rw [List.take_add_one, hPy2, show (some y2).toList = [y2] from rfl, List.count_append, ← hct.out, List.count_singleton]
                    simp
                  have hMem : Hid (y ∈ P.take (b + 1) ↔ (y ∈ P.take b ∨ y = y2)) := by
                    show _ ↔ _
                    rw [List.take_add_one, hPy2, show (some y2).toList = [y2] from rfl]; simp
                  clear hct hPat' hcT hcB hTlt' hmean' hkind' hPl' hPy' ht2 hy2 hPy2 hN hS4 hnone
                  by_cases hyy : y = y2
                  · subst hyy
                    rw [if_pos rfl] at hCt
                    by_cases hfi : y ∈ P.take (min a b)
                    · have hd : decide (y ∉ P.take (min a b)) = false := by simpa using hfi
                      have hd2 : Hid (decide (y ∉ P.take (min a (b + 1))) = false) := by
                        show _ = _
                        simp only [decide_not, Bool.not_eq_false', decide_eq_true_iff]
                        exact (List.take_subset_take_left P (by omega : min a b ≤ min a (b + 1))) hfi
                      rw [hd]
                      clear hfi hd hMem
                      go_upto_region 19 with fail
                      go_quiet (fail)
                      go_wp2
                      exact ⟨⟨b + 1, z + nq, tv + 1, rfl, by omega, by go_num, by go_num, by omega, hCt.out.symm, by rw [hd2.out]⟩, by simp [intOf]; omega⟩
                    · have hd : decide (y ∉ P.take (min a b)) = true := by simpa using hfi
                      have hd2 : Hid (decide (y ∉ P.take (min a (b + 1))) = decide ((a : Int) ≤ (b : Int))) := by
                        show _ = _
                        by_cases hab : a ≤ b
                        · rw [show min a (b + 1) = min a b by omega, hd, decide_eq_true (by omega)]
                        · rw [show min a (b + 1) = b + 1 by omega, decide_eq_false (by omega : ¬ (a : Int) ≤ (b : Int))]
                          simp only [decide_not, Bool.not_eq_false', decide_eq_true_iff]
                          exact hMem.out.2 (.inr rfl)
                      rw [hd]
                      clear hfi hd hMem
                      go_upto_region 19 with fail
                      go_quiet (fail)
                      go_wp2
                      exact ⟨⟨b + 1, z + nq, tv + 1, rfl, by omega, by go_num, by go_num, by omega, hCt.out.symm, by rw [hd2.out]; congr 1; exact decide_eq_decide.2 (by omega)⟩, by simp [intOf]; omega⟩
                  · have hye : (y == y2) = false := by simpa using hyy
                    rw [if_neg (Ne.symm hyy)] at hCt
                    have hd2 : Hid (decide (y ∉ P.take (min a (b + 1))) = decide (y ∉ P.take (min a b))) := by
                      show _ = _
                      by_cases hab : a ≤ b
                      · rw [show min a (b + 1) = min a b by omega]
                      · rw [show min a (b + 1) = b + 1 by omega, show min a b = b by omega]
                        refine decide_eq_decide.2 (not_congr ?_)
                        rw [hMem.out]
                        exact ⟨fun h => h.elim id fun e => absurd e hyy, .inl⟩
                    clear hMem hyy
                    generalize decide (y ∉ P.take (min a b)) = fb at *
                    go_upto_region 19 with fail
                    go_quiet (fail)
                    go_wp2
                    exact ⟨⟨b + 1, z + nq, tv, rfl, by omega, by go_num, by go_num, by omega, hCt.out.symm, by rw [hd2.out]⟩, by simp [intOf]; omega⟩
                · as_aux_lemma =>
                  obtain rfl : b = T.length := by omega
                  rw [← hPl'.out, List.take_length] at hct
                  rw [show min a T.length = a by omega]
                  have hyP : y ∈ P := List.mem_of_getElem? hPy'.out
                  have hf1 := hide' (count_pos hyP)
                  rw [← hct.out] at hf1
                  have hk1 : Hid (kd = 1 → tv = 1) := fun e => by
                    have h := hmean'.out
                    simp only [means, if_pos e, decide_eq_true_iff, mst_le] at h
                    have := h y
                    have := hf1.out
                    rw [hct.out] at *; omega
                  have hk2 : Hid (kd = 2 → tv = T.length) := fun e => by
                    have h := hmean'.out
                    simp only [means, if_neg (by omega : ¬ kd = 1), if_pos e, decide_eq_true_iff] at h
                    rw [hct.out, count_all fun x hx => unl_one h y hyP x hx, hPl'.out]
                  have hk3 : Hid (kd = 3 → (tv : Int) ≤ kk) := fun e => by
                    have h := hmean'.out
                    simp only [means, if_neg (by omega : ¬ kd = 1), if_neg (by omega : ¬ kd = 2), if_pos e, decide_eq_true_iff] at h
                    have := (mst_le P (mst P)).1 (Nat.le_refl _) y
                    rw [hct.out]; omega
                  clear hct hPat' hcT hcB hTlt' hmean' hPl' hPy' hyP hf1 hnone
                  by_cases hfi : y ∈ P.take a
                  · have hd : decide (y ∉ P.take a) = false := by simpa using hfi
                    rw [hd]
                    rw [if_pos hfi] at hN
                    clear hfi hd
                    rcases hkind'.out with rfl | rfl | rfl | rfl | rfl
                    · obtain rfl := hk1.out rfl
                      clear hk1 hk2 hk3 hkind'
                      go_wp2
                      exact ⟨⟨a + 1, z, rfl, by omega, by go_num, by rw [hN.out]; rfl⟩, by simp [intOf]; omega⟩
                    · obtain rfl := hk2.out rfl
                      clear hk1 hk2 hk3 hkind'
                      go_wp2
                      exact ⟨⟨a + 1, z, rfl, by omega, by go_num, by rw [hN.out]; rfl⟩, by simp [intOf]; omega⟩
                    · have e3 := hk3.out rfl
                      have e3' : ¬ kk < (tv : Int) := by omega
                      clear hk1 hk2 hk3 hkind'
                      go_wp2
                      exact ⟨⟨a + 1, z, rfl, by omega, by go_num, by rw [hN.out]; rfl⟩, by simp [intOf]; omega⟩
                    · clear hk1 hk2 hk3 hkind'
                      go_wp2
                      exact ⟨⟨a + 1, z, rfl, by omega, by go_num, by rw [hN.out]; rfl⟩, by simp [intOf]; omega⟩
                    · clear hk1 hk2 hk3 hkind'
                      go_wp2
                      exact ⟨⟨a + 1, z, rfl, by omega, by go_num, by rw [hN.out]; rfl⟩, by simp [intOf]; omega⟩
                  · have hd : decide (y ∉ P.take a) = true := by simpa using hfi
                    rw [hd]
                    rw [if_neg hfi] at hN
                    clear hfi hd
                    rcases hkind'.out with rfl | rfl | rfl | rfl | rfl
                    · obtain rfl := hk1.out rfl
                      clear hk1 hk2 hk3 hkind'
                      go_wp2
                      exact ⟨⟨a + 1, z, rfl, by omega, by go_num, by rw [hN.out]; go_num⟩, by simp [intOf]; omega⟩
                    · obtain rfl := hk2.out rfl
                      clear hk1 hk2 hk3 hkind'
                      go_wp2
                      exact ⟨⟨a + 1, z, rfl, by omega, by go_num, by rw [hN.out]; go_num⟩, by simp [intOf]; omega⟩
                    · have e3 := hk3.out rfl
                      have e3' : ¬ kk < (tv : Int) := by omega
                      clear hk1 hk2 hk3 hkind'
                      go_wp2
                      exact ⟨⟨a + 1, z, rfl, by omega, by go_num, by rw [hN.out]; go_num⟩, by simp [intOf]; omega⟩
                    · clear hk1 hk2 hk3 hkind'
                      go_wp2
                      exact ⟨⟨a + 1, z, rfl, by omega, by go_num, by rw [hN.out]; go_num⟩, by simp [intOf]; omega⟩
                    · clear hk1 hk2 hk3 hkind'
                      go_wp2
                      exact ⟨⟨a + 1, z, rfl, by omega, by go_num, by rw [hN.out]; go_num⟩, by simp [intOf]; omega⟩
            · as_aux_lemma =>
              obtain rfl : a = T.length := by omega
              rw [← hPl'.out, List.take_length]
              have hk4 : Hid (kd = 4 → (unl P : Int) ≤ kk) := fun e => by
                have h := hmean'.out
                simp only [means, if_neg (by omega : ¬ kd = 1), if_neg (by omega : ¬ kd = 2), if_neg (by omega : ¬ kd = 3), if_pos e, decide_eq_true_iff] at h
                exact h
              have hk5 : Hid (kd = 5 → kk ≤ (unl P : Int)) := fun e => by
                have h := hmean'.out
                simp only [means, if_neg (by omega : ¬ kd = 1), if_neg (by omega : ¬ kd = 2), if_neg (by omega : ¬ kd = 3), if_neg (by omega : ¬ kd = 4), decide_eq_true_iff] at h
                omega
              have hS5 := hide' (hS4.out.over (drew_belowR w4 z))
              rw [hPl'.out]
              clear hPat' hcT hcB hTlt' hmean' hPl' hS4
              generalize unl P = up at *
              rcases hkind'.out with rfl | rfl | rfl | rfl | rfl
              all_goals
                have e4 := hk4.out
                have e5 := hk5.out
                clear hk4 hk5 hkind'
                simp at e4 e5
                go_wp2
                exact ⟨⟨c + 1, by omega, by go_num, hS5⟩, by simp [intOf]; omega⟩
    · go_wp2_with (go_at_call 18; refine (K9.out _).mono ?_; rintro e w3 ⟨rfl, hb⟩)
      go_ret
      exact ⟨rfl, (hS.out.over hb).bl⟩
end Go.Proofs.Ytnlpbhoilalgnaa

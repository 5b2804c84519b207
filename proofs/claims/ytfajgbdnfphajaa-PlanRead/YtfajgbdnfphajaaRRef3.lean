/- The document's keeps, Early, Holds, Broken: what they answer. -/
import Derived.Test.YtfajgbdnfphajaaRRef
import Derived.Test.YtfajgbdnfphajaaRRef2
namespace Go.Proofs.Ytfajgbdnfphajaa
open Go.RowKit
theorem apart_eq (P : List Int) : ((unl P : Int) == (P.length : Int)) = decide (mst P ≤ 1) := by
  rw [Bool.eq_iff_iff, decide_eq_true_iff, mst_one, ← unl_full, beq_iff_eq]
  omega
set_option maxRecDepth 100000 in
set_option maxHeartbeats 4000000 in
theorem rKeeps (a b : Int) (sv lv : Value) (P : List Int) (left : Nat) (w : World) (hs : ∃ oa n cap, sv = .slice oa n cap) (hl : RowI w lv P) (hP : P.length ≤ 1000) (hle : left ≤ 1000) (hk : a = 1 ∨ a = 2 ∨ a = 3 ∨ a = 4 ∨ a = 5) :
    Calls Try.prog 52 #[.agg #[.int .i64 a, .int .i64 b, sv], lv, .int .i64 (left : Int)] w fun e w' => e = .returned (.bool (means a b P left)) ∧ Below w.heap.size w w' := by
  obtain ⟨oa, n, cap, rfl⟩ := hs
  have KU : Hid (∀ W, Below w.heap.size w W → Calls Try.prog 59 #[lv] W fun e w' => e = .returned (.int .i64 (unl P : Nat)) ∧ Below W.heap.size W w') := fun W hW => rUnlike P lv W (hl.below hW (Nat.le_refl _)) (by omega)
  have KO : Hid (∀ W, Below w.heap.size w W → Calls Try.prog 60 #[lv] W fun e w' => e = .returned (.int .i64 (mst P : Nat)) ∧ Below W.heap.size W w') := fun W hW => rOften P lv W (hl.below hW (Nat.le_refl _)) (by omega)
  obtain ⟨ob, cb, rfl, _, _⟩ := hl
  have hB : Hid (Below w.heap.size w (w.alloc (.cells #[.int .i64 a, .int .i64 b, .slice oa n cap] 62))) := (Below.refl _ w).alloc (Nat.le_refl _) _
  have hbox : Hid (∀ V, Below (w.alloc (.cells #[.int .i64 a, .int .i64 b, .slice oa n cap] 62)).heap.size (w.alloc (.cells #[.int .i64 a, .int .i64 b, .slice oa n cap] 62)) V → V.cell? ⟨w.heap.size, 1, none⟩ = some (.int .i64 b)) := fun V hV => by
    have e : V.heap[w.heap.size]? = some (.cells #[.int .i64 a, .int .i64 b, .slice oa n cap] 62) := by
      rw [hV.block _ (by simp)]
      exact heap_new w _
    simp [World.cell?, e]
  have hA := hide' (apart_eq P)
  have hul := unl_le P
  have hwr : IntKind.i64.wrap ((unl P : Int) + (left : Int)) = (unl P : Int) + (left : Int) := by
    rw [IntKind.wrap_i64]
    omega
  have hM := hide' (rfl : means a b P left = means a b P left)
  generalize hmm : means a b P left = res at *
  unfold means at hmm
  have hmm' := hide' hmm
  clear hmm hM
  generalize hu : unl P = u at *
  generalize mst P = m at *
  generalize P.length = q at *
  clear hu
  rcases hk with rfl | rfl | rfl | rfl | rfl
  · have hR : Hid (res = ((u : Int) == (q : Int))) := by show _ = _; rw [hA.out]; exact hmm'.out.symm
    clear KO hmm' hA hbox
    go_enter Try.func52, Try.ntmps52
    go_wp2_with (go_at_call 59; refine (KU.out _ hB.out).mono ?_; rintro e w1 ⟨rfl, hb1⟩)
    go_ret
    exact ⟨ret_bool hR.out.symm, hB.out.trans (hb1.mono hB.out.size)⟩
  · have hR : Hid (res = decide ((u : Int) ≤ 1)) := by
      show _ = _
      rw [← hmm'.out]; simp; omega
    clear KO hmm' hA hbox
    go_enter Try.func52, Try.ntmps52
    go_wp2_with (go_at_call 59; refine (KU.out _ hB.out).mono ?_; rintro e w1 ⟨rfl, hb1⟩)
    go_ret
    exact ⟨ret_bool hR.out.symm, hB.out.trans (hb1.mono hB.out.size)⟩
  · have hR : Hid (res = decide ((m : Int) ≤ b)) := by
      show _ = _
      rw [← hmm'.out]; rfl
    have hBd : Hid (Below w.heap.size w (w.alloc (.cells #[.int .i64 3, .int .i64 b, .slice oa n cap] 62)).drew) := hB.out.drew
    have hS := hide' (hbox.out (w.alloc (.cells #[.int .i64 3, .int .i64 b, .slice oa n cap] 62)).drew (Below.refl _ _).drew)
    clear KU hmm' hA
    go_enter Try.func52, Try.ntmps52
    go_wp2_with fail
    go_region_held3 (fun V => V.cell? ⟨w.heap.size, 1, none⟩ = some (.int .i64 b)) (first | (exact hS.out) | (exact hbox.out _ hb1.out)) (first | (go_at_call 60; refine (KO.out _ hBd.out).mono ?_; rintro e w1 ⟨rfl, hb1'⟩; have hb1 : Hid (Below (w.alloc (.cells #[.int .i64 3, .int .i64 b, .slice oa n cap] 62)).heap.size (w.alloc (.cells #[.int .i64 3, .int .i64 b, .slice oa n cap] 62)) w1) := ((Below.refl _ _).drew.trans hb1'); clear hb1'))
    all_goals
      clear hS hbox
      go_wp2
      go_ret
      exact ⟨ret_bool hR.out.symm, hB.out.trans (hb1.out.mono hB.out.size)⟩
  · have hR : Hid (res = decide ((u : Int) ≤ b)) := by
      show _ = _
      rw [← hmm'.out]; rfl
    have hBd : Hid (Below w.heap.size w (w.alloc (.cells #[.int .i64 4, .int .i64 b, .slice oa n cap] 62)).drew) := hB.out.drew
    have hS := hide' (hbox.out (w.alloc (.cells #[.int .i64 4, .int .i64 b, .slice oa n cap] 62)).drew (Below.refl _ _).drew)
    clear KO hmm' hA
    go_enter Try.func52, Try.ntmps52
    go_wp2_with fail
    go_region_held3 (fun V => V.cell? ⟨w.heap.size, 1, none⟩ = some (.int .i64 b)) (first | (exact hS.out) | (exact hbox.out _ hb1.out)) (first | (go_at_call 59; refine (KU.out _ hBd.out).mono ?_; rintro e w1 ⟨rfl, hb1'⟩; have hb1 : Hid (Below (w.alloc (.cells #[.int .i64 4, .int .i64 b, .slice oa n cap] 62)).heap.size (w.alloc (.cells #[.int .i64 4, .int .i64 b, .slice oa n cap] 62)) w1) := ((Below.refl _ _).drew.trans hb1'); clear hb1'))
    all_goals
      clear hS hbox
      go_wp2
      go_ret
      exact ⟨ret_bool hR.out.symm, hB.out.trans (hb1.out.mono hB.out.size)⟩
  · have hR : Hid (res = decide (b ≤ (u : Int) + (left : Int))) := by
      show _ = _
      rw [← hmm'.out]; rfl
    have hBd : Hid (Below w.heap.size w (w.alloc (.cells #[.int .i64 5, .int .i64 b, .slice oa n cap] 62)).drew) := hB.out.drew
    have hS := hide' (hbox.out (w.alloc (.cells #[.int .i64 5, .int .i64 b, .slice oa n cap] 62)).drew (Below.refl _ _).drew)
    clear KO hmm' hA
    go_enter Try.func52, Try.ntmps52
    go_wp2_with fail
    go_region_held3 (fun V => V.cell? ⟨w.heap.size, 1, none⟩ = some (.int .i64 b)) (first | (exact hS.out) | (exact hbox.out _ hb1.out)) (first | (go_at_call 59; refine (KU.out _ hBd.out).mono ?_; rintro e w1 ⟨rfl, hb1'⟩; have hb1 : Hid (Below (w.alloc (.cells #[.int .i64 5, .int .i64 b, .slice oa n cap] 62)).heap.size (w.alloc (.cells #[.int .i64 5, .int .i64 b, .slice oa n cap] 62)) w1) := ((Below.refl _ _).drew.trans hb1'); clear hb1'))
    all_goals
      clear hS hbox
      go_wp2
      go_ret
      exact ⟨ret_bool hR.out.symm, hB.out.trans (hb1.out.mono hB.out.size)⟩
set_option maxRecDepth 100000 in
set_option maxHeartbeats 4000000 in
theorem rEarly (r : Rl) (n : Int) (sv lv : Value) (L : List Int) (w : World) (hs : RowI w sv r.steps) (hl : RowI w lv L) (hm : r.steps.length ≤ 1000) :
    Calls Try.prog 46 #[rv r sv, .int .i64 n, lv] w fun e w' => e = .returned (.bool (early r n L)) ∧ Below w.heap.size w w' := by
  obtain ⟨i0, hi, hz0, hz1, hz2⟩ := info_parts info3
  have KC : Hid (∀ W, Below w.heap.size w W → Calls Try.prog 42 #[.int .i64 n, rv r sv] W fun e w' => e = .returned (.bool (chk n r)) ∧ Below W.heap.size W w') := fun W hW => rCheck n r sv W (hs.below hW (Nat.le_refl _)) (by omega)
  obtain ⟨oa, ca, rfl, hcapa, hca⟩ := hs
  obtain ⟨ob, cb, rfl, hcapb, hcb⟩ := hl
  have hca' := hide' hca
  have hcb' := hide' hcb
  clear hcapa hcapb hca hcb
  unfold rv at KC ⊢
  have hB : Hid (Below w.heap.size w (w.alloc (.cells #[.int .i64 r.kind, .int .i64 r.k, .slice oa r.steps.length ca] 62))) := (Below.refl _ w).alloc (Nat.le_refl _) _
  cases hk : chk n r with
  | false =>
    have hR : Hid (early r n L = false) := by show _ = _; unfold early; rw [hk]; rfl
    rw [hk] at KC
    clear hk hca' hcb'
    go_enter Try.func46, Try.ntmps46
    go_wp2_with (go_at_call 42; refine (KC.out _ hB.out).mono ?_; rintro e w1 ⟨rfl, hb1⟩)
    go_ret
    exact ⟨ret_bool hR.out.symm, hB.out.trans (hb1.mono hB.out.size)⟩
  | true =>
    rw [hk] at KC
    by_cases hln : (L.length : Int) ≤ n
    · have hris : ris n 0 r.steps = true := by
        simp [chk] at hk; exact hk.1.2
      have hnum : numF r.kind r.k r.steps.length = true := by
        simp [chk] at hk; exact hk.2
      obtain ⟨T, hT⟩ := ris_nat hris (Int.le_refl _)
      have hTl : r.steps.length = T.length := by rw [hT, ints_len]
      have hKn : r.kind = 1 ∨ r.kind = 2 ∨ r.kind = 3 ∨ r.kind = 4 ∨ r.kind = 5 := by
        unfold numF at hnum
        by_cases h1 : r.kind = 1 ∨ r.kind = 2
        · omega
        · rw [if_neg h1] at hnum
          by_cases h2 : r.kind = 3 ∨ r.kind = 4
          · omega
          · rw [if_neg h2] at hnum
            by_cases h3 : r.kind = 5
            · omega
            · rw [if_neg h3] at hnum; cases hnum
      have hR : Hid (early r n L = means r.kind r.k (labs L (ints T)) (T.length - (labs L (ints T)).length)) := by
        show _ = _
        unfold early
        rw [hk, decide_eq_true hln, hT, ints_len]; rfl
      have hln' : ¬ n < (L.length : Int) := by omega
      rw [hTl] at hB KC hm ⊢
      have hca2 : Hid (∀ (i t : Nat), T[i]? = some t → ∃ g o, oa = some ⟨g, o, none⟩ ∧ w.cell? ⟨g, o + i, none⟩ = some (.int .i64 (t : Int))) := fun i t ht => hca'.out i t (by rw [hT]; exact ints_at ht)
      have hKn' := hide' hKn
      clear hris hnum hk hT hTl hln hca' hKn
      generalize r.kind = kd at *
      generalize r.k = kk at *
      go_enter Try.func46, Try.ntmps46
      go_wp2_with (go_at_call 42; refine (KC.out _ hB.out).mono ?_; rintro e w1 ⟨rfl, hb1⟩)
      have hB1 : Hid (Below w.heap.size w w1) := hB.out.trans (hb1.mono hB.out.size)
      have hbox : Hid (∀ V, Below (w.heap.size + 1) w1 V → V.cell? ⟨w.heap.size, 0, none⟩ = some (.int .i64 kd) ∧ V.cell? ⟨w.heap.size, 1, none⟩ = some (.int .i64 kk) ∧ V.cell? ⟨w.heap.size, 2, none⟩ = some (.slice oa T.length ca)) := fun V hV => by
        have e : V.heap[w.heap.size]? = some (.cells #[.int .i64 kd, .int .i64 kk, .slice oa T.length ca] 62) := by
          rw [hV.block _ (Nat.lt_succ_self _), hb1.block _ (by simp)]
          exact heap_new w _
        simp [World.cell?, e]
      have hsz : Hid (w.heap.size + 1 ≤ w1.heap.size) := by
        have := hb1.size
        rwa [World.size_alloc] at this
      clear hb1 KC
      go_loopw [7, 8, 9] (fun v lf k wr => ∃ (c o : Nat), c ≤ T.length ∧ k = .int .i64 c ∧ lf = .int .i64 (o : Int) ∧ o ≤ c ∧ Hid (o + (labs L (ints (T.take c))).length = c) ∧ Hid (wr.ownsRow w1.heap.size 3 1 v (labs L (ints (T.take c))).length (cellsI (labs L (ints (T.take c))))) ∧ Hid (Below w1.heap.size w1 wr)) (fun _ _ k _ => ((T.length : Int) - intOf k).toNat)
      case atStart => exact ⟨0, 0, Nat.zero_le _, rfl, rfl, Nat.le_refl _, rfl, World.ownsRow_nil _ _ _ _, Below.refl _ _⟩
      case round =>
        obtain ⟨c, o, hcl, rfl, rfl, hoc, hq, hO, hBr⟩ := hrel
        obtain ⟨x0, x1, x2⟩ := hbox.out wr (hBr.out.mono hsz.out)
        have hB2 : Hid (Below w.heap.size w wr) := hB1.out.trans (hBr.out.mono hB1.out.size)
        by_cases hlt : c < T.length
        · obtain ⟨t, ht⟩ : ∃ t, T[c]? = some t := ⟨_, List.getElem?_eq_getElem hlt⟩
          obtain ⟨g, p, rfl, c1'⟩ := hca2.out c t ht
          have c1 := (hB2.out.cell (p := ⟨g, p + c, none⟩) (cell_lt c1')).trans c1'
          by_cases htl : t < L.length
          · obtain ⟨y, hy⟩ : ∃ y, L[t]? = some y := ⟨_, List.getElem?_eq_getElem htl⟩
            obtain ⟨g2, p2, rfl, c2'⟩ := hcb'.out t y hy
            have c2 := (hB2.out.cell (p := ⟨g2, p2 + t, none⟩) (cell_lt c2')).trans c2'
            have htl' : (t : Int) < (L.length : Int) := by omega
            have hN := hide' (labs_more ht hy)
            have hll := labs_le L T c
            clear hca2 hcb' c1' c2' ht hy hbox hKn'
            generalize hql : (labs L (ints (T.take c))).length = ql at *
            go_wp2_with (at_builtin; refine wpList_append_own _ rfl _ _ 24 rfl w1.heap.size 3 i0 (.int .i64 0) 1 8 Try.underlying24 hi hz0 hz1 hz2 rfl (by decide) _ ql (cellsI (labs L (ints (T.take c)))) rfl (hO.out.alloc _) ⟨wr.heap.size, 0, none⟩ 1 1 [.int .i64 y] rfl rfl (World.news_of_block (cs := #[.int .i64 y]) (heap_new _ _)) (by simp [Value.oneCell']) (by unfold maxLen; omega) (by omega) (by have := hBr.out.size; simp; omega) ?_; intro v1 w2 hown2 hgrow2 _; have hO2 := hide' hown2; have hG2 := hide' hgrow2; clear hown2 hgrow2)
            refine ⟨⟨c + 1, o, by omega, by go_num, rfl, by omega, ?_, ?_, (hBr.out.alloc hBr.out.size _).grown hG2.out (by simp; exact Nat.le_trans hBr.out.size (Nat.le_succ _)) (fun j ej => own_ge' hO.out ej)⟩, by simp [intOf]; omega⟩
            · show _ = _
              rw [hN.out, List.length_append, hql, List.length_singleton]
              have := hq.out; omega
            · rw [hN.out, List.length_append, hql, show cellsI (labs L (ints (T.take c)) ++ [y]) = cellsI (labs L (ints (T.take c))) ++ [.int .i64 y] by simp [cellsI]]
              exact hO2.out
          · have htl' : ¬ (t : Int) < (L.length : Int) := by omega
            have hN := hide' (labs_same (L := L) ht (List.getElem?_eq_none (by omega)))
            clear hca2 hcb' c1' ht hbox hKn'
            go_wp2
            exact ⟨⟨c + 1, o + 1, by omega, by go_num, by go_num, by omega, by show _ = _; rw [hN.out]; have := hq.out; omega, by rw [hN.out]; exact hO, hBr⟩, by simp [intOf]; omega⟩
        · obtain rfl : c = T.length := by omega
          rw [List.take_length] at hO hq
          have hlen : (labs L (ints T)).length ≤ 1000 := by
            have := hq.out; omega
          have KK : Hid (Calls Try.prog 52 #[.agg #[.int .i64 kd, .int .i64 kk, .slice oa T.length ca], u7, .int .i64 (o : Int)] wr fun e w' => e = .returned (.bool (early r n L)) ∧ Below wr.heap.size wr w') := by
            have := rKeeps kd kk (.slice oa T.length ca) u7 (labs L (ints T)) o wr ⟨_, _, _, rfl⟩ (RowI.of_owns hO.out) hlen (by omega) hKn'.out
            rw [hR.out, show T.length - (labs L (ints T)).length = o by have := hq.out; omega]
            exact this
          clear hca2 hcb' hbox hO hR hq hlen
          go_wp2_with (go_at_call 52; refine KK.out.mono ?_; rintro e w3 ⟨rfl, hb3⟩)
          go_ret
          exact ⟨rfl, hB2.out.trans (hb3.mono hB2.out.size)⟩
    · have hR : Hid (early r n L = false) := by show _ = _; unfold early; rw [hk, decide_eq_false hln]; rfl
      have hln' : n < (L.length : Int) := by omega
      clear hk hca' hcb' hln
      go_enter Try.func46, Try.ntmps46
      go_wp2_with (go_at_call 42; refine (KC.out _ hB.out).mono ?_; rintro e w1 ⟨rfl, hb1⟩)
      go_ret
      exact ⟨ret_bool hR.out.symm, hB.out.trans (hb1.mono hB.out.size)⟩
theorem holds_chk {r : Rl} {L : List Int} (h : chk L.length r = false) : holds r L = false := by unfold holds early; rw [h]; rfl
set_option maxRecDepth 100000 in
set_option maxHeartbeats 2000000 in
theorem rHolds (r : Rl) (sv lv : Value) (L : List Int) (w : World) (hs : RowI w sv r.steps) (hl : RowI w lv L) (hm : r.steps.length ≤ 1000) :
    Calls Try.prog 43 #[rv r sv, lv] w fun e w' => e = .returned (.bool (holds r L)) ∧ Below w.heap.size w w' := by
  have KC : Hid (∀ W, Below w.heap.size w W → Calls Try.prog 42 #[.int .i64 L.length, rv r sv] W fun e w' => e = .returned (.bool (chk L.length r)) ∧ Below W.heap.size W w') := fun W hW => rCheck L.length r sv W (hs.below hW (Nat.le_refl _)) (by omega)
  have KE : Hid (∀ W, Below w.heap.size w W → Calls Try.prog 46 #[rv r sv, .int .i64 L.length, lv] W fun e w' => e = .returned (.bool (holds r L)) ∧ Below W.heap.size W w') := fun W hW => rEarly r L.length sv lv L W (hs.below hW (Nat.le_refl _)) (hl.below hW (Nat.le_refl _)) hm
  obtain ⟨oa, ca, rfl, _, _⟩ := hs
  obtain ⟨ob, cb, rfl, _, _⟩ := hl
  unfold rv at KC KE ⊢
  have hB : Hid (Below w.heap.size w (w.alloc (.cells #[.int .i64 r.kind, .int .i64 r.k, .slice oa r.steps.length ca] 62))) := (Below.refl _ w).alloc (Nat.le_refl _) _
  cases hk : chk L.length r with
  | false =>
    have hR := hide' (holds_chk hk)
    rw [hk] at KC
    clear hk KE
    go_enter Try.func43, Try.ntmps43
    go_wp2_with (go_at_call 42; refine (KC.out _ hB.out).mono ?_; rintro e w1 ⟨rfl, hb1⟩)
    go_ret
    exact ⟨ret_bool hR.out.symm, hB.out.trans (hb1.mono hB.out.size)⟩
  | true =>
    rw [hk] at KC
    clear hk
    go_enter Try.func43, Try.ntmps43
    go_wp2_with (go_at_call 42; refine (KC.out _ hB.out).mono ?_; rintro e w1 ⟨rfl, hb1'⟩; have hb1 := hide' hb1'; have hB1 : Hid (Below w.heap.size w w1) := (hB.out.trans (hb1'.mono hB.out.size)); have x : w1.heap[w.heap.size]? = some (.cells #[.int .i64 r.kind, .int .i64 r.k, .slice oa r.steps.length ca] 62) := (by rw [hb1'.block _ (by simp)]; exact heap_new w _); have x0 : w1.cell? ⟨w.heap.size, 0, none⟩ = some (.int .i64 r.kind) := (by simp [World.cell?, x]); have x1 : w1.cell? ⟨w.heap.size, 1, none⟩ = some (.int .i64 r.k) := (by simp [World.cell?, x]); have x2 : w1.cell? ⟨w.heap.size, 2, none⟩ = some (.slice oa r.steps.length ca) := (by simp [World.cell?, x]); clear hb1' x)
    refine (KE.out _ hB1.out).mono ?_
    rintro e w2 ⟨rfl, hb2⟩
    go_wp2
    go_ret
    exact ⟨rfl, hB1.out.trans (hb2.mono hB1.out.size)⟩
set_option maxRecDepth 100000 in
set_option maxHeartbeats 4000000 in
theorem rBroken (R : List Rl) (v lv : Value) (L : List Int) (w : World) (hr : RowR w v R) (hl : RowI w lv L) (hR : R.length ≤ 1000) (hm : ∀ r ∈ R, r.steps.length ≤ 1000) :
    Calls Try.prog 34 #[v, lv] w fun e w' => ∃ v', e = .returned v' ∧ w'.ownsRow w.heap.size 3 1 v' (broken R L).length (cellsI (ints (broken R L))) ∧ Below w.heap.size w w' := by
  obtain ⟨i0, hi, hz0, hz1, hz2⟩ := info_parts info3
  have KH : Hid (∀ r sv W, r ∈ R → RowI w sv r.steps → Below w.heap.size w W → Calls Try.prog 43 #[rv r sv, lv] W fun e w' => e = .returned (.bool (holds r L)) ∧ Below W.heap.size W w') := fun r sv W hr hs hW => rHolds r sv lv L W (hs.below hW (Nat.le_refl _)) (hl.below hW (Nat.le_refl _)) (hm r hr)
  obtain ⟨oa, cap, rfl, hcap, hc⟩ := hr
  obtain ⟨ob, cb, rfl, _, _⟩ := hl
  have hc' := hide' hc
  clear hc hcap hm
  rw [brk_all]
  go_enter Try.func34, Try.ntmps34
  go_wp2
  go_loopw [5, 6] (fun v k wr => ∃ (c : Nat), c ≤ R.length ∧ k = .int .i64 c ∧ Hid (wr.ownsRow w.heap.size 3 1 v (brk R L c).length (cellsI (ints (brk R L c)))) ∧ Hid (Below w.heap.size w wr)) (fun _ k _ => ((R.length : Int) - intOf k).toNat)
  case atStart => exact ⟨0, Nat.zero_le _, rfl, World.ownsRow_nil _ _ _ _, Below.refl _ _⟩
  case round =>
    obtain ⟨c, hcl, rfl, hO, hB⟩ := hrel
    by_cases hlt : c < R.length
    · obtain ⟨r, hx⟩ : ∃ x, R[c]? = some x := ⟨_, List.getElem?_eq_getElem hlt⟩
      obtain ⟨g, o, sv, rfl, c1', c2', c3', hs⟩ := hc'.out c r hx
      have c1 := (hB.out.cell (p := ⟨g, o + c * 3, none⟩) (cell_lt c1')).trans c1'
      have c2 := (hB.out.cell (p := ⟨g, o + c * 3 + 1, none⟩) (cell_lt c2')).trans c2'
      have c3 := (hB.out.cell (p := ⟨g, o + c * 3 + 2, none⟩) (cell_lt c3')).trans c3'
      have hN := hide' (brk_snoc R L hx)
      have hbl := brk_len R L c
      have hH := hide' (KH.out r sv wr (List.mem_of_getElem? hx) hs hB.out)
      obtain ⟨os, cs, rfl, _, _⟩ := hs
      unfold rv at hH
      clear KH hc' c1' c2' c3' hx
      generalize r.steps.length = q at *
      generalize r.kind = kd at *
      generalize r.k = kk at *
      cases hh : holds r L with
      | true =>
        rw [hh] at hH
        rw [hh, if_pos rfl, List.append_nil] at hN
        clear hh
        go_wp2_with (go_at_call 43; refine hH.out.mono ?_; rintro e w1 ⟨rfl, hb1⟩)
        have hb2 : Below wr.heap.size wr w1 := hb1
        exact ⟨⟨c + 1, by omega, by go_num, by rw [hN.out]; exact own_below hO.out hb2 (Nat.le_refl _), hB.out.trans (hb2.mono hB.out.size)⟩, by simp [intOf]; omega⟩
      | false =>
        rw [hh] at hH
        rw [hh, if_neg (by decide)] at hN
        clear hh
        generalize hql : (brk R L c).length = ql at *
        go_wp2_with (first | (go_at_call 43; refine hH.out.mono ?_; rintro e w1 ⟨rfl, hb1⟩; have hb2 : Hid (Below wr.heap.size wr w1) := hb1; have hO1 := hide' (own_below hO.out hb2.out (Nat.le_refl _)); clear hb1) | (at_builtin; refine wpList_append_own _ rfl _ _ 24 rfl w.heap.size 3 i0 (.int .i64 0) 1 8 Try.underlying24 hi hz0 hz1 hz2 rfl (by decide) _ ql (cellsI (ints (brk R L c))) rfl (hO1.out.alloc _) ⟨w1.heap.size, 0, none⟩ 1 1 [.int .i64 (c : Int)] rfl rfl (World.news_of_block (cs := #[.int .i64 (c : Int)]) (heap_new _ _)) (by simp [Value.oneCell']) (by unfold maxLen; omega) (by omega) (by have := hB.out.size; have := hb2.out.size; simp; omega) ?_; intro v1 w2 hown2 hgrow2 _; have hO2 := hide' hown2; have hG2 := hide' hgrow2; clear hown2 hgrow2))
        have hb3 : Below w.heap.size w w1 := hB.out.trans (hb2.out.mono hB.out.size)
        refine ⟨⟨c + 1, by omega, by go_num, ?_, (hb3.alloc hb3.size _).grown hG2.out (by simp; exact Nat.le_trans hb3.size (Nat.le_succ _)) (fun j ej => own_ge' hO1.out ej)⟩, by simp [intOf]; omega⟩
        rw [hN.out, cellsI_snoc, List.length_append, hql]
        exact hO2.out
    · obtain rfl : c = R.length := by omega
      clear hc' KH
      go_wp2
      go_ret
      exact ⟨_, rfl, hO.out, hB.out⟩
end Go.Proofs.Ytfajgbdnfphajaa

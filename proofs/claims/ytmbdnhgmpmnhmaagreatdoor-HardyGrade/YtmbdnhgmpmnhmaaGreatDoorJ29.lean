/- The document's keeps, Early, Holds, Broken: what they answer. -/
import Derived.Test.YtmbdnhgmpmnhmaaGreatDoorJ16
import Derived.Deep.QuietTactic
import Derived.BigQuiet
import Derived.Deep.CutRange
namespace Go.Proofs.YtmbdnhgmpmnhmaaGreatDoor
open Go.RowKit
/-- What the last number read lets the next one be. -/
def low (S : List Int) (c : Nat) : Int := match c with | 0 => 0 | d + 1 => S[d]?.getD 0 + 1
theorem numF_hi {a b : Int} {m : Nat} (h : 5 < a) : numF a b m = false := by
  unfold numF
  rw [if_neg (by omega), if_neg (by omega), if_neg (by omega)]
theorem numF_lo {a b : Int} {m : Nat} (h : a < 1) : numF a b m = false := by
  unfold numF
  rw [if_neg (by omega), if_neg (by omega), if_neg (by omega)]
theorem chk_num {n : Int} {r : Rl} (h : numF r.kind r.k r.steps.length = false) : chk n r = false := by unfold chk; rw [h]; simp
theorem chk_ris {n : Int} {r : Rl} (h : ris n 0 r.steps = false) : chk n r = false := by unfold chk; rw [h]; simp
theorem drew2 (w : World) (m n : Nat) : Below w.heap.size w ((w.drewN m).drewN n) := ⟨rfl, rfl, rfl, Nat.le_refl _, fun _ _ => rfl⟩
set_option maxRecDepth 100000 in
set_option maxHeartbeats 8000000 in
theorem rCheck (n : Int) (r : Rl) (sv : Value) (w : World) (hr : RowI w sv r.steps) (hm : r.steps.length ≤ 1000000000000) :
    Calls Tryz.prog 53 #[.int .i64 n, rv r sv] w fun e w' => e = .returned (.bool (chk n r)) ∧ Below w.heap.size w w' := by
  obtain ⟨oa, cap, rfl, _, hc⟩ := hr
  have hc' : Hid (∀ i z, r.steps[i]? = some z → ∃ g o, oa = some ⟨g, o, none⟩ ∧ (w.alloc (.cells #[.int .i64 r.kind, .int .i64 r.k, .slice oa r.steps.length cap] 46)).cell? ⟨g, o + i, none⟩ = some (.int .i64 z)) := fun i z hz => by
    obtain ⟨g, o, e, h⟩ := hc i z hz
    exact ⟨g, o, e, cell_new h⟩
  clear hc
  unfold rv
  have hB : Hid (Below w.heap.size w (w.alloc (.cells #[.int .i64 r.kind, .int .i64 r.k, .slice oa r.steps.length cap] 46))) := (Below.refl _ w).alloc (Nat.le_refl _) _
  by_cases h1 : 0 ≤ n
  · by_cases h2 : n ≤ 12
    · by_cases h3 : 1 ≤ r.kind
      · by_cases h4 : r.kind ≤ 5
        · have hq : Hid (ris n 0 r.steps = true → r.steps.length ≤ 12) := fun h => by have := ris_len h h1; omega
          have hRt : Hid (ris n 0 r.steps = true → chk n r = numF r.kind r.k r.steps.length) := fun h => by unfold chk; rw [h, decide_eq_true h1, decide_eq_true h2]; rfl
          have hRf : Hid (ris n 0 r.steps = false → chk n r = false) := chk_ris
          have hD : Hid (∀ (c : Nat) (x : Int), r.steps[c]? = some x → ris n (low r.steps c) (r.steps.drop c) = (decide (low r.steps c ≤ x) && decide (x < n) && ris n (x + 1) (r.steps.drop (c + 1)))) := fun c x hx => ris_drop hx
          have hDE : Hid (r.steps.drop r.steps.length = []) := List.drop_length
          have hDs : Hid (r.steps.drop 0 = r.steps) := List.drop_zero
          have hat : Hid (∀ c : Nat, c < r.steps.length → ∃ x, r.steps[c]? = some x) := fun c hc => ⟨_, List.getElem?_eq_getElem hc⟩
          generalize r.steps = S at *
          generalize hql : S.length = q at *
          clear hql
          generalize r.kind = kd at *
          generalize r.k = kk at *
          generalize chk n r = res at *
          go_enter Tryz.func53, Tryz.ntmps53
          go_wp2
          go_loopw [5] (fun k wr => ∃ (c z : Nat), (w.alloc (.cells #[.int .i64 kd, .int .i64 kk, .slice oa q cap] 46)).drewN z = wr ∧ c ≤ q ∧ k = .int .i64 c ∧ Hid (ris n 0 S = ris n (low S c) (S.drop c)) ∧ 0 ≤ low S c) (fun k _ => ((q : Int) - intOf k).toNat)
          case atStart => exact ⟨0, 0, rfl, Nat.zero_le _, rfl, by show _ = _; rw [hDs.out]; rfl, Int.le_refl _⟩
          case round =>
            obtain ⟨c, z, rfl, hcq, rfl, hE, hlo⟩ := hrel
            by_cases hlt : c < q
            · obtain ⟨x, hx⟩ := hat.out c hlt
              obtain ⟨g, o, rfl, cx⟩ := hc'.out c x hx
              have hDx := hide' (hD.out c x hx)
              have hlow1 : low S (c + 1) = x + 1 := by simp [low, hx]
              clear hDE hDs
              by_cases hbad : x < low S c ∨ n ≤ x
              · have hR : Hid (res = false) := by
                  refine hRf.out ?_
                  rw [hE.out, hDx.out]
                  rcases hbad with h | h
                  · rw [decide_eq_false (by omega)]; rfl
                  · rw [decide_eq_false (by omega : ¬ x < n)]; simp
                by_cases hx0 : x < 0
                · clear hE hDx hD hRt hRf hat hc' hbad hq hlow1
                  go_upto_region 6 with fail
                  go_quiet (fail)
                  go_wp2
                  go_ret
                  exact ⟨ret_bool hR.out.symm, ⟨hB.out.1, hB.out.2, hB.out.3, hB.out.4, hB.out.5⟩⟩
                · have hx0' : decide (x < 0) = false := decide_eq_false hx0
                  by_cases hxn : n ≤ x
                  · clear hE hDx hD hRt hRf hat hc' hbad hq hlow1
                    go_upto_region 6 with fail
                    go_quiet (fail)
                    go_wp2
                    go_ret
                    exact ⟨ret_bool hR.out.symm, ⟨hB.out.1, hB.out.2, hB.out.3, hB.out.4, hB.out.5⟩⟩
                  · have hxn' : decide (n ≤ x) = false := decide_eq_false hxn
                    cases c with
                    | zero => simp [low] at hbad; omega
                    | succ d =>
                      obtain ⟨y, hy⟩ := hat.out d (by omega)
                      obtain ⟨g', o', e', cy⟩ := hc'.out d y hy
                      cases e'
                      have hyx : x ≤ y := by
                        have : low S (d + 1) = y + 1 := by simp [low, hy]
                        rw [this] at hbad; omega
                      have hdq : d < q := by omega
                      clear hE hDx hD hRt hRf hat hc' hbad hq hlow1 hy hx
                      go_upto_region 6 with fail
                      go_quiet (fail)
                      go_wp2
                      go_ret
                      exact ⟨ret_bool hR.out.symm, ⟨hB.out.1, hB.out.2, hB.out.3, hB.out.4, hB.out.5⟩⟩
              · have hx0 : ¬ x < 0 := by omega
                have hxn : ¬ n ≤ x := by omega
                have hx0' : decide (x < 0) = false := decide_eq_false hx0
                have hxn' : decide (n ≤ x) = false := decide_eq_false hxn
                have hN : Hid (ris n 0 S = ris n (low S (c + 1)) (S.drop (c + 1))) := by
                  show _ = _
                  rw [hE.out, hDx.out, hlow1, decide_eq_true (by omega : low S c ≤ x), decide_eq_true (by omega : x < n)]; rfl
                have hlo1 : Hid (0 ≤ low S (c + 1)) := by show _ ≤ _; omega
                cases c with
                | zero =>
                  rw [Nat.add_zero] at cx
                  clear hE hDx hD hRt hRf hat hc' hbad hq hlow1 hx hlo
                  go_upto_region 6 with fail
                  go_quiet (fail)
                  go_wp2
                  exact ⟨⟨0 + 1, z + nq, rfl, by omega, by go_num, hN, hlo1.out⟩, by simp [intOf]; omega⟩
                | succ d =>
                  obtain ⟨y, hy⟩ := hat.out d (by omega)
                  obtain ⟨g', o', e', cy⟩ := hc'.out d y hy
                  cases e'
                  have hyx : ¬ x ≤ y := by
                    have : low S (d + 1) = y + 1 := by simp [low, hy]
                    rw [this] at hbad; omega
                  have hdq : d < q := by omega
                  clear hE hDx hD hRt hRf hat hc' hbad hq hlow1 hy hx hlo
                  go_upto_region 6 with fail
                  go_quiet (fail)
                  go_wp2
                  exact ⟨⟨d + 1 + 1, z + nq, rfl, by omega, by go_num, hN, hlo1.out⟩, by simp [intOf]; omega⟩
            · obtain rfl : c = q := by omega
              have hT : ris n 0 S = true := by rw [hE.out, hDE.out]; rfl
              have hR := hide' (hRt.out hT)
              have hq12 := hq.out hT
              clear hE hD hRt hRf hat hc' hDE hDs hT hq hlo
              have hB' : Hid (Below w.heap.size w ((w.alloc (.cells #[.int .i64 kd, .int .i64 kk, .slice oa c cap] 46)).drewN z)) := hB.out.trans ((drew_belowR _ _).mono hB.out.size)
              by_cases k1 : kd = 1 ∨ kd = 2
              · by_cases hk : kk = 0
                · subst hk
                  have hR2 : Hid (res = decide ((2 : Int) ≤ (c : Int))) := by
                    show _ = _
                    rw [hR.out]
                    unfold numF
                    rw [if_pos k1]; simp; omega
                  clear hR h1 h2 h3 h4
                  rcases k1 with rfl | rfl
                  all_goals
                    go_wp2
                    go_ret
                    exact ⟨ret_bool (by rw [hR2.out]), hB'.out⟩
                · have hk' : (kk == 0) = false := by simpa using hk
                  have hR2 : Hid (res = false) := by
                    show _ = _
                    rw [hR.out]
                    unfold numF
                    rw [if_pos k1]; simp [hk]
                  clear hR h1 h2 h3 h4 hk
                  rcases k1 with rfl | rfl
                  all_goals
                    go_wp2
                    go_ret
                    exact ⟨ret_bool (by rw [hR2.out]), hB'.out⟩
              · have e1 : (kd == 1) = false := by simp; omega
                have e2 : (kd == 2) = false := by simp; omega
                by_cases hk : 1 ≤ kk
                · by_cases hk9 : kk ≤ 999999999
                  · by_cases hl1 : 1 ≤ c
                    · have hl1' : (1 : Int) ≤ (c : Int) := by omega
                      by_cases k5 : kd = 5
                      · have hR2 : Hid (res = decide (kk ≤ (c : Int))) := by
                          show _ = _
                          rw [hR.out]
                          unfold numF
                          rw [if_neg k1, if_neg (by omega), if_pos k5]; simp; omega
                        subst k5
                        clear hR h1 h2 h3 h4 k1 e1 e2
                        go_wp2
                        go_ret
                        exact ⟨ret_bool (by rw [hR2.out]), hB'.out⟩
                      · have e5 : (kd != 5) = true := by simp; omega
                        have hR2 : Hid (res = true) := by
                          show _ = _
                          rw [hR.out]
                          unfold numF
                          rw [if_neg k1, if_pos (by omega)]; simp; omega
                        clear hR h1 h2 h3 h4 k1 k5
                        go_wp2
                        go_ret
                        exact ⟨ret_bool (by rw [hR2.out]), hB'.out⟩
                    · obtain rfl : c = 0 := by omega
                      have hR2 : Hid (res = false) := by
                        show _ = _
                        rw [hR.out]
                        unfold numF
                        rw [if_neg k1]
                        split
                        · simp
                        · split
                          · simp; omega
                          · rfl
                      clear hR h1 h2 h3 h4 k1
                      go_wp2
                      go_ret
                      exact ⟨ret_bool (by rw [hR2.out]), hB'.out⟩
                  · have hk9' : decide (kk ≤ 999999999) = false := decide_eq_false hk9
                    have hR2 : Hid (res = false) := by
                      show _ = _
                      rw [hR.out]
                      unfold numF
                      rw [if_neg k1]
                      split
                      · simp; omega
                      · split
                        · simp; omega
                        · rfl
                    clear hR h1 h2 h3 h4 k1 hk9
                    go_wp2
                    go_ret
                    exact ⟨ret_bool (by rw [hR2.out]), hB'.out⟩
                · have hk' : decide (1 ≤ kk) = false := decide_eq_false hk
                  have hR2 : Hid (res = false) := by
                    show _ = _
                    rw [hR.out]
                    unfold numF
                    rw [if_neg k1]
                    split
                    · simp; omega
                    · split
                      · simp; omega
                      · rfl
                  clear hR h1 h2 h3 h4 k1 hk
                  go_wp2
                  go_ret
                  exact ⟨ret_bool (by rw [hR2.out]), hB'.out⟩
        · have hR : Hid (chk n r = false) := chk_num (numF_hi (by omega))
          have h4' : 5 < r.kind := by omega
          clear h4 hc'
          go_enter Tryz.func53, Tryz.ntmps53
          go_wp2
          go_ret
          exact ⟨ret_bool hR.out.symm, hB.out⟩
      · have hR : Hid (chk n r = false) := chk_num (numF_lo (by omega))
        have h3' : r.kind < 1 := by omega
        clear h3 hc'
        go_enter Tryz.func53, Tryz.ntmps53
        go_wp2
        go_ret
        exact ⟨ret_bool hR.out.symm, hB.out⟩
    · have hR : Hid (chk n r = false) := by show _ = _; unfold chk; rw [decide_eq_false h2]; simp
      have h2' : 12 < n := by omega
      clear h2 hc'
      go_enter Tryz.func53, Tryz.ntmps53
      go_wp2
      go_ret
      exact ⟨ret_bool hR.out.symm, hB.out⟩
  · have hR : Hid (chk n r = false) := by show _ = _; unfold chk; rw [decide_eq_false h1]; simp
    have h1' : n < 0 := by omega
    clear h1 hc'
    go_enter Tryz.func53, Tryz.ntmps53
    go_wp2
    go_ret
    exact ⟨ret_bool hR.out.symm, hB.out⟩
end Go.Proofs.YtmbdnhgmpmnhmaaGreatDoor
namespace Go.Proofs.YtmbdnhgmpmnhmaaGreatDoor.S
open Go.RowKit
def rgt (n : Int) (R : List Rl) : Bool := decide (0 ≤ n) && decide (n ≤ 12) && R.all (chk n)
set_option maxRecDepth 100000 in
set_option maxHeartbeats 2000000 in
theorem rRight (n : Int) (R : List Rl) (v : Value) (w : World) (hr : RowR w v R) (hR : R.length ≤ 1000) (hm : ∀ r ∈ R, r.steps.length ≤ 1000) :
    Calls Tryz.prog 41 #[.int .i64 n, v] w fun e w' => e = .returned (.bool (rgt n R)) ∧ Below w.heap.size w w' := by
  have KC : Hid (∀ r sv W, r ∈ R → RowI w sv r.steps → Below w.heap.size w W → Calls Tryz.prog 53 #[.int .i64 n, rv r sv] W fun e w' => e = .returned (.bool (chk n r)) ∧ Below W.heap.size W w') := fun r sv W hr hs hW => rCheck n r sv W (hs.below hW (Nat.le_refl _)) (by have := hm r hr; omega)
  obtain ⟨oa, cap, rfl, hcap, hc⟩ := hr
  have hc' := hide' hc
  clear hc hcap hm
  by_cases h1 : 0 ≤ n
  · by_cases h2 : n ≤ 12
    · have hRg : Hid (rgt n R = R.all (chk n)) := by show _ = _; unfold rgt; rw [decide_eq_true h1, decide_eq_true h2]; rfl
      have h1' : decide (n < 0) = false := decide_eq_false (by omega)
      have h2' : ¬ 12 < n := by omega
      go_enter Tryz.func41, Tryz.ntmps41
      go_wp2
      go_loopw [5] (fun k wr => ∃ (c : Nat), c ≤ R.length ∧ k = .int .i64 c ∧ Hid ((R.take c).all (chk n) = true) ∧ Hid (Below w.heap.size w wr)) (fun k _ => ((R.length : Int) - intOf k).toNat)
      case atStart => exact ⟨0, Nat.zero_le _, rfl, by show _ = _; simp, Below.refl _ _⟩
      case round =>
        obtain ⟨c, hcl, rfl, hA, hB⟩ := hrel
        by_cases hlt : c < R.length
        · obtain ⟨r, hx⟩ : ∃ x, R[c]? = some x := ⟨_, List.getElem?_eq_getElem hlt⟩
          obtain ⟨g, o, sv, rfl, c1', c2', c3', hs⟩ := hc'.out c r hx
          have c1 := (hB.out.cell (p := ⟨g, o + c * 3, none⟩) (cell_lt c1')).trans c1'
          have c2 := (hB.out.cell (p := ⟨g, o + c * 3 + 1, none⟩) (cell_lt c2')).trans c2'
          have c3 := (hB.out.cell (p := ⟨g, o + c * 3 + 2, none⟩) (cell_lt c3')).trans c3'
          have hH := hide' (KC.out r sv wr (List.mem_of_getElem? hx) hs hB.out)
          have hN : Hid ((R.take (c + 1)).all (chk n) = chk n r) := by
            show _ = _
            rw [List.take_add_one, hx, show (some r).toList = [r] from rfl, List.all_append, hA.out]; simp
          have hF : Hid (chk n r = false → rgt n R = false) := fun h => by
            rw [hRg.out]
            rw [List.all_eq_false]
            exact ⟨r, List.mem_of_getElem? hx, by rw [h]; decide⟩
          obtain ⟨os, cs, rfl, _, _⟩ := hs
          unfold rv at hH
          clear KC hc' c1' c2' c3' hx hA hRg
          generalize r.steps.length = q at *
          generalize r.kind = kd at *
          generalize r.k = kk at *
          cases hh : chk n r with
          | true =>
            rw [hh] at hH hN
            clear hh hF
            go_wp2_with (go_at_call 53; refine hH.out.mono ?_; rintro e w2 ⟨rfl, hb1⟩)
            exact ⟨⟨c + 1, by omega, by go_num, hN, hB.out.trans (hb1.mono hB.out.size)⟩, by simp [intOf]; omega⟩
          | false =>
            rw [hh] at hH
            have hF' := hide' (hF.out hh)
            clear hh hN hF
            go_wp2_with (go_at_call 53; refine hH.out.mono ?_; rintro e w2 ⟨rfl, hb1⟩)
            go_ret
            exact ⟨ret_bool hF'.out.symm, hB.out.trans (hb1.mono hB.out.size)⟩
        · obtain rfl : c = R.length := by omega
          rw [List.take_length] at hA
          clear hc' KC
          go_wp2
          go_ret
          exact ⟨ret_bool (by rw [hRg.out, hA.out]), hB.out⟩
    · have hRg : Hid (rgt n R = false) := by show _ = _; unfold rgt; rw [decide_eq_false h2]; simp
      have h1' : decide (n < 0) = false := decide_eq_false (by omega)
      have h2' : 12 < n := by omega
      clear hc' KC h2
      go_enter Tryz.func41, Tryz.ntmps41
      go_wp2
      go_ret
      exact ⟨ret_bool hRg.out.symm, Below.refl _ _⟩
  · have hRg : Hid (rgt n R = false) := by show _ = _; unfold rgt; rw [decide_eq_false h1]; rfl
    have h1' : n < 0 := by omega
    clear hc' KC h1
    go_enter Tryz.func41, Tryz.ntmps41
    go_wp2
    go_ret
    exact ⟨ret_bool hRg.out.symm, Below.refl _ _⟩
end Go.Proofs.YtmbdnhgmpmnhmaaGreatDoor.S
namespace Go.Proofs.YtmbdnhgmpmnhmaaGreatDoor
open Go.RowKit
theorem apart_eq (P : List Int) : ((unl P : Int) == (P.length : Int)) = decide (mst P ≤ 1) := by
  rw [Bool.eq_iff_iff, decide_eq_true_iff, mst_one, ← unl_full, beq_iff_eq]
  omega
set_option maxRecDepth 100000 in
set_option maxHeartbeats 4000000 in
theorem rKeeps (a b : Int) (sv lv : Value) (P : List Int) (left : Nat) (w : World) (hs : ∃ oa n cap, sv = .slice oa n cap) (hl : RowI w lv P) (hP : P.length ≤ 1000) (hle : left ≤ 1000) (hk : a = 1 ∨ a = 2 ∨ a = 3 ∨ a = 4 ∨ a = 5) :
    Calls Tryz.prog 117 #[.agg #[.int .i64 a, .int .i64 b, sv], lv, .int .i64 (left : Int)] w fun e w' => e = .returned (.bool (means a b P left)) ∧ Below w.heap.size w w' := by
  obtain ⟨oa, n, cap, rfl⟩ := hs
  have KU : Hid (∀ W, Below w.heap.size w W → Calls Tryz.prog 123 #[lv] W fun e w' => e = .returned (.int .i64 (unl P : Nat)) ∧ Below W.heap.size W w') := fun W hW => rUnlike P lv W (hl.below hW (Nat.le_refl _)) (by omega)
  have KO : Hid (∀ W, Below w.heap.size w W → Calls Tryz.prog 124 #[lv] W fun e w' => e = .returned (.int .i64 (mst P : Nat)) ∧ Below W.heap.size W w') := fun W hW => rOften P lv W (hl.below hW (Nat.le_refl _)) (by omega)
  obtain ⟨ob, cb, rfl, _, _⟩ := hl
  have hB : Hid (Below w.heap.size w (w.alloc (.cells #[.int .i64 a, .int .i64 b, .slice oa n cap] 46))) := (Below.refl _ w).alloc (Nat.le_refl _) _
  have hbox : Hid (∀ V, Below (w.alloc (.cells #[.int .i64 a, .int .i64 b, .slice oa n cap] 46)).heap.size (w.alloc (.cells #[.int .i64 a, .int .i64 b, .slice oa n cap] 46)) V → V.cell? ⟨w.heap.size, 1, none⟩ = some (.int .i64 b)) := fun V hV => by
    have e : V.heap[w.heap.size]? = some (.cells #[.int .i64 a, .int .i64 b, .slice oa n cap] 46) := by
      rw [hV.block _ (by simp)]
      exact heap_new w _
    simp [World.cell?, e]
  have hA := hide' (apart_eq P)
  have hul := unl_le P
  have hwr : IntKind.i64.wrap ((unl P : Int) + (left : Int)) = (unl P : Int) + (left : Int) := by
    rw [IntKind.wrap_i64]
    omega
  have hM := hide' (rfl : means a b P left = means a b P left)
  generalize hmm : means a b P left = res at *
  unfold means at hmm
  have hmm' := hide' hmm
  clear hmm hM
  generalize hu : unl P = u at *
  generalize mst P = m at *
  generalize P.length = q at *
  clear hu
  rcases hk with rfl | rfl | rfl | rfl | rfl
  · have hR : Hid (res = ((u : Int) == (q : Int))) := by show _ = _; rw [hA.out]; exact hmm'.out.symm
    clear KO hmm' hA hbox
    go_enter Tryz.func117, Tryz.ntmps117
    go_wp2_with (go_at_call 123; refine (KU.out _ hB.out).mono ?_; rintro e w1 ⟨rfl, hb1⟩)
    go_ret
    exact ⟨ret_bool hR.out.symm, hB.out.trans (hb1.mono hB.out.size)⟩
  · have hR : Hid (res = decide ((u : Int) ≤ 1)) := by
      show _ = _
      rw [← hmm'.out]; simp; omega
    clear KO hmm' hA hbox
    go_enter Tryz.func117, Tryz.ntmps117
    go_wp2_with (go_at_call 123; refine (KU.out _ hB.out).mono ?_; rintro e w1 ⟨rfl, hb1⟩)
    go_ret
    exact ⟨ret_bool hR.out.symm, hB.out.trans (hb1.mono hB.out.size)⟩
  · have hR : Hid (res = decide ((m : Int) ≤ b)) := by
      show _ = _
      rw [← hmm'.out]; rfl
    have hBd : Hid (Below w.heap.size w (w.alloc (.cells #[.int .i64 3, .int .i64 b, .slice oa n cap] 46)).drew) := hB.out.drew
    have hS := hide' (hbox.out (w.alloc (.cells #[.int .i64 3, .int .i64 b, .slice oa n cap] 46)).drew (Below.refl _ _).drew)
    clear KU hmm' hA
    go_enter Tryz.func117, Tryz.ntmps117
    go_wp2_with fail
    go_region_held3 (fun V => V.cell? ⟨w.heap.size, 1, none⟩ = some (.int .i64 b)) (first | (exact hS.out) | (exact hbox.out _ hb1.out)) (first | (go_at_call 124; refine (KO.out _ hBd.out).mono ?_; rintro e w1 ⟨rfl, hb1'⟩; have hb1 : Hid (Below (w.alloc (.cells #[.int .i64 3, .int .i64 b, .slice oa n cap] 46)).heap.size (w.alloc (.cells #[.int .i64 3, .int .i64 b, .slice oa n cap] 46)) w1) := ((Below.refl _ _).drew.trans hb1'); clear hb1'))
    all_goals
      clear hS hbox
      go_wp2
      go_ret
      exact ⟨ret_bool hR.out.symm, hB.out.trans (hb1.out.mono hB.out.size)⟩
  · have hR : Hid (res = decide ((u : Int) ≤ b)) := by
      show _ = _
      rw [← hmm'.out]; rfl
    have hBd : Hid (Below w.heap.size w (w.alloc (.cells #[.int .i64 4, .int .i64 b, .slice oa n cap] 46)).drew) := hB.out.drew
    have hS := hide' (hbox.out (w.alloc (.cells #[.int .i64 4, .int .i64 b, .slice oa n cap] 46)).drew (Below.refl _ _).drew)
    clear KO hmm' hA
    go_enter Tryz.func117, Tryz.ntmps117
    go_wp2_with fail
    go_region_held3 (fun V => V.cell? ⟨w.heap.size, 1, none⟩ = some (.int .i64 b)) (first | (exact hS.out) | (exact hbox.out _ hb1.out)) (first | (go_at_call 123; refine (KU.out _ hBd.out).mono ?_; rintro e w1 ⟨rfl, hb1'⟩; have hb1 : Hid (Below (w.alloc (.cells #[.int .i64 4, .int .i64 b, .slice oa n cap] 46)).heap.size (w.alloc (.cells #[.int .i64 4, .int .i64 b, .slice oa n cap] 46)) w1) := ((Below.refl _ _).drew.trans hb1'); clear hb1'))
    all_goals
      clear hS hbox
      go_wp2
      go_ret
      exact ⟨ret_bool hR.out.symm, hB.out.trans (hb1.out.mono hB.out.size)⟩
  · have hR : Hid (res = decide (b ≤ (u : Int) + (left : Int))) := by
      show _ = _
      rw [← hmm'.out]; rfl
    have hBd : Hid (Below w.heap.size w (w.alloc (.cells #[.int .i64 5, .int .i64 b, .slice oa n cap] 46)).drew) := hB.out.drew
    have hS := hide' (hbox.out (w.alloc (.cells #[.int .i64 5, .int .i64 b, .slice oa n cap] 46)).drew (Below.refl _ _).drew)
    clear KO hmm' hA
    go_enter Tryz.func117, Tryz.ntmps117
    go_wp2_with fail
    go_region_held3 (fun V => V.cell? ⟨w.heap.size, 1, none⟩ = some (.int .i64 b)) (first | (exact hS.out) | (exact hbox.out _ hb1.out)) (first | (go_at_call 123; refine (KU.out _ hBd.out).mono ?_; rintro e w1 ⟨rfl, hb1'⟩; have hb1 : Hid (Below (w.alloc (.cells #[.int .i64 5, .int .i64 b, .slice oa n cap] 46)).heap.size (w.alloc (.cells #[.int .i64 5, .int .i64 b, .slice oa n cap] 46)) w1) := ((Below.refl _ _).drew.trans hb1'); clear hb1'))
    all_goals
      clear hS hbox
      go_wp2
      go_ret
      exact ⟨ret_bool hR.out.symm, hB.out.trans (hb1.out.mono hB.out.size)⟩
set_option maxRecDepth 100000 in
set_option maxHeartbeats 4000000 in
theorem rEarly (r : Rl) (n : Int) (sv lv : Value) (L : List Int) (w : World) (hs : RowI w sv r.steps) (hl : RowI w lv L) (hm : r.steps.length ≤ 1000) :
    Calls Tryz.prog 100 #[rv r sv, .int .i64 n, lv] w fun e w' => e = .returned (.bool (early r n L)) ∧ Below w.heap.size w w' := by
  obtain ⟨i0, hi, hz0, hz1, hz2⟩ := info_parts info3
  have KC : Hid (∀ W, Below w.heap.size w W → Calls Tryz.prog 53 #[.int .i64 n, rv r sv] W fun e w' => e = .returned (.bool (chk n r)) ∧ Below W.heap.size W w') := fun W hW => rCheck n r sv W (hs.below hW (Nat.le_refl _)) (by omega)
  obtain ⟨oa, ca, rfl, hcapa, hca⟩ := hs
  obtain ⟨ob, cb, rfl, hcapb, hcb⟩ := hl
  have hca' := hide' hca
  have hcb' := hide' hcb
  clear hcapa hcapb hca hcb
  unfold rv at KC ⊢
  have hB : Hid (Below w.heap.size w (w.alloc (.cells #[.int .i64 r.kind, .int .i64 r.k, .slice oa r.steps.length ca] 46))) := (Below.refl _ w).alloc (Nat.le_refl _) _
  cases hk : chk n r with
  | false =>
    have hR : Hid (early r n L = false) := by show _ = _; unfold early; rw [hk]; rfl
    rw [hk] at KC
    clear hk hca' hcb'
    go_enter Tryz.func100, Tryz.ntmps100
    go_wp2_with (go_at_call 53; refine (KC.out _ hB.out).mono ?_; rintro e w1 ⟨rfl, hb1⟩)
    go_ret
    exact ⟨ret_bool hR.out.symm, hB.out.trans (hb1.mono hB.out.size)⟩
  | true =>
    rw [hk] at KC
    by_cases hln : (L.length : Int) ≤ n
    · have hris : ris n 0 r.steps = true := by
        simp [chk] at hk; exact hk.1.2
      have hnum : numF r.kind r.k r.steps.length = true := by
        simp [chk] at hk; exact hk.2
      obtain ⟨T, hT⟩ := ris_nat hris (Int.le_refl _)
      have hTl : r.steps.length = T.length := by rw [hT, ints_len]
      have hKn : r.kind = 1 ∨ r.kind = 2 ∨ r.kind = 3 ∨ r.kind = 4 ∨ r.kind = 5 := by
        unfold numF at hnum
        by_cases h1 : r.kind = 1 ∨ r.kind = 2
        · omega
        · rw [if_neg h1] at hnum
          by_cases h2 : r.kind = 3 ∨ r.kind = 4
          · omega
          · rw [if_neg h2] at hnum
            by_cases h3 : r.kind = 5
            · omega
            · rw [if_neg h3] at hnum; cases hnum
      have hR : Hid (early r n L = means r.kind r.k (labs L (ints T)) (T.length - (labs L (ints T)).length)) := by
        show _ = _
        unfold early
        rw [hk, decide_eq_true hln, hT, ints_len]; rfl
      have hln' : ¬ n < (L.length : Int) := by omega
      rw [hTl] at hB KC hm ⊢
      have hca2 : Hid (∀ (i t : Nat), T[i]? = some t → ∃ g o, oa = some ⟨g, o, none⟩ ∧ w.cell? ⟨g, o + i, none⟩ = some (.int .i64 (t : Int))) := fun i t ht => hca'.out i t (by rw [hT]; exact ints_at ht)
      have hKn' := hide' hKn
      clear hris hnum hk hT hTl hln hca' hKn
      generalize r.kind = kd at *
      generalize r.k = kk at *
      go_enter Tryz.func100, Tryz.ntmps100
      go_wp2_with (go_at_call 53; refine (KC.out _ hB.out).mono ?_; rintro e w1 ⟨rfl, hb1⟩)
      have hB1 : Hid (Below w.heap.size w w1) := hB.out.trans (hb1.mono hB.out.size)
      have hbox : Hid (∀ V, Below (w.heap.size + 1) w1 V → V.cell? ⟨w.heap.size, 0, none⟩ = some (.int .i64 kd) ∧ V.cell? ⟨w.heap.size, 1, none⟩ = some (.int .i64 kk) ∧ V.cell? ⟨w.heap.size, 2, none⟩ = some (.slice oa T.length ca)) := fun V hV => by
        have e : V.heap[w.heap.size]? = some (.cells #[.int .i64 kd, .int .i64 kk, .slice oa T.length ca] 46) := by
          rw [hV.block _ (Nat.lt_succ_self _), hb1.block _ (by simp)]
          exact heap_new w _
        simp [World.cell?, e]
      have hsz : Hid (w.heap.size + 1 ≤ w1.heap.size) := by
        have := hb1.size
        rwa [World.size_alloc] at this
      clear hb1 KC
      go_loopw [7, 8, 9] (fun v lf k wr => ∃ (c o : Nat), c ≤ T.length ∧ k = .int .i64 c ∧ lf = .int .i64 (o : Int) ∧ o ≤ c ∧ Hid (o + (labs L (ints (T.take c))).length = c) ∧ Hid (wr.ownsRow w1.heap.size 3 1 v (labs L (ints (T.take c))).length (cellsI (labs L (ints (T.take c))))) ∧ Hid (Below w1.heap.size w1 wr)) (fun _ _ k _ => ((T.length : Int) - intOf k).toNat)
      case atStart => exact ⟨0, 0, Nat.zero_le _, rfl, rfl, Nat.le_refl _, rfl, World.ownsRow_nil _ _ _ _, Below.refl _ _⟩
      case round =>
        obtain ⟨c, o, hcl, rfl, rfl, hoc, hq, hO, hBr⟩ := hrel
        obtain ⟨x0, x1, x2⟩ := hbox.out wr (hBr.out.mono hsz.out)
        have hB2 : Hid (Below w.heap.size w wr) := hB1.out.trans (hBr.out.mono hB1.out.size)
        by_cases hlt : c < T.length
        · obtain ⟨t, ht⟩ : ∃ t, T[c]? = some t := ⟨_, List.getElem?_eq_getElem hlt⟩
          obtain ⟨g, p, rfl, c1'⟩ := hca2.out c t ht
          have c1 := (hB2.out.cell (p := ⟨g, p + c, none⟩) (cell_lt c1')).trans c1'
          by_cases htl : t < L.length
          · obtain ⟨y, hy⟩ : ∃ y, L[t]? = some y := ⟨_, List.getElem?_eq_getElem htl⟩
            obtain ⟨g2, p2, rfl, c2'⟩ := hcb'.out t y hy
            have c2 := (hB2.out.cell (p := ⟨g2, p2 + t, none⟩) (cell_lt c2')).trans c2'
            have htl' : (t : Int) < (L.length : Int) := by omega
            have hN := hide' (labs_more ht hy)
            have hll := labs_le L T c
            clear hca2 hcb' c1' c2' ht hy hbox hKn'
            generalize hql : (labs L (ints (T.take c))).length = ql at *
            go_wp2_with (at_builtin; refine wpList_append_own _ rfl _ _ 23 rfl w1.heap.size 3 i0 (.int .i64 0) 1 8 Tryz.underlying23 hi hz0 hz1 hz2 rfl (by decide) _ ql (cellsI (labs L (ints (T.take c)))) rfl (hO.out.alloc _) ⟨wr.heap.size, 0, none⟩ 1 1 [.int .i64 y] rfl rfl (World.news_of_block (cs := #[.int .i64 y]) (heap_new _ _)) (by simp [Value.oneCell']) (by unfold maxLen; omega) (by omega) (by have := hBr.out.size; simp; omega) ?_; intro v1 w2 hown2 hgrow2 _; have hO2 := hide' hown2; have hG2 := hide' hgrow2; clear hown2 hgrow2)
            refine ⟨⟨c + 1, o, by omega, by go_num, rfl, by omega, ?_, ?_, (hBr.out.alloc hBr.out.size _).grown hG2.out (by simp; exact Nat.le_trans hBr.out.size (Nat.le_succ _)) (fun j ej => own_ge' hO.out ej)⟩, by simp [intOf]; omega⟩
            · show _ = _
              rw [hN.out, List.length_append, hql, List.length_singleton]
              have := hq.out; omega
            · rw [hN.out, List.length_append, hql, show cellsI (labs L (ints (T.take c)) ++ [y]) = cellsI (labs L (ints (T.take c))) ++ [.int .i64 y] by simp [cellsI]]
              exact hO2.out
          · have htl' : ¬ (t : Int) < (L.length : Int) := by omega
            have hN := hide' (labs_same (L := L) ht (List.getElem?_eq_none (by omega)))
            clear hca2 hcb' c1' ht hbox hKn'
            go_wp2
            exact ⟨⟨c + 1, o + 1, by omega, by go_num, by go_num, by omega, by show _ = _; rw [hN.out]; have := hq.out; omega, by rw [hN.out]; exact hO, hBr⟩, by simp [intOf]; omega⟩
        · obtain rfl : c = T.length := by omega
          rw [List.take_length] at hO hq
          have hlen : (labs L (ints T)).length ≤ 1000 := by
            have := hq.out; omega
          have KK : Hid (Calls Tryz.prog 117 #[.agg #[.int .i64 kd, .int .i64 kk, .slice oa T.length ca], u7, .int .i64 (o : Int)] wr fun e w' => e = .returned (.bool (early r n L)) ∧ Below wr.heap.size wr w') := by
            have := rKeeps kd kk (.slice oa T.length ca) u7 (labs L (ints T)) o wr ⟨_, _, _, rfl⟩ (RowI.of_owns hO.out) hlen (by omega) hKn'.out
            rw [hR.out, show T.length - (labs L (ints T)).length = o by have := hq.out; omega]
            exact this
          clear hca2 hcb' hbox hO hR hq hlen
          go_wp2_with (go_at_call 117; refine KK.out.mono ?_; rintro e w3 ⟨rfl, hb3⟩)
          go_ret
          exact ⟨rfl, hB2.out.trans (hb3.mono hB2.out.size)⟩
    · have hR : Hid (early r n L = false) := by show _ = _; unfold early; rw [hk, decide_eq_false hln]; rfl
      have hln' : n < (L.length : Int) := by omega
      clear hk hca' hcb' hln
      go_enter Tryz.func100, Tryz.ntmps100
      go_wp2_with (go_at_call 53; refine (KC.out _ hB.out).mono ?_; rintro e w1 ⟨rfl, hb1⟩)
      go_ret
      exact ⟨ret_bool hR.out.symm, hB.out.trans (hb1.mono hB.out.size)⟩
theorem holds_chk {r : Rl} {L : List Int} (h : chk L.length r = false) : holds r L = false := by unfold holds early; rw [h]; rfl
end Go.Proofs.YtmbdnhgmpmnhmaaGreatDoor

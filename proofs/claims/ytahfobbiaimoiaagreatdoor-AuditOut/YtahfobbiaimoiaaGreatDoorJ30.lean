/- The document's Check and Right of rules. -/
import Derived.Test.YtahfobbiaimoiaaGreatDoorJ10
import Derived.Test.YtahfobbiaimoiaaGreatDoorJ11
import Derived.Laws.EntriesVeiled
import Derived.Deep.QuietTactic
import Derived.BigQuiet
import Derived.Deep.CutRange
namespace Go.Proofs.YtahfobbiaimoiaaGreatDoor
open Go.RowKit
/-- What the last number read lets the next one be. -/
def low (S : List Int) (c : Nat) : Int := match c with | 0 => 0 | d + 1 => S[d]?.getD 0 + 1
theorem drew_belowR (w : World) (n : Nat) : Below w.heap.size w (w.drewN n) := ⟨rfl, rfl, rfl, Nat.le_refl _, fun _ _ => rfl⟩
theorem numF_hi {a b : Int} {m : Nat} (h : 5 < a) : numF a b m = false := by
  unfold numF
  rw [if_neg (by omega), if_neg (by omega), if_neg (by omega)]
theorem numF_lo {a b : Int} {m : Nat} (h : a < 1) : numF a b m = false := by
  unfold numF
  rw [if_neg (by omega), if_neg (by omega), if_neg (by omega)]
theorem chk_num {n : Int} {r : Rl} (h : numF r.kind r.k r.steps.length = false) : chk n r = false := by unfold chk; rw [h]; simp
theorem chk_ris {n : Int} {r : Rl} (h : ris n 0 r.steps = false) : chk n r = false := by unfold chk; rw [h]; simp
theorem drew2 (w : World) (m n : Nat) : Below w.heap.size w ((w.drewN m).drewN n) := ⟨rfl, rfl, rfl, Nat.le_refl _, fun _ _ => rfl⟩
set_option maxRecDepth 100000 in
set_option maxHeartbeats 8000000 in
theorem rCheck (n : Int) (r : Rl) (sv : Value) (w : World) (hr : RowI w sv r.steps) (hm : r.steps.length ≤ 1000000000000) :
    Calls Tryz.prog 70 #[.int .i64 n, rv r sv] w fun e w' => e = .returned (.bool (chk n r)) ∧ Below w.heap.size w w' := by
  obtain ⟨oa, cap, rfl, _, hc⟩ := hr
  have hc' : Hid (∀ i z, r.steps[i]? = some z → ∃ g o, oa = some ⟨g, o, none⟩ ∧ (w.alloc (.cells #[.int .i64 r.kind, .int .i64 r.k, .slice oa r.steps.length cap] 82)).cell? ⟨g, o + i, none⟩ = some (.int .i64 z)) := fun i z hz => by
    obtain ⟨g, o, e, h⟩ := hc i z hz
    exact ⟨g, o, e, cell_new h⟩
  clear hc
  unfold rv
  have hB : Hid (Below w.heap.size w (w.alloc (.cells #[.int .i64 r.kind, .int .i64 r.k, .slice oa r.steps.length cap] 82))) := (Below.refl _ w).alloc (Nat.le_refl _) _
  by_cases h1 : 0 ≤ n
  · by_cases h2 : n ≤ 12
    · by_cases h3 : 1 ≤ r.kind
      · by_cases h4 : r.kind ≤ 5
        · have hq : Hid (ris n 0 r.steps = true → r.steps.length ≤ 12) := fun h => by have := ris_len h h1; omega
          have hRt : Hid (ris n 0 r.steps = true → chk n r = numF r.kind r.k r.steps.length) := fun h => by unfold chk; rw [h, decide_eq_true h1, decide_eq_true h2]; rfl
          have hRf : Hid (ris n 0 r.steps = false → chk n r = false) := chk_ris
          have hD : Hid (∀ (c : Nat) (x : Int), r.steps[c]? = some x → ris n (low r.steps c) (r.steps.drop c) = (decide (low r.steps c ≤ x) && decide (x < n) && ris n (x + 1) (r.steps.drop (c + 1)))) := fun c x hx => ris_drop hx
          have hDE : Hid (r.steps.drop r.steps.length = []) := List.drop_length
          have hDs : Hid (r.steps.drop 0 = r.steps) := List.drop_zero
          have hat : Hid (∀ c : Nat, c < r.steps.length → ∃ x, r.steps[c]? = some x) := fun c hc => ⟨_, List.getElem?_eq_getElem hc⟩
          generalize r.steps = S at *
          generalize hql : S.length = q at *
          clear hql
          generalize r.kind = kd at *
          generalize r.k = kk at *
          generalize chk n r = res at *
          go_enter Tryz.func70, Tryz.ntmps70
          go_wp2
          go_loopw [5] (fun k wr => ∃ (c z : Nat), (w.alloc (.cells #[.int .i64 kd, .int .i64 kk, .slice oa q cap] 82)).drewN z = wr ∧ c ≤ q ∧ k = .int .i64 c ∧ Hid (ris n 0 S = ris n (low S c) (S.drop c)) ∧ 0 ≤ low S c) (fun k _ => ((q : Int) - intOf k).toNat)
          case atStart => exact ⟨0, 0, rfl, Nat.zero_le _, rfl, by show _ = _; rw [hDs.out]; rfl, Int.le_refl _⟩
          case round =>
            obtain ⟨c, z, rfl, hcq, rfl, hE, hlo⟩ := hrel
            by_cases hlt : c < q
            · obtain ⟨x, hx⟩ := hat.out c hlt
              obtain ⟨g, o, rfl, cx⟩ := hc'.out c x hx
              have hDx := hide' (hD.out c x hx)
              have hlow1 : low S (c + 1) = x + 1 := by simp [low, hx]
              clear hDE hDs
              by_cases hbad : x < low S c ∨ n ≤ x
              · have hR : Hid (res = false) := by
                  refine hRf.out ?_
                  rw [hE.out, hDx.out]
                  rcases hbad with h | h
                  · rw [decide_eq_false (by omega)]; rfl
                  · rw [decide_eq_false (by omega : ¬ x < n)]; simp
                by_cases hx0 : x < 0
                · clear hE hDx hD hRt hRf hat hc' hbad hq hlow1
                  go_upto_region 6 with fail
                  go_quiet (fail)
                  go_wp2
                  go_ret
                  exact ⟨ret_bool hR.out.symm, ⟨hB.out.1, hB.out.2, hB.out.3, hB.out.4, hB.out.5⟩⟩
                · have hx0' : decide (x < 0) = false := decide_eq_false hx0
                  by_cases hxn : n ≤ x
                  · clear hE hDx hD hRt hRf hat hc' hbad hq hlow1
                    go_upto_region 6 with fail
                    go_quiet (fail)
                    go_wp2
                    go_ret
                    exact ⟨ret_bool hR.out.symm, ⟨hB.out.1, hB.out.2, hB.out.3, hB.out.4, hB.out.5⟩⟩
                  · have hxn' : decide (n ≤ x) = false := decide_eq_false hxn
                    cases c with
                    | zero => simp [low] at hbad; omega
                    | succ d =>
                      obtain ⟨y, hy⟩ := hat.out d (by omega)
                      obtain ⟨g', o', e', cy⟩ := hc'.out d y hy
                      cases e'
                      have hyx : x ≤ y := by
                        have : low S (d + 1) = y + 1 := by simp [low, hy]
                        rw [this] at hbad; omega
                      have hdq : d < q := by omega
                      clear hE hDx hD hRt hRf hat hc' hbad hq hlow1 hy hx
                      go_upto_region 6 with fail
                      go_quiet (fail)
                      go_wp2
                      go_ret
                      exact ⟨ret_bool hR.out.symm, ⟨hB.out.1, hB.out.2, hB.out.3, hB.out.4, hB.out.5⟩⟩
              · have hx0 : ¬ x < 0 := by omega
                have hxn : ¬ n ≤ x := by omega
                have hx0' : decide (x < 0) = false := decide_eq_false hx0
                have hxn' : decide (n ≤ x) = false := decide_eq_false hxn
                have hN : Hid (ris n 0 S = ris n (low S (c + 1)) (S.drop (c + 1))) := by
                  show _ = _
                  rw [hE.out, hDx.out, hlow1, decide_eq_true (by omega : low S c ≤ x), decide_eq_true (by omega : x < n)]; rfl
                have hlo1 : Hid (0 ≤ low S (c + 1)) := by show _ ≤ _; omega
                cases c with
                | zero =>
                  rw [Nat.add_zero] at cx
                  clear hE hDx hD hRt hRf hat hc' hbad hq hlow1 hx hlo
                  go_upto_region 6 with fail
                  go_quiet (fail)
                  go_wp2
                  exact ⟨⟨0 + 1, z + nq, rfl, by omega, by go_num, hN, hlo1.out⟩, by simp [intOf]; omega⟩
                | succ d =>
                  obtain ⟨y, hy⟩ := hat.out d (by omega)
                  obtain ⟨g', o', e', cy⟩ := hc'.out d y hy
                  cases e'
                  have hyx : ¬ x ≤ y := by
                    have : low S (d + 1) = y + 1 := by simp [low, hy]
                    rw [this] at hbad; omega
                  have hdq : d < q := by omega
                  clear hE hDx hD hRt hRf hat hc' hbad hq hlow1 hy hx hlo
                  go_upto_region 6 with fail
                  go_quiet (fail)
                  go_wp2
                  exact ⟨⟨d + 1 + 1, z + nq, rfl, by omega, by go_num, hN, hlo1.out⟩, by simp [intOf]; omega⟩
            · obtain rfl : c = q := by omega
              have hT : ris n 0 S = true := by rw [hE.out, hDE.out]; rfl
              have hR := hide' (hRt.out hT)
              have hq12 := hq.out hT
              clear hE hD hRt hRf hat hc' hDE hDs hT hq hlo
              have hB' : Hid (Below w.heap.size w ((w.alloc (.cells #[.int .i64 kd, .int .i64 kk, .slice oa c cap] 82)).drewN z)) := hB.out.trans ((drew_belowR _ _).mono hB.out.size)
              by_cases k1 : kd = 1 ∨ kd = 2
              · by_cases hk : kk = 0
                · subst hk
                  have hR2 : Hid (res = decide ((2 : Int) ≤ (c : Int))) := by
                    show _ = _
                    rw [hR.out]
                    unfold numF
                    rw [if_pos k1]; simp; omega
                  clear hR h1 h2 h3 h4
                  rcases k1 with rfl | rfl
                  all_goals
                    go_wp2
                    go_ret
                    exact ⟨ret_bool (by rw [hR2.out]), hB'.out⟩
                · have hk' : (kk == 0) = false := by simpa using hk
                  have hR2 : Hid (res = false) := by
                    show _ = _
                    rw [hR.out]
                    unfold numF
                    rw [if_pos k1]; simp [hk]
                  clear hR h1 h2 h3 h4 hk
                  rcases k1 with rfl | rfl
                  all_goals
                    go_wp2
                    go_ret
                    exact ⟨ret_bool (by rw [hR2.out]), hB'.out⟩
              · have e1 : (kd == 1) = false := by simp; omega
                have e2 : (kd == 2) = false := by simp; omega
                by_cases hk : 1 ≤ kk
                · by_cases hk9 : kk ≤ 999999999
                  · by_cases hl1 : 1 ≤ c
                    · have hl1' : (1 : Int) ≤ (c : Int) := by omega
                      by_cases k5 : kd = 5
                      · have hR2 : Hid (res = decide (kk ≤ (c : Int))) := by
                          show _ = _
                          rw [hR.out]
                          unfold numF
                          rw [if_neg k1, if_neg (by omega), if_pos k5]; simp; omega
                        subst k5
                        clear hR h1 h2 h3 h4 k1 e1 e2
                        go_wp2
                        go_ret
                        exact ⟨ret_bool (by rw [hR2.out]), hB'.out⟩
                      · have e5 : (kd != 5) = true := by simp; omega
                        have hR2 : Hid (res = true) := by
                          show _ = _
                          rw [hR.out]
                          unfold numF
                          rw [if_neg k1, if_pos (by omega)]; simp; omega
                        clear hR h1 h2 h3 h4 k1 k5
                        go_wp2
                        go_ret
                        exact ⟨ret_bool (by rw [hR2.out]), hB'.out⟩
                    · obtain rfl : c = 0 := by omega
                      have hR2 : Hid (res = false) := by
                        show _ = _
                        rw [hR.out]
                        unfold numF
                        rw [if_neg k1]
                        split
                        · simp
                        · split
                          · simp; omega
                          · rfl
                      clear hR h1 h2 h3 h4 k1
                      go_wp2
                      go_ret
                      exact ⟨ret_bool (by rw [hR2.out]), hB'.out⟩
                  · have hk9' : decide (kk ≤ 999999999) = false := decide_eq_false hk9
                    have hR2 : Hid (res = false) := by
                      show _ = _
                      rw [hR.out]
                      unfold numF
                      rw [if_neg k1]
                      split
                      · simp; omega
                      · split
                        · simp; omega
                        · rfl
                    clear hR h1 h2 h3 h4 k1 hk9
                    go_wp2
                    go_ret
                    exact ⟨ret_bool (by rw [hR2.out]), hB'.out⟩
                · have hk' : decide (1 ≤ kk) = false := decide_eq_false hk
                  have hR2 : Hid (res = false) := by
                    show _ = _
                    rw [hR.out]
                    unfold numF
                    rw [if_neg k1]
                    split
                    · simp; omega
                    · split
                      · simp; omega
                      · rfl
                  clear hR h1 h2 h3 h4 k1 hk
                  go_wp2
                  go_ret
                  exact ⟨ret_bool (by rw [hR2.out]), hB'.out⟩
        · have hR : Hid (chk n r = false) := chk_num (numF_hi (by omega))
          have h4' : 5 < r.kind := by omega
          clear h4 hc'
          go_enter Tryz.func70, Tryz.ntmps70
          go_wp2
          go_ret
          exact ⟨ret_bool hR.out.symm, hB.out⟩
      · have hR : Hid (chk n r = false) := chk_num (numF_lo (by omega))
        have h3' : r.kind < 1 := by omega
        clear h3 hc'
        go_enter Tryz.func70, Tryz.ntmps70
        go_wp2
        go_ret
        exact ⟨ret_bool hR.out.symm, hB.out⟩
    · have hR : Hid (chk n r = false) := by show _ = _; unfold chk; rw [decide_eq_false h2]; simp
      have h2' : 12 < n := by omega
      clear h2 hc'
      go_enter Tryz.func70, Tryz.ntmps70
      go_wp2
      go_ret
      exact ⟨ret_bool hR.out.symm, hB.out⟩
  · have hR : Hid (chk n r = false) := by show _ = _; unfold chk; rw [decide_eq_false h1]; simp
    have h1' : n < 0 := by omega
    clear h1 hc'
    go_enter Tryz.func70, Tryz.ntmps70
    go_wp2
    go_ret
    exact ⟨ret_bool hR.out.symm, hB.out⟩
def rgt (n : Int) (R : List Rl) : Bool := decide (0 ≤ n) && decide (n ≤ 12) && R.all (chk n)
set_option maxRecDepth 100000 in
set_option maxHeartbeats 2000000 in
theorem rRight (n : Int) (R : List Rl) (v : Value) (w : World) (hr : RowR w v R) (hR : R.length ≤ 1000) (hm : ∀ r ∈ R, r.steps.length ≤ 1000) :
    Calls Tryz.prog 81 #[.int .i64 n, v] w fun e w' => e = .returned (.bool (rgt n R)) ∧ Below w.heap.size w w' := by
  have KC : Hid (∀ r sv W, r ∈ R → RowI w sv r.steps → Below w.heap.size w W → Calls Tryz.prog 70 #[.int .i64 n, rv r sv] W fun e w' => e = .returned (.bool (chk n r)) ∧ Below W.heap.size W w') := fun r sv W hr hs hW => rCheck n r sv W (hs.below hW (Nat.le_refl _)) (by have := hm r hr; omega)
  obtain ⟨oa, cap, rfl, hcap, hc⟩ := hr
  have hc' := hide' hc
  clear hc hcap hm
  by_cases h1 : 0 ≤ n
  · by_cases h2 : n ≤ 12
    · have hRg : Hid (rgt n R = R.all (chk n)) := by show _ = _; unfold rgt; rw [decide_eq_true h1, decide_eq_true h2]; rfl
      have h1' : decide (n < 0) = false := decide_eq_false (by omega)
      have h2' : ¬ 12 < n := by omega
      go_enter Tryz.func81, Tryz.ntmps81
      go_wp2
      go_loopw [5] (fun k wr => ∃ (c : Nat), c ≤ R.length ∧ k = .int .i64 c ∧ Hid ((R.take c).all (chk n) = true) ∧ Hid (Below w.heap.size w wr)) (fun k _ => ((R.length : Int) - intOf k).toNat)
      case atStart => exact ⟨0, Nat.zero_le _, rfl, by show _ = _; simp, Below.refl _ _⟩
      case round =>
        obtain ⟨c, hcl, rfl, hA, hB⟩ := hrel
        by_cases hlt : c < R.length
        · obtain ⟨r, hx⟩ : ∃ x, R[c]? = some x := ⟨_, List.getElem?_eq_getElem hlt⟩
          obtain ⟨g, o, sv, rfl, c1', c2', c3', hs⟩ := hc'.out c r hx
          have c1 := (hB.out.cell (p := ⟨g, o + c * 3, none⟩) (cell_lt c1')).trans c1'
          have c2 := (hB.out.cell (p := ⟨g, o + c * 3 + 1, none⟩) (cell_lt c2')).trans c2'
          have c3 := (hB.out.cell (p := ⟨g, o + c * 3 + 2, none⟩) (cell_lt c3')).trans c3'
          have hH := hide' (KC.out r sv wr (List.mem_of_getElem? hx) hs hB.out)
          have hN : Hid ((R.take (c + 1)).all (chk n) = chk n r) := by
            show _ = _
            rw [List.take_add_one, hx, show (some r).toList = [r] from rfl, List.all_append, hA.out]; simp
          have hF : Hid (chk n r = false → rgt n R = false) := fun h => by
            rw [hRg.out]
            rw [List.all_eq_false]
            exact ⟨r, List.mem_of_getElem? hx, by rw [h]; decide⟩
          obtain ⟨os, cs, rfl, _, _⟩ := hs
          unfold rv at hH
          clear KC hc' c1' c2' c3' hx hA hRg
          generalize r.steps.length = q at *
          generalize r.kind = kd at *
          generalize r.k = kk at *
          cases hh : chk n r with
          | true =>
            rw [hh] at hH hN
            clear hh hF
            go_wp2_with (go_at_call 70; refine hH.out.mono ?_; rintro e w2 ⟨rfl, hb1⟩)
            exact ⟨⟨c + 1, by omega, by go_num, hN, hB.out.trans (hb1.mono hB.out.size)⟩, by simp [intOf]; omega⟩
          | false =>
            rw [hh] at hH
            have hF' := hide' (hF.out hh)
            clear hh hN hF
            go_wp2_with (go_at_call 70; refine hH.out.mono ?_; rintro e w2 ⟨rfl, hb1⟩)
            go_ret
            exact ⟨ret_bool hF'.out.symm, hB.out.trans (hb1.mono hB.out.size)⟩
        · obtain rfl : c = R.length := by omega
          rw [List.take_length] at hA
          clear hc' KC
          go_wp2
          go_ret
          exact ⟨ret_bool (by rw [hRg.out, hA.out]), hB.out⟩
    · have hRg : Hid (rgt n R = false) := by show _ = _; unfold rgt; rw [decide_eq_false h2]; simp
      have h1' : decide (n < 0) = false := decide_eq_false (by omega)
      have h2' : 12 < n := by omega
      clear hc' KC h2
      go_enter Tryz.func81, Tryz.ntmps81
      go_wp2
      go_ret
      exact ⟨ret_bool hRg.out.symm, Below.refl _ _⟩
  · have hRg : Hid (rgt n R = false) := by show _ = _; unfold rgt; rw [decide_eq_false h1]; rfl
    have h1' : n < 0 := by omega
    clear hc' KC h1
    go_enter Tryz.func81, Tryz.ntmps81
    go_wp2
    go_ret
    exact ⟨ret_bool hRg.out.symm, Below.refl _ _⟩
end Go.Proofs.YtahfobbiaimoiaaGreatDoor

/- Foes, Clash: what they answer. -/
import Derived.Test.YtdiplbkgglgnfaaRAgn
namespace Go.Proofs.Ytdiplbkgglgnfaa
open Go.RowKit
theorem infoU : (Try.prog.info? 49).map (fun i => (i.zero, i.size, i.bytes)) = some (some (.int .u64 0), 1, 8) := by kernel_rfl
theorem agC_some {W : Nat → Nat} {t : List Nat} {R : List Rl} {c : Nat} {r : Rl} (h : R[c]? = some r) (hk : r.kind = 1) : agC W t R (c + 1) = agI W (ofR t r) (agC W t R c) (ofR t r).length := by
  funext x
  rw [agC, h]
  simp only [if_pos hk]
theorem agC_skip {W : Nat → Nat} {t : List Nat} {R : List Rl} {c : Nat} {r : Rl} (h : R[c]? = some r) (hk : ¬ r.kind = 1) : agC W t R (c + 1) = agC W t R c := by
  funext x
  rw [agC, h]
  simp only [if_neg hk]
/-- Words in a row. -/
def RowU (w : World) (g n : Nat) (F : Nat → Nat) : Prop := ∀ s, s < n → w.cell? ⟨g, s, none⟩ = some (.int .u64 ((F s : Nat) : Int))
theorem RowU.below {w w' : World} {g n : Nat} {F : Nat → Nat} (h : RowU w g n F) (hb : Below w.heap.size w w') : RowU w' g n F := fun s hs => (hb.cell (p := ⟨g, s, none⟩) (cell_lt (h s hs))).trans (h s hs)
theorem RowU.of_own {w : World} {B e g n : Nat} {F : Nat → Nat} (h : w.ownsRow B e 1 (.slice (some ⟨g, 0, none⟩) n n) n (cellsW F n)) : RowU w g n F := fun s hs => by rw [h.cellAt s (by omega)]; exact cellsW_at _ hs
set_option maxRecDepth 100000 in
set_option maxHeartbeats 2000000 in
theorem foesO (R : List Rl) (v : Value) (w : World) (hr : RowR w v R) (hR : R.length ≤ 1000) (hm : ∀ r ∈ R, r.steps.length ≤ 1000) (n : Nat) (hg : rgt (n : Int) R = true) :
    Calls Try.prog 10 #[.int .i64 (n : Int), v] w fun e w' => ∃ g, e = .returned (.tuple #[.slice (some ⟨g, 0, none⟩) n n, .int .i64 0]) ∧ Hid (RowU w' g n (foe n R)) ∧ Hid (∃ F, w'.ownsRow w.heap.size 49 1 (.slice (some ⟨g, 0, none⟩) n n) n (cellsW F n)) ∧ Below w.heap.size w w' := by
  obtain ⟨i0, hi, hz0, hz1, hz2⟩ := info_parts infoS
  obtain ⟨i1, hj, hy0, hy1, hy2⟩ := info_parts infoU
  have KT : Hid (Calls Try.prog 9 #[.int .i64 (n : Int), v] w fun e w' => ∃ o2 c2, e = .returned (.tuple #[.slice o2 n c2, .int .i64 0]) ∧ Hid (RowI w' (.slice o2 n c2) (ints (tie n R))) ∧ Below w.heap.size w w') := tiesF n R v w hr hR hm n rfl hg
  obtain ⟨n', hn', hn12, hck⟩ := rgt_nat hg
  have : n' = n := by omega
  subst this
  obtain ⟨t, ht⟩ : ∃ t, t = tie n' R := ⟨_, rfl⟩
  have htl : t.length = n' := by rw [ht]; exact tieC_len _ _ _
  have htL : Leg 0 t := by rw [ht]; exact tieC_leg _ _ _
  have hfoe : Hid (∀ s, foe n' R s = agC (bwC t n') t R R.length (t.getD s 0)) := fun s => by rw [ht]; rfl
  rw [← ht] at KT
  obtain ⟨m, hbm⟩ : ∃ m, m = blks 0 t := ⟨_, rfl⟩
  have hm25 : m ≤ 25 := by have := blks_leg htL; omega
  have hin : Hid (∀ (c x : Nat), t[c]? = some x → x < m) := fun c x hx => by have := lt_blks (b := 0) (List.mem_of_getElem? hx); omega
  have KB : Hid (∀ W o2 c2, RowI W (.slice o2 n' c2) (ints t) → Calls Try.prog 21 #[.slice o2 n' c2] W fun e w' => ∃ g, e = .returned (.slice (some ⟨g, 0, none⟩) m m) ∧ Hid (w'.ownsRow W.heap.size 62 1 (.slice (some ⟨g, 0, none⟩) m m) m (cellsW (bwC t n') m)) ∧ Below W.heap.size W w') := fun W o2 c2 h => blockSetsF n' m t o2 c2 W h htl (by omega) htL hbm.symm
  have KO : Hid (∀ W r os cs o2 c2, r ∈ R → RowI W (.slice os r.steps.length cs) r.steps → RowI W (.slice o2 n' c2) (ints t) → Calls Try.prog 23 #[.slice os r.steps.length cs, .slice o2 n' c2] W fun e w' => e = .returned (.slice (some ⟨W.heap.size, 0, none⟩) r.steps.length r.steps.length) ∧ Hid (RowI w' (.slice (some ⟨W.heap.size, 0, none⟩) r.steps.length r.steps.length) (ints (ofR t r))) ∧ Below W.heap.size W w') := fun W r os cs o2 c2 hr h1 h2 => by
    obtain ⟨T, hT, hT2, hTlt, hTn, hTl⟩ := chk_nat (hck r hr)
    unfold ofR
    rw [hT2, ← hTl]
    rw [← hTl, hT] at h1
    exact blocksOfF n' T t os o2 cs c2 W h1 h2 htl hTlt (by omega)
  have KA : Hid (∀ W c r gA gB g3, r ∈ R → W.ownsRow gA 62 1 (.slice (some ⟨gA, 0, none⟩) m m) m (cellsW (agC (bwC t n') t R c) m) → (∀ b, b < m → W.cell? ⟨gB, b, none⟩ = some (.int .u64 ((bwC t n' b : Nat) : Int))) → RowI W (.slice (some ⟨g3, 0, none⟩) r.steps.length r.steps.length) (ints (ofR t r)) → gB ≠ gA → g3 ≠ gA → Calls Try.prog 22 #[.slice (some ⟨gA, 0, none⟩) m m, .slice (some ⟨gB, 0, none⟩) m m, .slice (some ⟨g3, 0, none⟩) r.steps.length r.steps.length] W fun e w' => e = .returned (.tuple #[]) ∧ Hid (Ag gA W w' gA m (agI (bwC t n') (ofR t r) (agC (bwC t n') t R c) (ofR t r).length))) := fun W c r gA gB g3 hr h1 h2 h3 h4 h5 => by
    obtain ⟨T, hT, hT2, hTlt, hTn, hTl⟩ := chk_nat (hck r hr)
    have hol : (ofR t r).length = r.steps.length := by unfold ofR; rw [List.length_map, List.length_map]
    rw [← hol] at h3 ⊢
    refine setAgainstF gA gA gB g3 m n' _ _ (ofR t r) W h1 h2 h3 h4 h5 (fun b hb => ?_) (by rw [hol]; have := hm r hr; omega) (by omega) (fun b => agC_lt (fun b => bwC_lt _ _ b) _ _) (fun b => bwC_lt _ _ b)
    unfold ofR at hb
    rw [hT2] at hb
    obtain ⟨s, hs, rfl⟩ := List.mem_map.1 hb
    have hsn := hTlt s hs
    obtain ⟨x, hx⟩ : ∃ x, t[s]? = some x := ⟨_, List.getElem?_eq_getElem (by omega)⟩
    rw [List.getD_eq_getElem?_getD, hx]
    exact hin.out s x hx
  have hS1 : Hid (∀ c r, R[c]? = some r → r.kind = 1 → agC (bwC t n') t R (c + 1) = agI (bwC t n') (ofR t r) (agC (bwC t n') t R c) (ofR t r).length) := fun c r h hk => agC_some h hk
  have hS2 : Hid (∀ c r, R[c]? = some r → ¬ r.kind = 1 → agC (bwC t n') t R (c + 1) = agC (bwC t n') t R c) := fun c r h hk => agC_skip h hk
  have hAlt : Hid (∀ c b, agC (bwC t n') t R c b < 18446744073709551616) := fun c b => by
    have := agC_lt (W := bwC t n') (t := t) (R := R) (p := n') (fun b => bwC_lt _ _ b) c b
    have := pow_le12 (n := n') (by omega)
    omega
  have htat : Hid (∀ s, s < n' → ∃ x, t[s]? = some x) := fun s hs => ⟨_, List.getElem?_eq_getElem (by omega)⟩
  obtain ⟨oa, cap, rfl⟩ : ∃ oa cap, v = .slice oa R.length cap := by
    obtain ⟨oa, cap, e, _⟩ := hr
    exact ⟨oa, cap, e⟩
  have hr' := hide' hr
  have hrow : Hid (∀ W c r, Below w.heap.size w W → R[c]? = some r → ∃ g o os cs, oa = some ⟨g, o, none⟩ ∧ W.cell? ⟨g, o + c * 3, none⟩ = some (.int .i64 r.kind) ∧ W.cell? ⟨g, o + c * 3 + 1, none⟩ = some (.int .i64 r.k) ∧ W.cell? ⟨g, o + c * 3 + 2, none⟩ = some (.slice os r.steps.length cs) ∧ RowI W (.slice os r.steps.length cs) r.steps) := fun W c r hW hx => by
    obtain ⟨_, _, e, _, hc⟩ := hr'.out.below hW (Nat.le_refl _)
    cases e
    obtain ⟨g, o, sv, e1, e2, e3, e4, e5⟩ := hc c r hx
    obtain ⟨os, cs, e6, _⟩ := id e5
    subst e6
    exact ⟨g, o, os, cs, e1, e2, e3, e4, e5⟩
  clear hr hm hg hck ht htl htL hbm hr'
  go_enter Try.func10, Try.ntmps10
  go_wp2_with fail
  refine KT.out.mono ?_
  rintro e w1 ⟨o2, c2, rfl, hr1, hb1⟩
  have hB1 := hide' hb1
  clear KT hb1
  go_wp2_with fail
  refine (KB.out _ _ _ hr1.out).mono ?_
  rintro e w4 ⟨gB, rfl, hbs, hb4⟩
  have hr4 : Hid (RowI w4 (.slice o2 n' c2) (ints t)) := hr1.out.below hb4 (Nat.le_refl _)
  have hB4 : Hid (Below w.heap.size w w4) := hB1.out.trans (hb4.mono hB1.out.size)
  have hgB : Hid (gB < w4.heap.size) := own_lt' hbs.out rfl
  have hblk : Hid (∀ W, Below w4.heap.size w4 W → ∀ b, b < m → W.cell? ⟨gB, b, none⟩ = some (.int .u64 ((bwC t n' b : Nat) : Int))) := fun W hW b hb => by
    rw [hW.cell (p := ⟨gB, b, none⟩) hgB.out, hbs.out.cellAt b (by omega)]
    exact cellsW_at _ hb
  clear KB hr1 hb4 hB1 hbs
  go_wp2_with (at_make; refine wpList_make_full _ rfl _ _ 58 rfl w4.heap.size 62 i0 (.agg #[.int .u64 0]) 1 Try.underlying58 hi hz0 hz1 .i64 .i64 _ _ m rfl rfl rfl rfl (by rw [hz2]; omega) (by unfold maxLen; omega) (by simp) ?_; intro w5 hrow5 hgrow5)
  have hr5 : Hid (w5.ownsRow w4.heap.size 62 1 (.slice (some ⟨w4.heap.size, 0, none⟩) m m) m (cellsW (agC (bwC t n') t R 0) m)) := by
    have h := hrow5
    rw [show (Value.agg #[.int .u64 0]).cells = #[.int .u64 0] from rfl, toList_madeCells_one, Nat.mul_one, cellsW_zero] at h
    exact h
  have hB5 : Hid (Below w4.heap.size w4 w5) := (Below.refl _ w4).grown hgrow5 (Nat.le_refl _) (fun j ej => by cases ej)
  clear hrow5 hgrow5
  go_wp2_with fail
  go_loopw [11, 31] (fun _ k wr => ∃ (c : Nat), c ≤ R.length ∧ k = .int .i64 c ∧ Hid (wr.ownsRow w4.heap.size 62 1 (.slice (some ⟨w4.heap.size, 0, none⟩) m m) m (cellsW (agC (bwC t n') t R c) m)) ∧ Hid (Below w4.heap.size w4 wr)) (fun _ k _ => ((R.length : Int) - intOf k).toNat)
  case atStart => exact ⟨0, Nat.zero_le _, rfl, hr5, hB5⟩
  case round =>
    clear hr5 hB5
    obtain ⟨c, hcl, rfl, hO, hB⟩ := hrel
    by_cases hlt : c < R.length
    · as_aux_lemma =>
      obtain ⟨r, hx⟩ : ∃ x, R[c]? = some x := ⟨_, List.getElem?_eq_getElem hlt⟩
      have hBw : Hid (Below w.heap.size w wr) := hB4.out.trans (hB.out.mono hB4.out.size)
      obtain ⟨g, o, os, cs, rfl, c1, c2', c3, hs⟩ := hrow.out wr c r hBw.out hx
      have hA : Below wr.heap.size wr (wr.alloc (.cells #[.int .i64 r.kind, .int .i64 r.k, .slice os r.steps.length cs] 40)) := (Below.refl _ wr).alloc (Nat.le_refl _) _
      have hsW := hs.below hA (Nat.le_refl _)
      have hBA : Hid (Below w4.heap.size w4 (wr.alloc (.cells #[.int .i64 r.kind, .int .i64 r.k, .slice os r.steps.length cs] 40))) := hB.out.trans (hA.mono hB.out.size)
      have hOA := hide' (own_below hO.out hA (Nat.le_refl _))
      have hgA : w4.heap.size < wr.heap.size := own_lt' hO.out rfl
      by_cases hk : r.kind = 1
      · have hM := hide' (KO.out _ r os cs o2 _ (List.mem_of_getElem? hx) hsW (hr4.out.below hBA.out (Nat.le_refl _)))
        have hN := hide' (hS1.out c r hx hk)
        have KA' := hide' fun W g3 => KA.out W c r w4.heap.size gB g3 (List.mem_of_getElem? hx)
        rw [← hN.out] at KA'
        rw [hk] at c1 hM hOA hBA
        clear KO KA hS1 hS2 hrow hx hk hs hsW hA hN hr4 hin htat hAlt hfoe hO hB hBw
        generalize r.steps.length = q at *
        generalize r.k = kk at *
        generalize ints (ofR t r) = oi at *
        simp only [World.size_alloc] at hM
        go_wp2_with fail
        refine hM.out.mono ?_
        rintro e w6 ⟨rfl, hr6, hb6⟩
        have hO6 := hide' (own_below hOA.out hb6 (by rw [World.size_alloc]; exact Nat.le_refl _))
        have hB6 : Hid (Below w4.heap.size w4 w6) := hBA.out.trans (hb6.mono (by omega))
        clear hM hOA hBA hb6
        go_wp2_with (go_at_call 22; refine (KA'.out _ _ hO6.out (hblk.out _ hB6.out) hr6.out (Nat.ne_of_lt hgB.out) (by omega)).mono ?_; rintro e w7 ⟨rfl, hG7⟩)
        exact ⟨⟨c + 1, by omega, by go_num, hG7.out.own, hB6.out.trans hG7.out.bl⟩, by simp [intOf]; omega⟩
      · have hkb : (r.kind == 1) = false := by simpa using hk
        have hN := hide' (hS2.out c r hx hk)
        clear KO KA hS1 hS2 hrow hx hk hs hsW hA hr4 hin htat hAlt hfoe hO hB hBw hblk
        generalize r.steps.length = q at *
        generalize r.k = kk at *
        generalize r.kind = kd at *
        go_wp2
        exact ⟨⟨c + 1, by omega, by go_num, by rw [hN.out]; exact hOA, hBA⟩, by simp [intOf]; omega⟩
    · obtain rfl : c = R.length := by omega
      clear KO KA hS1 hS2 hrow hblk
      have hct : Hid (∀ W, Below w4.heap.size w4 W → ∀ i x : Nat, t[i]? = some x → ∃ g o, o2 = some ⟨g, o, none⟩ ∧ W.cell? ⟨g, o + i, none⟩ = some (.int .i64 (x : Int))) := fun W hW => by
        obtain ⟨_, _, e, _, hc⟩ := hr4.out.below hW (Nat.le_refl _)
        cases e
        exact fun i x hx => hc i x (ints_at hx)
      have hag : Hid (∀ W, Below wr.heap.size wr W → ∀ b, b < m → W.cell? ⟨w4.heap.size, b, none⟩ = some (.int .u64 ((agC (bwC t n') t R R.length b : Nat) : Int))) := fun W hW b hb => by
        rw [hW.cell (p := ⟨w4.heap.size, b, none⟩) (own_lt' hO.out rfl), hO.out.cellAt b (by omega)]
        exact cellsW_at _ hb
      have hAlt' := hide' fun b => hAlt.out R.length b
      clear hO hr4 hAlt
      generalize agC (bwC t n') t R R.length = F at *
      go_wp2_with (at_make; refine wpList_make_full _ rfl _ _ 46 rfl wr.heap.size 49 i1 (.int .u64 0) 1 Try.underlying46 hj hy0 hy1 .i64 .i64 _ _ n' rfl rfl rfl rfl (by rw [hy2]; omega) (by unfold maxLen; omega) (by simp) ?_; intro w8 hrow8 hgrow8)
      have hr8 : Hid (w8.ownsRow wr.heap.size 49 1 (.slice (some ⟨wr.heap.size, 0, none⟩) n' n') n' (cellsW (fun s => if s < 0 then F (t.getD s 0) else 0) n')) := by
        have h := hrow8
        rw [show (Value.int .u64 0).cells = #[.int .u64 0] from rfl, toList_madeCells_one, Nat.mul_one, cellsW_zero] at h
        have e : cellsW (fun s => if s < 0 then F (t.getD s 0) else 0) n' = cellsW (fun _ => 0) n' := cellsW_congr fun b _ => if_neg (Nat.not_lt_zero b)
        show w8.ownsRow _ _ _ _ _ _
        rw [e]; exact h
      have hB8 : Hid (Below wr.heap.size wr w8) := (Below.refl _ wr).grown hgrow8 (Nat.le_refl _) (fun j ej => by cases ej)
      clear hrow8 hgrow8
      obtain ⟨w9, hw9⟩ : ∃ x, x = wr := ⟨_, rfl⟩
      rw [← hw9] at hr8 hB8 hag hB ⊢
      clear hw9 wr
      go_wp2_with fail
      go_loopw [13, 14, 50] (fun _ _ k wr => ∃ (c : Nat), c ≤ n' ∧ k = .int .i64 c ∧ Hid (wr.ownsRow w9.heap.size 49 1 (.slice (some ⟨w9.heap.size, 0, none⟩) n' n') n' (cellsW (fun s => if s < c then F (t.getD s 0) else 0) n')) ∧ Hid (Below w9.heap.size w9 wr)) (fun _ _ k _ => ((n' : Int) - intOf k).toNat)
      case atStart => exact ⟨0, Nat.zero_le _, rfl, hr8, hB8⟩
      case round =>
        clear hr8 hB8
        obtain ⟨c, hcl, rfl, hO, hB9⟩ := hrel
        by_cases hlt : c < n'
        · as_aux_lemma =>
          obtain ⟨x, hx⟩ := htat.out c hlt
          have hxm := hin.out c x hx
          obtain ⟨g, o, rfl, c1⟩ := hct.out wr (hB.out.trans (hB9.out.mono hB.out.size)) c x hx
          have ca := hag.out wr hB9.out x hxm
          have hxm' : (x : Int) < (m : Int) := by omega
          have KW := hide' fun W => word64 ((F x : Nat) : Int) W
          have cz : wr.cell? ⟨w9.heap.size, c, none⟩ = some (.int .u64 0) := by
            rw [hO.out.cellAt c (by omega), cellsW_at _ hlt, if_neg (Nat.lt_irrefl _)]; rfl
          have hgl : w9.heap.size < wr.heap.size := cell_lt cz
          have hN : Hid (cellsW (fun b => if b = c then F x else (fun s => if s < c then F (t.getD s 0) else 0) b) n' = cellsW (fun s => if s < c + 1 then F (t.getD s 0) else 0) n') := cellsW_congr fun b _ => by
            by_cases e : b = c
            · subst e
              rw [if_pos rfl, if_pos (Nat.lt_succ_self _), List.getD_eq_getElem?_getD, hx]; rfl
            · rw [if_neg e]
              by_cases h : b < c
              · simp only [if_pos h]; rw [if_pos (by omega)]
              · simp only [if_neg h]; rw [if_neg (by omega)]
          clear hct hag htat hin hx hAlt' hfoe hB
          generalize F x = q at *
          go_wp2_with (go_at_call 24; refine (KW.out _).mono ?_; rintro e w10 ⟨rfl, hb⟩; have hO3 := hide' (own_below hO.out hb (Nat.le_refl _)); have cu3 : w10.cell? ⟨w9.heap.size, c, none⟩ = some (.int .u64 0) := ((hb.cell (p := ⟨w9.heap.size, c, none⟩) hgl).trans cz); have fz3 := hO3.out.frozenAt c; have hB10 : Hid (Below w9.heap.size w9 w10) := (hB9.out.trans (hb.mono hB9.out.size)); clear hb)
          refine ⟨⟨c + 1, by omega, by go_num, ?_, hB10.out.setCell (Nat.le_refl _) _⟩, by simp [intOf]; omega⟩
          have h4 := (hO3.out.stored c (.int .u64 (q : Int))).1
          rw [cellsW_set, hN.out] at h4
          exact h4
        · obtain rfl : c = n' := by omega
          clear hct hag htat hin
          have hfin : Hid (RowU wr w9.heap.size c (foe c R)) := fun s hs => by
            rw [hO.out.cellAt s (by omega), cellsW_at _ hs, if_pos hs, hfoe.out s]
          go_wp2
          refine bodyPost_ret (v := .tuple #[.slice (some ⟨w9.heap.size, 0, none⟩) c c, .int .i64 0]) (by simp [results, Try.results10, go_sem]) rfl ?_
          exact ⟨_, rfl, hfin, ⟨_, own_downM hO.out (Nat.le_trans hB4.out.size hB.out.size)⟩, (hB4.out.trans (hB.out.mono hB4.out.size)).trans (hB9.out.mono (Nat.le_trans hB4.out.size hB.out.size))⟩
theorem foesF (R : List Rl) (v : Value) (w : World) (hr : RowR w v R) (hR : R.length ≤ 1000) (hm : ∀ r ∈ R, r.steps.length ≤ 1000) (n : Nat) (hg : rgt (n : Int) R = true) :
    Calls Try.prog 10 #[.int .i64 (n : Int), v] w fun e w' => ∃ g, e = .returned (.tuple #[.slice (some ⟨g, 0, none⟩) n n, .int .i64 0]) ∧ Hid (RowU w' g n (foe n R)) ∧ Below w.heap.size w w' :=
  (foesO R v w hr hR hm n hg).mono fun _ _ ⟨g, h1, h2, _, h3⟩ => ⟨g, h1, h2, h3⟩
set_option maxRecDepth 100000 in
set_option maxHeartbeats 2000000 in
theorem foesN (n : Int) (R : List Rl) (v : Value) (w : World) (hr : RowR w v R) (hR : R.length ≤ 1000) (hm : ∀ r ∈ R, r.steps.length ≤ 1000) (hg : rgt n R = false) :
    Calls Try.prog 10 #[.int .i64 n, v] w fun e w' => e = .returned (.tuple #[.slice none 0 0, .int .i64 1]) ∧ Below w.heap.size w w' := by
  have KT := hide' (tiesN n R v w hr hR hm hg)
  obtain ⟨oa, cap, rfl⟩ : ∃ oa cap, v = .slice oa R.length cap := by
    obtain ⟨oa, cap, e, _⟩ := hr
    exact ⟨oa, cap, e⟩
  clear hr hm hg
  go_enter Try.func10, Try.ntmps10
  go_wp2_with (go_at_call 9; refine KT.out.mono ?_; rintro e w1 ⟨rfl, hb1⟩)
  refine bodyPost_ret (v := .tuple #[.slice none 0 0, .int .i64 1]) (by simp [results, Try.results10, go_sem]) rfl ?_
  exact ⟨rfl, hb1⟩
end Go.Proofs.Ytdiplbkgglgnfaa

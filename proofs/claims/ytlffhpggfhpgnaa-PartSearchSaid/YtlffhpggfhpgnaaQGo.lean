/- tree.go_: what it asks, and what it finds. -/
import Derived.Test.YtlffhpggfhpgnaaQTree
import Derived.Deep.QuietTactic
import Derived.BigQuiet
namespace Go.Proofs.Ytlffhpggfhpgnaa
open Go.RowKit
/-- What the document's search holds behind a world, whatever lies in which block. -/
def TrS (W0 : World) (tb : Nat) (c0 c1 c2 c3 c4 : Value) (most : Nat) (tag0 : Nat → Nat) (Wb W : World) (s : SS) : Prop :=
  ∃ tag av fv vsA vsF, Tr W0 W tb c0 c1 c2 c3 c4 most tag av fv vsA vsF s ∧ (∀ g, tag0 g ≠ 0 → tag g = tag0 g) ∧ (∀ g, g < Wb.heap.size → tag0 g = 4 → W.heap[g]? = Wb.heap[g]?) ∧ Wb.heap.size ≤ W.heap.size
theorem below_drewQ {n : Nat} {w w' : World} (h : Below n w w') : ∀ k, Below n w (w'.drewN k) := by
  intro k
  induction k with
  | zero => exact h
  | succ k ih => exact ih.drew
theorem TrS.below {W0 : World} {tb : Nat} {c0 c1 c2 c3 c4 : Value} {most : Nat} {tag0 : Nat → Nat} {Wb W W' : World} {s : SS} (h : TrS W0 tb c0 c1 c2 c3 c4 most tag0 Wb W s) (hb : Below W.heap.size W W') : TrS W0 tb c0 c1 c2 c3 c4 most tag0 Wb W' s := by
  obtain ⟨tag, av, fv, vsA, vsF, h1, h2, h3, h4⟩ := h
  exact ⟨tag, av, fv, vsA, vsF, h1.below hb, h2, fun g hg ht => (hb.block g (by omega)).trans (h3 g hg ht), Nat.le_trans h4 hb.size⟩
theorem TrS.drewN {W0 : World} {tb : Nat} {c0 c1 c2 c3 c4 : Value} {most : Nat} {tag0 : Nat → Nat} {Wb W : World} {s : SS} (h : TrS W0 tb c0 c1 c2 c3 c4 most tag0 Wb W s) (k : Nat) : TrS W0 tb c0 c1 c2 c3 c4 most tag0 Wb (W.drewN k) s := h.below (below_drewQ (Below.refl _ _) k)
theorem TrS.trans {W0 : World} {tb : Nat} {c0 c1 c2 c3 c4 : Value} {most : Nat} {tag0 tag1 : Nat → Nat} {Wb W W' : World} {s : SS} (ht : ∀ g, tag0 g ≠ 0 → tag1 g = tag0 g) (hk : ∀ g, g < Wb.heap.size → tag0 g = 4 → W.heap[g]? = Wb.heap[g]?) (hz : Wb.heap.size ≤ W.heap.size) (h : TrS W0 tb c0 c1 c2 c3 c4 most tag1 W W' s) : TrS W0 tb c0 c1 c2 c3 c4 most tag0 Wb W' s := by
  obtain ⟨tag, av, fv, vsA, vsF, h1, h2, h3, h4⟩ := h
  refine ⟨tag, av, fv, vsA, vsF, h1, fun g hg => ?_, fun g hg h0 => ?_, Nat.le_trans hz h4⟩
  · rw [h2 g (by rw [ht g hg]; exact hg), ht g hg]
  · rw [h3 g (by omega) (by rw [ht g (by rw [h0]; decide)]; exact h0), hk g hg h0]
/-- One more is asked by the document's search: all that follows from where it stands. -/
theorem Tr.asks {W0 V w2 w5 : World} {tb : Nat} {c0 c1 c2 c3 c4 : Value} {most : Nat} {tag1 : Nat → Nat} {av fv u : Value} {vsA vsF : List Value} {r : SS} {l : List Nat} {g5 cap5 : Nat} {o5 : Obj} (h : Tr W0 V tb c0 c1 c2 c3 c4 most tag1 av fv vsA vsF r) (hb : Below V.heap.size V w2) (hu : w2.ownsRow V.heap.size 3 1 u l.length (cellsI (ints l)))
    (hnew : w5.ownsRow 0 22 1 (.slice (some ⟨g5, 0, none⟩) (r.1.length + 1) cap5) (r.1.length + 1) (vsA ++ [u])) (hold : w5.ownsRow 0 22 1 av r.1.length vsA)
    (hat : (av = .slice (some ⟨g5, 0, none⟩) r.1.length cap5 ∧ (w2.alloc o5).grownBy w5 (some g5)) ∨ (g5 = (w2.alloc o5).heap.size ∧ (w2.alloc o5).grownBy w5 none)) :
    w5.heap[tb]? = w2.heap[tb]? ∧ ∃ tag5, Tr W0 (w5.setCell ⟨tb, 6, none⟩ (.slice (some ⟨g5, 0, none⟩) (r.1.length + 1) cap5)) tb c0 c1 c2 c3 c4 most tag5 (.slice (some ⟨g5, 0, none⟩) (r.1.length + 1) cap5) fv (vsA ++ [u]) vsF (r.1 ++ [l], r.2) ∧ (∀ g, tag1 g ≠ 0 → tag5 g = tag1 g) ∧ (∀ g, g < V.heap.size → tag1 g = 4 → (w5.setCell ⟨tb, 6, none⟩ (.slice (some ⟨g5, 0, none⟩) (r.1.length + 1) cap5)).heap[g]? = V.heap[g]?) ∧ V.heap.size ≤ (w5.setCell ⟨tb, 6, none⟩ (.slice (some ⟨g5, 0, none⟩) (r.1.length + 1) cap5)).heap.size ∧ (∀ g, u.ownBlock = some g → tag5 g = 4) ∧ (w5.setCell ⟨tb, 6, none⟩ (.slice (some ⟨g5, 0, none⟩) (r.1.length + 1) cap5)).ownsRow 0 3 1 u l.length (cellsI (ints l)) := by
  have hbs := hb.size
  have hu' : w2.ownsRow V.heap.size 3 1 u (ints l).length (cellsI (ints l)) := by rw [ints_len]; exact hu
  obtain ⟨tag2, h2, t2, u2⟩ := h.lay hb hu'
  have hu0 : w2.ownsRow 0 3 1 u l.length (cellsI (ints l)) := ⟨hu.1, by
    rcases hu.2 with hn | ⟨g, cap, cur, e, h1, rest⟩
    · exact .inl hn
    · exact .inr ⟨g, cap, cur, e, Nat.zero_le _, rest⟩⟩
  obtain ⟨e5, tag5, h5, t5, k5⟩ := h2.ask ((Below.refl _ w2).alloc (Nat.le_refl _) o5) (hu0.alloc o5) u2 hnew hold hat
  have hz : w2.heap.size ≤ (w5.setCell ⟨tb, 6, none⟩ (.slice (some ⟨g5, 0, none⟩) (r.1.length + 1) cap5)).heap.size := by
    have : (w2.alloc o5).heap.size ≤ w5.heap.size := by rcases hat with ⟨_, hg⟩ | ⟨_, hg⟩ <;> exact hg.size
    simp [World.setCell] at this ⊢
    omega
  refine ⟨e5, tag5, h5, fun g hg => ?_, fun g hg h4 => ?_, by omega, fun g e => ?_, ?_⟩
  · rw [t5 g (by rw [t2 g hg]; exact hg), t2 g hg]
  · rw [k5 g (by omega) (by rw [t2 g (by rw [h4]; decide)]; exact h4), hb.block g hg]
  · rw [t5 g (by rw [u2 g e]; decide), u2 g e]
  · exact K.owns_same hu0 fun g hg e => k5 g hg (u2 g e)
theorem leg_snoc {a : List Nat} {b : Nat} (h : Leg 0 a) (hb : b ≤ blks 0 a) : Leg 0 (a ++ [b]) := Leg.app.2 ⟨h, hb, trivial⟩
theorem ints_snoc (a : List Nat) (b : Nat) : ints (a ++ [b]) = ints a ++ [(b : Int)] := by simp [ints]
theorem fold_stop {f : SS → Nat → SS} {s : SS} {c m : Nat} (hc : c ≤ m) (h : ∀ l : List Nat, l.foldl f ((List.range c).foldl f s) = (List.range c).foldl f s) : (List.range m).foldl f s = (List.range c).foldl f s := by
  obtain ⟨k, rfl⟩ : ∃ k, m = c + k := ⟨m - c, by omega⟩
  rw [List.range_add, List.foldl_append]
  exact h _
set_option maxRecDepth 100000 in
set_option maxHeartbeats 2000000 in
theorem goEnd (W0 : World) (tb : Nat) (c0 c1 c2 c3 c4 : Value) (most : Nat) (hmo : most ≤ 65536) (n : Nat) (hn : n ≤ 12) (a : List Nat) (ha : a.length = n) (W : World) (tag : Nat → Nat) (av fv : Value) (vsA vsF : List Value) (s : SS) (v : Value)
    (h : Tr W0 W tb c0 c1 c2 c3 c4 most tag av fv vsA vsF s) (hv : W.ownsRow 0 3 1 v a.length (cellsI (ints a))) (hvt : ∀ g, v.ownBlock = some g → tag g = 4) (hs : s.2.length < most) :
    Calls Try.prog 4 #[.pointer (some ⟨tb, 0, none⟩), v, .int .i64 (n : Int)] W fun e w' => e = .returned (.tuple #[]) ∧ Hid (TrS W0 tb c0 c1 c2 c3 c4 most tag W w' (s.1, s.2 ++ [a])) := by
  subst ha
  obtain ⟨iL, hiL, hzL0, hzL1, hzL2⟩ := info_parts K.infoL
  obtain ⟨_, _, _, _, _, _, _, cf⟩ := h.cell
  obtain ⟨ov, cv, rfl⟩ := K.own_shape hv
  obtain ⟨of, cfv, rfl⟩ := K.own_shape h.found.outer
  have hlt := h.lt
  have hO : Hid (∀ o, (W.alloc o).ownsRow 0 22 1 (.slice of s.2.length cfv) s.2.length vsF) := fun o => h.found.outer.alloc o
  have hS : Hid (∀ o g5 cap5 w5, w5.ownsRow 0 22 1 (.slice (some ⟨g5, 0, none⟩) (s.2.length + 1) cap5) (s.2.length + 1) (vsF ++ [.slice ov a.length cv]) → w5.ownsRow 0 22 1 (.slice of s.2.length cfv) s.2.length vsF →
      ((.slice of s.2.length cfv = Value.slice (some ⟨g5, 0, none⟩) s.2.length cap5 ∧ (W.alloc o).grownBy w5 (some g5)) ∨ (g5 = (W.alloc o).heap.size ∧ (W.alloc o).grownBy w5 none)) →
      w5.heap[tb]? = W.heap[tb]? ∧ TrS W0 tb c0 c1 c2 c3 c4 most tag W (w5.setCell ⟨tb, 7, none⟩ (.slice (some ⟨g5, 0, none⟩) (s.2.length + 1) cap5)) (s.1, s.2 ++ [a])) := fun o g5 cap5 w5 hnew hold hat => by
    obtain ⟨e5, tag', h1, h2, h3⟩ := h.find ((Below.refl _ W).alloc (Nat.le_refl _) o) (hv.alloc o) hvt hnew hold hat
    refine ⟨e5, tag', _, _, _, _, h1, h2, h3, ?_⟩
    have : (W.alloc o).heap.size ≤ w5.heap.size := by rcases hat with ⟨_, hg⟩ | ⟨_, hg⟩ <;> exact hg.size
    simp [World.setCell] at this ⊢
    omega
  have hbox := hide' h.box
  clear h hv hvt
  go_enter Try.func4, Try.ntmps4
  go_wp2_with (at_builtin; refine K.wpList_append_two _ rfl _ _ 26 rfl 0 22 iL (.slice none 0 0) 1 24 Try.underlying26 hiL hzL0 hzL1 hzL2 rfl (by decide) (.slice of s.2.length cfv) s.2.length vsF rfl (hO.out _) ⟨W.heap.size, 0, none⟩ 1 1 [.slice ov a.length cv] rfl rfl (cell_one_new _ _ _) (by simp [Value.oneCell']) (by decide) (by unfold maxLen; omega) (by omega) (Nat.zero_le _) ?_; intro g5 cap5 w5 hnew5 hold5 hat5; have hS5 := hide' (hS.out _ g5 cap5 w5 hnew5 hold5 hat5); have hb5 := hS5.out.1.trans hbox.out; have fz5 := frozen_of_row w5 tb 7 _ _ hb5; have c5 : w5.cell? ⟨tb, 7, none⟩ = some (.slice of s.2.length cfv) := (by simp [World.cell?, hb5]); clear hb5 hnew5 hold5 hat5)
  first | go_end0 | refine bodyPost_ret (results_none rfl _ _ _) rfl ?_
  exact ⟨rfl, hS5.out.2⟩
set_option maxRecDepth 100000 in
set_option maxHeartbeats 2000000 in
theorem goF (W0 : World) (tb : Nat) (hW0 : W0.heap.size ≤ tb) (F : List Int) (of : Option Addr) (cf : Nat) (nn mm mo ba : Int) (hF : RowI W0 (.slice of F.length cf) F) (most : Nat) (hmo : most ≤ 65536) (n : Nat) (hn : n ≤ 12) : ∀ (d : Nat) (a : List Nat), a.length + d = n → Leg 0 a → ∀ (W : World) (tag : Nat → Nat) (av fv : Value) (vsA vsF : List Value) (s : SS) (v : Value),
    Tr W0 W tb (.int .i64 nn) (.int .i64 mm) (.slice of F.length cf) (.int .i64 mo) (.int .i64 ba) most tag av fv vsA vsF s → W.ownsRow 0 3 1 v a.length (cellsI (ints a)) → (∀ g, v.ownBlock = some g → tag g = 4) → s.1.length ≤ 3000 → s.2.length < most →
    Calls Try.prog 4 #[.pointer (some ⟨tb, 0, none⟩), v, .int .i64 (n : Int)] W fun e w' => e = .returned (.tuple #[]) ∧ Hid (TrS W0 tb (.int .i64 nn) (.int .i64 mm) (.slice of F.length cf) (.int .i64 mo) (.int .i64 ba) most tag W w' (goS (keptP F mo ba) most d a s)) := by
  intro d
  induction d with
  | zero =>
    intro a ha _ W tag av fv vsA vsF s v h hv hvt _ hs
    exact goEnd W0 tb _ _ _ _ _ most hmo n hn a (by omega) W tag av fv vsA vsF s v h hv hvt hs
  | succ d ih =>
    intro a ha hL W tag av fv vsA vsF s v h hv hvt hs1 hs2
    have ih' := hide' ih
    have hb := blks_leg hL
    obtain ⟨ov, cv, rfl⟩ := K.own_shape hv
    have hI : RowI W (.slice ov a.length cv) (ints a) := by
      have h1 : W.ownsRow 0 3 1 (.slice ov a.length cv) a.length (cellsI (ints a)) := hv
      exact RowI.of_owns h1
    have KS := hide' (refSize a _ W hI (by omega) hL)
    have h0 : Hid (TrS W0 tb (.int .i64 nn) (.int .i64 mm) (.slice of F.length cf) (.int .i64 mo) (.int .i64 ba) most tag W W s) := ⟨tag, av, fv, vsA, vsF, h, fun _ _ => rfl, fun _ _ _ => rfl, Nat.le_refl _⟩
    have hne : ((a.length : Int) == (n : Int)) = false := by simp; omega
    have hal : a.length < n := by omega
    have hv' := hide' hv
    have hvt' := hide' hvt
    have hL' := hide' hL
    have hI' := hide' hI
    have ha' := hide' ha
    have hF' := hide' hF
    clear h hv hvt hL hI ih ha hF
    go_enter Try.func4, Try.ntmps4
    go_wp2_with (first | (go_at_call 11; refine KS.out.mono ?_; rintro e w1 ⟨rfl, hw1⟩; obtain rfl : W = w1 := hw1.symm))
    clear KS
    go_loopw [7] (fun x wr => ∃ c : Nat, c ≤ blks 0 a + 1 ∧ x = .int .i64 c ∧ Hid (TrS W0 tb (.int .i64 nn) (.int .i64 mm) (.slice of F.length cf) (.int .i64 mo) (.int .i64 ba) most tag W wr ((List.range c).foldl (goStep (keptP F mo ba) most (goS (keptP F mo ba) most d) a) s))) (fun x _ => ((blks 0 a : Int) + 1 - intOf x).toNat)
    case atStart => exact ⟨0, by omega, rfl, h0⟩
    case round =>
      clear h0
      obtain ⟨c, hc, rfl, hS⟩ := hrel
      have hlen := go_fold_len (keptP F mo ba) most d a (List.range c) s hs1 (by omega)
      have hD := hide' (show goS (keptP F mo ba) most (d + 1) a s = (List.range (blks 0 a + 1)).foldl (goStep (keptP F mo ba) most (goS (keptP F mo ba) most d) a) s from rfl)
      have hST := hide' (show (List.range (c + 1)).foldl (goStep (keptP F mo ba) most (goS (keptP F mo ba) most d) a) s = goStep (keptP F mo ba) most (goS (keptP F mo ba) most d) a ((List.range c).foldl (goStep (keptP F mo ba) most (goS (keptP F mo ba) most d) a) s) c by rw [List.range_succ, List.foldl_append]; rfl)
      have hSP := hide' (fun hx => fold_stop (f := goStep (keptP F mo ba) most (goS (keptP F mo ba) most d) a) (s := s) (m := blks 0 a + 1) hc (fun l => go_full l hx))
      generalize hr : (List.range c).foldl (goStep (keptP F mo ba) most (goS (keptP F mo ba) most d) a) s = r at *
      obtain ⟨hr1, hr2⟩ := hlen
      obtain ⟨tag1, av1, fv1, vsA1, vsF1, h, ht, hk, hz⟩ := hS.out
      obtain ⟨k0, k1, k2, k3, k4, k5, k6, k7⟩ := h.cell
      obtain ⟨oA, cA, rfl⟩ := K.own_shape h.asked.outer
      obtain ⟨oF, cF, rfl⟩ := K.own_shape h.found.outer
      by_cases hcb : c ≤ blks 0 a
      · have hcbI : (c : Int) ≤ (blks 0 a : Int) := by omega
        by_cases hm1 : most ≤ r.2.length
        · have hm1I : (most : Int) ≤ (r.2.length : Int) := by omega
          have hE := hide' (hSP.out (.inl hm1))
          clear h hSP hST ih' hr
          go_wp2
          go_quiet (fail)
          go_wp2
          first | go_end0 | refine bodyPost_ret (results_none rfl _ _ _) rfl ?_
          exact ⟨rfl, by show TrS _ _ _ _ _ _ _ _ _ _ _ _; rw [hD.out, hE.out]; exact hS.out.drewN _⟩
        · have hm1d : decide ((most : Int) ≤ (r.2.length : Int)) = false := by simp; omega
          by_cases hm2 : 3000 ≤ r.1.length
          · have hm2I : (3000 : Int) ≤ (r.1.length : Int) := by omega
            have hE := hide' (hSP.out (.inr hm2))
            clear h hSP hST ih' hr
            go_wp2
            go_quiet (fail)
            go_wp2
            first | go_end0 | refine bodyPost_ret (results_none rfl _ _ _) rfl ?_
            exact ⟨rfl, by show TrS _ _ _ _ _ _ _ _ _ _ _ _; rw [hD.out, hE.out]; exact hS.out.drewN _⟩
          · have hm2d : decide ((3000 : Int) ≤ (r.1.length : Int)) = false := by simp; omega
            have hr1' : r.1.length < 3000 := by omega
            have hr2' : r.2.length < most := by omega
            have hLc := hide' (leg_snoc hL'.out hcb)
            have hbc : Hid (∀ x ∈ a ++ [c], x ≤ 25) := fun x hx => by have h1 := lt_blks (b := 0) hx; have h2 := blks_snoc a c; omega
            have hal1 : (a ++ [c]).length = a.length + 1 := by simp
            have hal1' := hide' hal1
            clear hal1
            have hGS : Hid (∀ b, keptP F mo ba (a ++ [c]) = b → goStep (keptP F mo ba) most (goS (keptP F mo ba) most d) a r c = if b then goS (keptP F mo ba) most d (a ++ [c]) (r.1 ++ [a ++ [c]], r.2) else (r.1 ++ [a ++ [c]], r.2)) := fun b hb => by
              unfold goStep
              rw [if_neg (by omega), hb]
            have hold0 := hide' (show ∀ V, Below wr.heap.size wr V → V.ownsRow 0 3 1 (.slice ov a.length cv) a.length (cellsI (ints a)) from fun V hV => K.owns_same hv'.out fun g hg e => (hV.block g (by omega)).trans (hk g hg (hvt'.out g e)))
            have h' := hide' h
            clear hSP h hS hr
            go_wp2
            go_quiet (fail)
            generalize hV : wr.drewN nq = V
            have hBV : Hid (Below wr.heap.size wr V) := by rw [← hV]; exact below_drewQ (Below.refl _ _) nq
            clear hV k0 k1 k2 k3 k4 k5 k6 k7
            have hT := hide' (h'.out.below hBV.out)
            have KW := hide' (fewO (ints a) (.slice ov a.length cv) 25 V (RowI.of_owns (hold0.out V hBV.out)) (by decide))
            rw [List.take_of_length_le (by rw [ints_len]; omega), ints_len] at KW
            clear hold0 h'
            obtain ⟨i0, hi, hz0, hz1, hz2⟩ := info_parts info3
            obtain ⟨iL, hiL, hzL0, hzL1, hzL2⟩ := info_parts K.infoL
            cases hK : keptP F mo ba (a ++ [c])
            · go_wp2_with (first | (go_at_call 12; refine KW.out.mono ?_; rintro e w1 ⟨v1, rfl, hown1, hb1⟩; obtain ⟨o1, c1, rfl⟩ := K.own_shape hown1; have hown1' := hide' hown1; have hb1' := hide' hb1; have hz1' := hb1.size; clear hown1 hb1) | (at_builtin; refine wpList_append_own _ rfl _ _ 22 rfl V.heap.size 3 i0 (.int .i64 0) 1 8 Try.underlying22 hi hz0 hz1 hz2 rfl (by decide) (.slice o1 a.length c1) a.length (cellsI (ints a)) rfl (hown1'.out.alloc _) ⟨w1.heap.size, 0, none⟩ 1 1 [.int .i64 (c : Int)] rfl rfl (cell_one_new _ _ _) (by simp [Value.oneCell']) (by unfold maxLen; omega) (by omega) (by simp; omega) ?_; intro u w2 hown2 hgrow2 hnil2; clear hnil2; obtain ⟨ou, cu, rfl⟩ := K.own_shape hown2; have hown2' : Hid (w2.ownsRow V.heap.size 3 1 (.slice ou (a.length + 1) cu) (a ++ [c]).length (cellsI (ints (a ++ [c])))) := (by show World.ownsRow _ _ _ _ _ _ _; rw [hal1'.out, cellsI_snoc]; exact hown2); have hb2 : Hid (Below V.heap.size V w2) := (hb1'.out.alloc hz1' _).grown hgrow2 (by simp; omega) (fun j ej => (hown1'.out.lt j ej).1); have hT2 := hide' (hT.out.below hb2.out); have k6 := hT2.out.cell.2.2.2.2.2.2.1; have hA2 : Hid (∀ o, (w2.alloc o).ownsRow 0 22 1 (.slice oA r.1.length cA) r.1.length vsA1) := (fun o => hT2.out.asked.outer.alloc o); have hbox2 := hide' hT2.out.box; clear hown2 hgrow2 hown1' hb1' hT2) | (at_builtin; refine K.wpList_append_two _ rfl _ _ 26 rfl 0 22 iL (.slice none 0 0) 1 24 Try.underlying26 hiL hzL0 hzL1 hzL2 rfl (by decide) (.slice oA r.1.length cA) r.1.length vsA1 rfl (hA2.out _) ⟨w2.heap.size, 0, none⟩ 1 1 [.slice ou (a.length + 1) cu] rfl rfl (cell_one_new _ _ _) (by simp [Value.oneCell']) (by decide) (by unfold maxLen; omega) (by omega) (Nat.zero_le _) ?_; intro g5 cap5 w5 hnew5 hold5 hat5; obtain ⟨e5, tag5, h5, t5, b5, z5, u5, own5⟩ := Tr.asks hT.out hb2.out hown2'.out hnew5 hold5 hat5; have hb5 := e5.trans hbox2.out; have fz5 := frozen_of_row w5 tb 6 _ _ hb5; have q0 : w5.cell? ⟨tb, 0, none⟩ = some (.int .i64 nn) := (by simp [World.cell?, hb5]); have q1 : w5.cell? ⟨tb, 1, none⟩ = some (.int .i64 mm) := (by simp [World.cell?, hb5]); have q2 : w5.cell? ⟨tb, 2, none⟩ = some (.slice of F.length cf) := (by simp [World.cell?, hb5]); have q3 : w5.cell? ⟨tb, 3, none⟩ = some (.int .i64 mo) := (by simp [World.cell?, hb5]); have q4 : w5.cell? ⟨tb, 4, none⟩ = some (.int .i64 ba) := (by simp [World.cell?, hb5]); have q6 : w5.cell? ⟨tb, 6, none⟩ = some (.slice oA r.1.length cA) := (by simp [World.cell?, hb5]); have KK := hide' (keptS F (.slice of F.length cf) nn mm mo ba (a ++ [c]) (.slice ou (a.length + 1) cu) _ (hF'.out.below h5.old hW0) (by have h1 := RowI.of_owns own5; exact h1) (by rw [hal1'.out]; omega) hbc.out); rw [hK] at KK; have h5' := hide' h5; have t5' := hide' t5; have b5' := hide' b5; have z5' := hide' z5; have u5' := hide' u5; have own5' := hide' own5; clear hb5 e5 h5 t5 b5 z5 u5 own5 hnew5 hold5 hat5) | (go_at_call 8; refine KK.out.mono ?_; rintro e w6 ⟨rfl, hb6⟩; have hT6 := hide' (h5'.out.below hb6); have own6 := hide' (K.owns_same own5'.out fun g hg _ => hb6.block g hg); have hS6 : Hid (TrS W0 tb (.int .i64 nn) (.int .i64 mm) (.slice of F.length cf) (.int .i64 mo) (.int .i64 ba) most tag5 w6 w6 (r.1 ++ [a ++ [c]], r.2)) := ⟨_, _, _, _, _, hT6.out, fun _ _ => rfl, fun _ _ _ => rfl, Nat.le_refl _⟩; have hX6 : Hid (∀ w7 s7, TrS W0 tb (.int .i64 nn) (.int .i64 mm) (.slice of F.length cf) (.int .i64 mo) (.int .i64 ba) most tag5 w6 w7 s7 → TrS W0 tb (.int .i64 nn) (.int .i64 mm) (.slice of F.length cf) (.int .i64 mo) (.int .i64 ba) most tag W w7 s7) := (fun w7 s7 h7 => TrS.trans ht hk hz (TrS.trans (fun _ _ => rfl) (fun g hg _ => hBV.out.block g hg) hBV.out.size (TrS.trans t5'.out (fun g hg h4 => (hb6.block g (Nat.lt_of_lt_of_le hg z5'.out)).trans (b5'.out g hg h4)) (Nat.le_trans z5'.out hb6.size) h7))); clear KK h5' t5' b5' z5' own5' hb6))
              exact ⟨⟨c + 1, by omega, by go_num, by show TrS _ _ _ _ _ _ _ _ _ _ _ _; rw [hST.out, hGS.out _ hK]; exact hX6.out _ _ hS6.out⟩, by simp [intOf]; omega⟩
            · go_wp2_with (first | (go_at_call 12; refine KW.out.mono ?_; rintro e w1 ⟨v1, rfl, hown1, hb1⟩; obtain ⟨o1, c1, rfl⟩ := K.own_shape hown1; have hown1' := hide' hown1; have hb1' := hide' hb1; have hz1' := hb1.size; clear hown1 hb1) | (at_builtin; refine wpList_append_own _ rfl _ _ 22 rfl V.heap.size 3 i0 (.int .i64 0) 1 8 Try.underlying22 hi hz0 hz1 hz2 rfl (by decide) (.slice o1 a.length c1) a.length (cellsI (ints a)) rfl (hown1'.out.alloc _) ⟨w1.heap.size, 0, none⟩ 1 1 [.int .i64 (c : Int)] rfl rfl (cell_one_new _ _ _) (by simp [Value.oneCell']) (by unfold maxLen; omega) (by omega) (by simp; omega) ?_; intro u w2 hown2 hgrow2 hnil2; clear hnil2; obtain ⟨ou, cu, rfl⟩ := K.own_shape hown2; have hown2' : Hid (w2.ownsRow V.heap.size 3 1 (.slice ou (a.length + 1) cu) (a ++ [c]).length (cellsI (ints (a ++ [c])))) := (by show World.ownsRow _ _ _ _ _ _ _; rw [hal1'.out, cellsI_snoc]; exact hown2); have hb2 : Hid (Below V.heap.size V w2) := (hb1'.out.alloc hz1' _).grown hgrow2 (by simp; omega) (fun j ej => (hown1'.out.lt j ej).1); have hT2 := hide' (hT.out.below hb2.out); have k6 := hT2.out.cell.2.2.2.2.2.2.1; have hA2 : Hid (∀ o, (w2.alloc o).ownsRow 0 22 1 (.slice oA r.1.length cA) r.1.length vsA1) := (fun o => hT2.out.asked.outer.alloc o); have hbox2 := hide' hT2.out.box; clear hown2 hgrow2 hown1' hb1' hT2) | (at_builtin; refine K.wpList_append_two _ rfl _ _ 26 rfl 0 22 iL (.slice none 0 0) 1 24 Try.underlying26 hiL hzL0 hzL1 hzL2 rfl (by decide) (.slice oA r.1.length cA) r.1.length vsA1 rfl (hA2.out _) ⟨w2.heap.size, 0, none⟩ 1 1 [.slice ou (a.length + 1) cu] rfl rfl (cell_one_new _ _ _) (by simp [Value.oneCell']) (by decide) (by unfold maxLen; omega) (by omega) (Nat.zero_le _) ?_; intro g5 cap5 w5 hnew5 hold5 hat5; obtain ⟨e5, tag5, h5, t5, b5, z5, u5, own5⟩ := Tr.asks hT.out hb2.out hown2'.out hnew5 hold5 hat5; have hb5 := e5.trans hbox2.out; have fz5 := frozen_of_row w5 tb 6 _ _ hb5; have q0 : w5.cell? ⟨tb, 0, none⟩ = some (.int .i64 nn) := (by simp [World.cell?, hb5]); have q1 : w5.cell? ⟨tb, 1, none⟩ = some (.int .i64 mm) := (by simp [World.cell?, hb5]); have q2 : w5.cell? ⟨tb, 2, none⟩ = some (.slice of F.length cf) := (by simp [World.cell?, hb5]); have q3 : w5.cell? ⟨tb, 3, none⟩ = some (.int .i64 mo) := (by simp [World.cell?, hb5]); have q4 : w5.cell? ⟨tb, 4, none⟩ = some (.int .i64 ba) := (by simp [World.cell?, hb5]); have q6 : w5.cell? ⟨tb, 6, none⟩ = some (.slice oA r.1.length cA) := (by simp [World.cell?, hb5]); have KK := hide' (keptS F (.slice of F.length cf) nn mm mo ba (a ++ [c]) (.slice ou (a.length + 1) cu) _ (hF'.out.below h5.old hW0) (by have h1 := RowI.of_owns own5; exact h1) (by rw [hal1'.out]; omega) hbc.out); rw [hK] at KK; have h5' := hide' h5; have t5' := hide' t5; have b5' := hide' b5; have z5' := hide' z5; have u5' := hide' u5; have own5' := hide' own5; clear hb5 e5 h5 t5 b5 z5 u5 own5 hnew5 hold5 hat5) | (go_at_call 8; refine KK.out.mono ?_; rintro e w6 ⟨rfl, hb6⟩; have hT6 := hide' (h5'.out.below hb6); have own6 := hide' (K.owns_same own5'.out fun g hg _ => hb6.block g hg); have hS6 : Hid (TrS W0 tb (.int .i64 nn) (.int .i64 mm) (.slice of F.length cf) (.int .i64 mo) (.int .i64 ba) most tag5 w6 w6 (r.1 ++ [a ++ [c]], r.2)) := ⟨_, _, _, _, _, hT6.out, fun _ _ => rfl, fun _ _ _ => rfl, Nat.le_refl _⟩; have hX6 : Hid (∀ w7 s7, TrS W0 tb (.int .i64 nn) (.int .i64 mm) (.slice of F.length cf) (.int .i64 mo) (.int .i64 ba) most tag5 w6 w7 s7 → TrS W0 tb (.int .i64 nn) (.int .i64 mm) (.slice of F.length cf) (.int .i64 mo) (.int .i64 ba) most tag W w7 s7) := (fun w7 s7 h7 => TrS.trans ht hk hz (TrS.trans (fun _ _ => rfl) (fun g hg _ => hBV.out.block g hg) hBV.out.size (TrS.trans t5'.out (fun g hg h4 => (hb6.block g (Nat.lt_of_lt_of_le hg z5'.out)).trans (b5'.out g hg h4)) (Nat.le_trans z5'.out hb6.size) h7))); clear KK h5' t5' b5' z5' own5' hb6; have KR := hide' (ih'.out (a ++ [c]) (by rw [hal1'.out]; have := ha'.out; omega) hLc.out w6 _ _ _ _ _ _ (.slice ou (a.length + 1) cu) hT6.out own6.out u5'.out (by simp; omega) hr2')) | (go_at_call 4; refine KR.out.mono ?_; rintro e w7 ⟨rfl, h7⟩))
              exact ⟨⟨c + 1, by omega, by go_num, by show TrS _ _ _ _ _ _ _ _ _ _ _ _; rw [hST.out, hGS.out _ hK]; exact hX6.out _ _ h7.out⟩, by simp [intOf]; omega⟩
      · have hcbI : ¬ (c : Int) ≤ (blks 0 a : Int) := by omega
        have hcd : decide ((c : Int) ≤ (blks 0 a : Int)) = false := decide_eq_false hcbI
        obtain rfl : c = blks 0 a + 1 := by omega
        clear h hSP hST ih'
        go_wp2
        first | go_end0 | refine bodyPost_ret (results_none rfl _ _ _) rfl ?_
        exact ⟨rfl, by show TrS _ _ _ _ _ _ _ _ _ _ _ _; rw [hD.out, hr]; exact hS⟩
end Go.Proofs.Ytlffhpggfhpgnaa

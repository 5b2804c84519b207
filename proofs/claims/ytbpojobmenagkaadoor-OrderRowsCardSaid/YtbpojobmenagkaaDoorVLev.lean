/- order's Levels. -/
import Derived.Test.YtbpojobmenagkaaDoorVPlaces
namespace Go.Proofs.YtbpojobmenagkaaDoor
open Go.RowKit Go.Shelf
theorem fin_rangeV : (List.finRange 64).map (fun i : Fin 64 => i.val) = List.range 64 := by decide
theorem nums_range (x : Nat) : (nums x).map (fun i : Fin 64 => i.val) = (List.range 64).filter fun a => x.testBit a := by
  rw [← fin_rangeV, List.filter_map]
  rfl
theorem range_cutV (f : Nat → Bool) {n : Nat} (hn : n ≤ 64) (hf : ∀ a, f a = true → a < n) : (List.range 64).filter f = (List.range n).filter f := by
  obtain ⟨d, hd⟩ : ∃ d, 64 = n + d := ⟨64 - n, by omega⟩
  rw [hd, List.range_add, List.filter_append]
  have : ((List.range d).map (n + ·)).filter f = [] := by
    rw [List.filter_eq_nil_iff]
    intro a ha hb
    obtain ⟨c, _, rfl⟩ := List.mem_map.1 ha
    have := hf _ hb
    omega
  rw [this, List.append_nil]
theorem Ord.lvl_nums {n : Nat} {R : Nat → Nat → Bool} {Pf Sf : Nat → Nat} (h : Ord n R Pf Sf) (k : Nat) : intsOf (nums (rdW n Pf (eK n Pf k))) = cellsN (lvl n Pf k) ∧ (nums (rdW n Pf (eK n Pf k))).length = (lvl n Pf k).length := by
  have e : (nums (rdW n Pf (eK n Pf k))).map (fun i : Fin 64 => i.val) = lvl n Pf k := by
    rw [nums_range, lvl]
    exact range_cutV _ h.n64 fun a ha => ((h.eK_rdy k a).1 ha).1
  refine ⟨?_, by rw [← e, List.length_map]⟩
  rw [← e]
  simp [intsOf, cellsN]
section
variable {go gp gs n : Nat} {R : Nat → Nat → Bool} {Pf Sf : Nat → Nat} {w : World}
/-- What Levels holds behind so many. -/
structure LvI (n : Nat) (Pf : Nat → Nat) (w : World) (k : Nat) (ov : Value) (W : World) : Prop where
  old : Below w.heap.size w W
  bd : Boxed W w.heap.size 54 (.int .u64 ((eK n Pf k : Nat) : Int))
  rows : RV w.heap.size W ov (lvs n Pf k)
theorem LvI.below {k : Nat} {ov : Value} {W W' : World} (h : LvI n Pf w k ov W) (hb : Below W.heap.size W W') : LvI n Pf w k ov W' :=
  ⟨h.old.trans (hb.mono h.old.size), bxb h.bd hb h.bd.lt, h.rows.below hb⟩
/-- What Levels holds within a round. -/
structure LvM (w : World) (D x bl : Nat) (ov : Value) (L : List (List Nat)) (W : World) : Prop where
  old : Below w.heap.size w W
  bd : Boxed W w.heap.size 54 (.int .u64 (D : Int))
  bx : Boxed W bl 54 (.int .u64 (x : Int))
  ne : w.heap.size < bl
  rows : RV w.heap.size W ov L
theorem LvM.below {D x bl : Nat} {ov : Value} {L : List (List Nat)} {W W' : World} (h : LvM w D x bl ov L W) (hb : Below W.heap.size W W') : LvM w D x bl ov L W' :=
  ⟨h.old.trans (hb.mono h.old.size), bxb h.bd hb h.bd.lt, bxb h.bx hb h.bx.lt, h.ne, h.rows.below hb⟩
theorem LvI.box {k : Nat} {ov : Value} {W : World} (h : LvI n Pf w k ov W) (x : Nat) : LvM w (eK n Pf k) x W.heap.size ov (lvs n Pf k) (W.alloc (.cells #[.int .u64 (x : Int)] 54)) := by
  have h1 := h.below ((Below.refl _ W).alloc (Nat.le_refl _) (.cells #[.int .u64 (x : Int)] 54))
  exact ⟨h1.old, h1.bd, Boxed.new W _ _, h.bd.lt, h1.rows⟩
theorem LvM.push {D x bl : Nat} {ov ov' u : Value} {L : List (List Nat)} {l : List Nat} {vs : List Value} {o : Obj} {W W' : World} (h : LvM w D x bl ov L W) (h1 : W.ownsRow w.heap.size 24 1 ov L.length vs) (h2 : ∀ (i : Nat) (l : List Nat), L[i]? = some l → ∃ u, vs[i]? = some u ∧ W.ownsRow w.heap.size 3 1 u l.length (cellsN l)) (hu : W.ownsRow w.heap.size 3 1 u l.length (cellsN l)) (hown : W'.ownsRow w.heap.size 24 1 ov' (L.length + 1) (vs ++ [u])) (hg : (W.alloc o).grownBy W' ov.ownBlock) : LvM w D x bl ov' (L ++ [l]) W' := by
  have ho := OneB.grownT h1 hg
  exact ⟨(h.old.alloc h.old.size o).grown hg (by have := h.old.size; simp; omega) (own_geV h1), ho.boxed h.bd (by decide), ho.boxed h.bx (by decide), h.ne, RV.push h1 h2 hu hown hg⟩
theorem LvM.set {D x bl : Nat} {ov : Value} {L : List (List Nat)} {W : World} (h : LvM w D x bl ov L W) (D' : Nat) : Below w.heap.size w (W.setCell ⟨w.heap.size, 0, none⟩ (.int .u64 (D' : Int))) ∧ Boxed (W.setCell ⟨w.heap.size, 0, none⟩ (.int .u64 (D' : Int))) w.heap.size 54 (.int .u64 (D' : Int)) ∧ RV w.heap.size (W.setCell ⟨w.heap.size, 0, none⟩ (.int .u64 (D' : Int))) ov L :=
  ⟨h.old.setCell (Nat.le_refl _) _, h.bd.set _, h.rows.one (OneB.set h.bd _) (by decide) (by decide)⟩
set_option maxRecDepth 100000 in
set_option maxHeartbeats 2000000 in
theorem levelsO (ho : OrdAt w go gp gs n Pf Sf) (hO : Ord n R Pf Sf) (ht : Tab w) (K : Nat) (hK : K ≤ n) (hKf : eK n Pf K = 2 ^ n - 1) (hKn : ∀ j, j < K → eK n Pf j ≠ 2 ^ n - 1) :
    Calls Tryd.prog 9 #[.pointer (some ⟨go, 0, none⟩)] w fun e w' => ∃ v, e = .returned v ∧ Hid (RV w.heap.size w' v (lvs n Pf K)) ∧ Below w.heap.size w w' := by
  obtain ⟨iL, hiL, hzL0, hzL1, hzL2⟩ := info_parts infoLV
  have hn := hO.n64
  have hKn' := hide' hKn
  have hKf' := hide' hKf
  have hO' := hide' hO
  have hoV : Hid (∀ W, Below w.heap.size w W → OrdAt W go gp gs n Pf Sf) := fun W hW => ho.over hW
  have KA : Hid (∀ W, Below w.heap.size w W → Calls Tryd.prog 28 #[.pointer (some ⟨go, 0, none⟩)] W fun e w' => e = .returned (.agg #[.int .u64 ((2 ^ n - 1 : Nat) : Int)]) ∧ Below W.heap.size W w') := fun W hW => allO (ho.over hW) hn
  have KR : Hid (∀ W d, Below w.heap.size w W → d < 18446744073709551616 → Calls Tryd.prog 20 #[.pointer (some ⟨go, 0, none⟩), .int .u64 (d : Nat)] W fun e w' => e = .returned (.int .u64 (rdW n Pf d : Int)) ∧ Below W.heap.size W w') := fun W d hW hd => readyO (ho.over hW) hn (fun a ha => hO'.out.pre_lt ha) d hd (ht.over hW)
  have hlt : Hid (∀ k, eK n Pf k < 18446744073709551616) := fun k => hO'.out.eK_lt k
  have hrl : Hid (∀ k, rdW n Pf (eK n Pf k) < 18446744073709551616) := fun k => hO'.out.rdW_lt (hO'.out.eK_lt k)
  have hpl : Hid (∀ W k, Below w.heap.size w W → Calls Tryd.prog 29 #[.agg #[.int .u64 (rdW n Pf (eK n Pf k) : Int)]] W fun e W' => ∃ v, e = .returned v ∧ W'.ownsRow W.heap.size 3 1 v (lvl n Pf k).length (cellsN (lvl n Pf k)) ∧ Below W.heap.size W W') := fun W k hW => by
    have := places64 _ (hrl.out k) W (ht.over hW)
    rwa [(hO'.out.lvl_nums k).1, (hO'.out.lvl_nums k).2] at this
  obtain ⟨A, hA⟩ : ∃ A, A = 2 ^ n - 1 := ⟨_, rfl⟩
  rw [← hA] at KA hKf' hKn'
  clear ho hO hKf hKn hA
  go_enter Tryd.func9, Tryd.ntmps9
  go_wp2
  have hL0 : Hid (LvI n Pf w 0 (.slice none 0 0) (w.alloc (.cells #[.int .u64 0] 54))) := ⟨(Below.refl _ w).alloc (Nat.le_refl _) _, Boxed.new w _ _, RV.nil _ _⟩
  go_loopw [3, 5] (fun pl _ wr => ∃ k oa cap, k ≤ K ∧ pl = .slice oa k cap ∧ Hid (LvI n Pf w k (.slice oa k cap) wr)) (fun pl _ _ => K - slLen pl)
  case atStart => exact ⟨0, _, 0, Nat.zero_le _, rfl, hL0⟩
  case round =>
    clear hL0
    obtain ⟨k, oa, cap, hk, rfl, hL⟩ := hrel
    have hLd := hide' (hL.out.below (Below.refl _ wr).drew)
    have hS0 := hide' hLd.out.bd.cell
    clear hL
    by_cases hkK : k = K
    · subst hkK
      rw [hKf'.out] at hS0
      have hLk : Hid (∀ V, LvI n Pf w k (.slice oa k cap) V → V.cell? ⟨w.heap.size, 0, none⟩ = some (.int .u64 (A : Int))) := fun V h => by have := h.bd.cell; rwa [hKf'.out] at this
      go_wp2
      go_region_held3 (fun V => V.cell? ⟨w.heap.size, 0, none⟩ = some (.int .u64 (A : Int))) (first | (exact hS0.out) | (exact hS1.out)) (first | (go_at_call 28; refine (KA.out _ hLd.out.old).mono ?_; rintro e w1 ⟨rfl, hb1⟩; have hL1 := hide' (hLd.out.below hb1); have hS1 := hide' (hLk.out _ hL1.out); clear hb1))
      go_wp2
      go_ret
      exact ⟨_, rfl, hL1.out.rows, hL1.out.old⟩
    · have hne : ¬ ((eK n Pf k : Nat) : Int) = (A : Int) := fun e => hKn'.out k (by omega) (Int.ofNat_inj.1 e)
      have hEl := hlt.out k
      have hRl := hrl.out k
      have KO := hide' (or64 (eK n Pf k) (rdW n Pf (eK n Pf k)) hEl hRl)
      have KR' : Hid (∀ W, Below w.heap.size w W → Calls Tryd.prog 20 #[.pointer (some ⟨go, 0, none⟩), .int .u64 ((eK n Pf k : Nat) : Int)] W fun e w' => e = .returned (.int .u64 (rdW n Pf (eK n Pf k) : Int)) ∧ Below W.heap.size W w') := fun W hW => KR.out W _ hW hEl
      have hpl' : Hid (∀ W, Below w.heap.size w W → Calls Tryd.prog 29 #[.agg #[.int .u64 (rdW n Pf (eK n Pf k) : Int)]] W fun e W' => ∃ v, e = .returned v ∧ W'.ownsRow W.heap.size 3 1 v (lvl n Pf k).length (cellsN (lvl n Pf k)) ∧ Below W.heap.size W W') := fun W hW => hpl.out W k hW
      have hbox : Hid (∀ W, LvI n Pf w k (.slice oa k cap) W → LvM w (eK n Pf k) (rdW n Pf (eK n Pf k)) W.heap.size (.slice oa k cap) (lvs n Pf k) (W.alloc (.cells #[.int .u64 (rdW n Pf (eK n Pf k) : Int)] 54))) := fun W h => h.box _
      have hnx : Hid (∀ ov W, Below w.heap.size w W → Boxed W w.heap.size 54 (.int .u64 ((eK n Pf k ||| rdW n Pf (eK n Pf k) : Nat) : Int)) → RV w.heap.size W ov (lvs n Pf k ++ [lvl n Pf k]) → LvI n Pf w (k + 1) ov W) := fun ov W h1 h2 h3 => ⟨h1, h2, by rw [lvs_snoc]; exact h3⟩
      have hbdE : Hid (∀ V, LvI n Pf w k (.slice oa k cap) V → Boxed V w.heap.size 54 (.int .u64 ((eK n Pf k : Nat) : Int))) := fun V h => h.bd
      generalize eK n Pf k = D at *
      generalize rdW n Pf D = x at *
      go_wp2
      go_region_held3 (fun V => V.cell? ⟨w.heap.size, 0, none⟩ = some (.int .u64 (D : Int))) (first | (exact hS0.out) | (exact hS1.out)) (first | (go_at_call 28; refine (KA.out _ hLd.out.old).mono ?_; rintro e w1 ⟨rfl, hb1⟩; have hL1 := hide' (hLd.out.below hb1); have hS1 := hide' (hbdE.out _ hL1.out).cell; clear hb1))
      have d1 := hS1.out
      go_wp2_with fail
      refine (word64 _ _).mono ?_
      rintro e w2 ⟨rfl, hb2⟩
      have hL2 := hide' (hL1.out.below hb2)
      go_wp2_with fail
      refine (KR'.out _ hL2.out.old).mono ?_
      rintro e w3 ⟨rfl, hb3⟩
      have hL3 := hide' (hL2.out.below hb3)
      go_wp2_with fail
      refine (ofO _ _).mono ?_
      rintro e w4 ⟨rfl, hb4⟩
      have M5 := hide' (hbox.out _ (hL3.out.below hb4))
      clear hL1 hL2 hL3 hb2 hb3 hb4 hS0 hS1 hLd hbox hbdE d1
      have c5 := M5.out.bx.cell
      go_wp2_with fail
      refine (hpl'.out _ M5.out.old).mono ?_
      rintro e w6 ⟨v, rfl, hrow6, hb6⟩
      have M6 := hide' (M5.out.below hb6)
      obtain ⟨ou, cu, rfl⟩ := own_formI hrow6
      have hrow6' := hide' (owns_lowV hrow6 M5.out.old.size)
      clear M5 c5 hrow6 hb6
      obtain ⟨vs, hv1, hv2⟩ := M6.out.rows
      have hv1' := hv1
      rw [lvs_len] at hv1'
      have hO1 : Hid (∀ o, (w6.alloc o).ownsRow w.heap.size 24 1 (.slice oa k cap) k vs) := fun o => hv1'.alloc o
      have hfin : Hid (∀ u w7, w7.ownsRow w.heap.size 24 1 u (k + 1) (vs ++ [.slice ou (lvl n Pf k).length cu]) → (w6.alloc (.cells #[.slice ou (lvl n Pf k).length cu] 24)).grownBy w7 (Value.slice oa k cap).ownBlock → ∃ oa2 cap2, u = .slice oa2 (k + 1) cap2 ∧ Hid (LvM w D x w4.heap.size (.slice oa2 (k + 1) cap2) (lvs n Pf k ++ [lvl n Pf k]) w7)) := fun u w7 h1 h2 => by
        have hP := M6.out.push hv1 hv2 hrow6'.out (by rw [lvs_len]; exact h1) h2
        obtain ⟨oa2, cap2, e⟩ := hP.rows.shape
        rw [List.length_append, lvs_len] at e
        subst e
        exact ⟨oa2, cap2, rfl, hP⟩
      have hsz := M6.out.old.size
      clear M6 hv1 hv2 hv1' hrow6'
      generalize (lvl n Pf k).length = N at *
      go_wp2_with (first | (at_builtin; refine wpList_append_own _ rfl _ _ 40 rfl w.heap.size 24 iL (.slice none 0 0) 1 24 Tryd.underlying40 hiL hzL0 hzL1 hzL2 rfl (by decide) (.slice oa k cap) k vs rfl (hO1.out _) ⟨w6.heap.size, 0, none⟩ 1 1 [.slice ou N cu] rfl rfl (cell_one_new _ _ _) (by simp [Value.oneCell']) (by unfold maxLen; omega) (by omega) (by simp; omega) ?_; intro u w7 hown7 hgrow7 hnil7; clear hnil7; obtain ⟨oa2, cap2, rfl, M7⟩ := hfin.out u w7 hown7 hgrow7; clear hown7 hgrow7; have c7 := M7.out.bd.cell; have c8 := M7.out.bx.cell) | fail)
      refine (KO.out _).mono ?_
      rintro e w9 ⟨rfl, hb9⟩
      have M9 := hide' (M7.out.below hb9)
      have c9 := M9.out.bd.cell
      have f9 := M9.out.bd.frozen
      have hLn := hide' (hnx.out _ _ (M9.out.set (D ||| x)).1 (M9.out.set (D ||| x)).2.1 (M9.out.set (D ||| x)).2.2)
      clear M7 c7 c8 hb9 M9
      go_wp2
      exact ⟨⟨k + 1, oa2, cap2, by omega, rfl, hLn⟩, by simp [slLen]; omega⟩
end
end Go.Proofs.YtbpojobmenagkaaDoor

/- OrderRows answers true. -/
import Derived.Test.YtbpojobmenagkaaDoorVLists
import Derived.Test.YtbpojobmenagkaaDoorOReadyLaw
import Derived.Test.YtbpojobmenagkaaDoorVRefV
namespace Go.Proofs.YtbpojobmenagkaaDoor
open Go.RowKit Go.Shelf
def prC (p : Nat → Int) (n : Nat) : List Value := (List.range n).map fun i => Value.int .i64 (p i)
theorem prC_at (p : Nat → Int) {n i : Nat} (hi : i < n) : (prC p n)[i]? = some (.int .i64 (p i)) := by simp [prC, hi]
theorem prC_inv (p : Nat → Int) {n i : Nat} {u : Value} (h : (prC p n)[i]? = some u) : i < n ∧ u = .int .i64 (p i) := by
  have hi := (List.getElem?_eq_some_iff.1 h).1
  simp only [prC, List.length_map, List.length_range] at hi
  rw [prC_at p hi] at h
  exact ⟨hi, (Option.some.inj h).symm⟩
theorem prio_of {W : World} {ob : Option Addr} {lb : Nat} (h : RowZ W ob lb) : ∃ p : Nat → Int, PrA W ob lb p := by
  have : ∀ i, ∃ z : Int, i < lb → ∃ g o, ob = some ⟨g, o, none⟩ ∧ W.cell? ⟨g, o + i, none⟩ = some (.int .i64 z) := fun i => by
    by_cases hi : i < lb
    · obtain ⟨g, o, z, e, hc, _⟩ := h i hi
      exact ⟨z, fun _ => ⟨g, o, e, hc⟩⟩
    · exact ⟨0, fun x => absurd x hi⟩
  obtain ⟨p, hp⟩ := Classical.axiomOfChoice this
  exact ⟨p, fun k hk => hp k hk⟩
theorem PrA.over {W W' : World} {ob : Option Addr} {n : Nat} {p : Nat → Int} (h : PrA W ob n p) (hb : Below W.heap.size W W') : PrA W' ob n p := fun k hk => by
  obtain ⟨g, o, e, hc⟩ := h k hk
  exact ⟨g, o, e, cell_over hc hb⟩
/-- The priorities copied to new memory. -/
theorem app_prio {ops : Array Oper} {rest : List Oper} {o : Oper} {a : Act} {Q : Exit → Act → World → Prop} (hgd : o.guard = none) (s x : Operand) (ho : o.op = .call { callee := .builtin .append, args := #[s, x], argTypes := #[24, 24] })
    (W : World) (ob : Option Addr) (lb cb : Nat) (p : Nat → Int) (es : a.eval s = .slice (some ⟨W.heap.size, 0, none⟩) 0 0) (ex : a.eval x = .slice ob lb cb) (hp : PrA W ob lb p) (hlb : lb * 8 ≤ 140737488351232) (hno : ob = none → lb = 0 ∧ cb = 0)
    (hK : ∀ oa1 cap1 w1, PrA w1 oa1 lb p → Below W.heap.size W w1 → wpList Tryd.prog ops Q rest (a.put o.dst (.slice oa1 lb cap1)) w1) : wpList Tryd.prog ops Q (o :: rest) a (W.alloc (.cells #[] 3)) := by
  obtain ⟨i0, hi, hz0, hz1, hz2⟩ := info_parts infoIV
  have hB0 : Below W.heap.size W (W.alloc (.cells #[] 3)) := (Below.refl _ W).alloc (Nat.le_refl _) _
  cases ob with
  | none =>
    obtain ⟨rfl, rfl⟩ := hno rfl
    refine wpList_append_own_none hgd s x 24 ho W.heap.size 3 i0 1 Tryd.underlying24 hi _ 0 (K.cellsI []) es (K.owns_zero W _ (Nat.le_refl _) _) ex ?_
    exact hK _ _ _ (fun k hk => by omega) hB0
  | some ad =>
    have hnews : ∀ j u, (prC p lb)[j]? = some u → (W.alloc (.cells #[] 3)).cell? (ad.add j) = some u := fun j u hu => by
      obtain ⟨hj, rfl⟩ := prC_inv p hu
      obtain ⟨g, o, e, hc⟩ := hp j hj
      cases e
      rw [Addr.add_lit]
      exact cell_over hc hB0
    refine wpList_append_own _ hgd s x 24 ho W.heap.size 3 i0 (.int .i64 0) 1 8 Tryd.underlying24 hi hz0 hz1 hz2 rfl (by decide) _ 0 (K.cellsI []) es (K.owns_zero W _ (Nat.le_refl _) _) ad lb cb (prC p lb) ex (by simp [prC]) hnews (fun u hu => by
      obtain ⟨j, hj⟩ := List.getElem?_of_mem hu
      obtain ⟨_, rfl⟩ := prC_inv p hj
      rfl) (by unfold maxLen; omega) (by omega) (by simp) ?_
    intro v1 w1 hown hgrow _
    have hown' : w1.ownsRow W.heap.size 3 1 v1 (0 + lb) (prC p lb) := hown
    rw [Nat.zero_add] at hown'
    have hB1 : Below W.heap.size W w1 := hB0.grown hgrow (by simp) (fun j ej => by cases ej; exact Nat.le_refl _)
    obtain ⟨oa1, cap1, rfl⟩ := own_formI hown'
    refine hK _ _ _ (fun k hk => ?_) hB1
    rcases hown'.2 with ⟨e, h0⟩ | ⟨g, cap, cur, e, _⟩
    · omega
    · cases e
      exact ⟨g, 0, rfl, by rw [Nat.zero_add, hown'.cellAt k (by omega)]; exact prC_at p hk⟩
set_option maxRecDepth 100000 in
set_option maxHeartbeats 2000000 in
theorem orderRows_walk (n : Int) (v : Value) (L : List (Int × Int)) (A B s : Int) (ob : Option Addr) (lb cb : Nat) (mo : Int) (w : World) (hv : PairsAt w v L) (hn : L.length * 16 ≤ 140737488351232) (ht : Tab w)
    (hr : RowZ w ob lb) (hlb : lb * 8 ≤ 140737488351232) (hno : ob = none → lb = 0 ∧ cb = 0) :
    Calls Tryd.prog 3 #[.agg #[.int .i64 n, v, .int .i64 A, .int .i64 B, .int .u64 s, .slice ob lb cb, .int .u64 mo]] w fun e w' => e = .returned (.bool true) ∧ Below w.heap.size w w' := by
  obtain ⟨oa, cap, hve, _⟩ := id hv
  subst hve
  obtain ⟨p, hp⟩ := prio_of hr
  have hB0 : Below w.heap.size w (w.alloc (.cells #[.int .i64 n, .slice oa L.length cap, .int .i64 A, .int .i64 B, .int .u64 s, .slice ob lb cb, .int .u64 mo] 26)) := (Below.refl _ w).alloc (Nat.le_refl _) _
  have c5 : (w.alloc (.cells #[.int .i64 n, .slice oa L.length cap, .int .i64 A, .int .i64 B, .int .u64 s, .slice ob lb cb, .int .u64 mo] 26)).cell? ⟨w.heap.size, 5, none⟩ = some (.slice ob lb cb) := by simp
  have KB := hide' (bothP n _ L A B s ob lb cb mo _ (hv.over hB0) hn (ht.over hB0))
  go_enter Tryd.func3, Tryd.ntmps3
  go_wp2_with fail
  refine KB.out.mono ?_
  rintro e w1 ⟨hb1, po, pr, rfl, hor⟩
  have B1 := hB0.trans (hb1.mono hB0.size)
  have d5 := cell_over c5 hb1
  clear c5 KB
  rcases hor with ⟨rfl, rfl⟩ | ⟨m, go, gp, gs, Pf, Sf, gr, ov, rr, w0, rfl, hok, rfl, rfl, ho, hO, hM⟩
  · go_wp2
    go_ret
    exact ⟨rfl, B1⟩
  · have hm := hO.n64
    obtain ⟨K0, hK, hKf, hKn⟩ := hO.levels_ex
    have hp1 := hide' (hp.over B1)
    have hcell : Hid (∀ W, Below w1.heap.size w1 W → W.cell? ⟨w.heap.size, 5, none⟩ = some (.slice ob lb cb) ∧ W.cell? ⟨gr, 0, none⟩ = some (.int .i64 (m : Int))) := fun W hW => ⟨cell_over d5 hW, (hM.over hW).c0⟩
    have KV : Hid (∀ W, Below w1.heap.size w1 W → Calls Tryd.prog 9 #[.pointer (some ⟨go, 0, none⟩)] W fun e w' => ∃ v, e = .returned v ∧ Hid (RV W.heap.size w' v (lvs m Pf K0)) ∧ Below W.heap.size W w') := fun W hW => levelsO (ho.over hW) hO (ht.over (B1.trans (hW.mono B1.size))) K0 hK hKf hKn
    have RV' : Hid (∀ W, Below w1.heap.size w1 W → Calls Tryd.prog 10 #[.pointer (some ⟨gr, 0, none⟩)] W fun e w' => ∃ v, e = .returned v ∧ Hid (RV W.heap.size w' v (lvs m Pf K0)) ∧ Below W.heap.size W w') := fun W hW => refLevels (hM.over hW) hO K0 hK hKf hKn
    have KB : Hid (∀ W oa1 cap1, Below w1.heap.size w1 W → lb ≠ m → Calls Tryd.prog 5 #[.pointer (some ⟨go, 0, none⟩), .slice oa1 lb cap1] W fun e w' => e = .returned (.tuple #[.slice none 0 0, .int .i64 1]) ∧ Below W.heap.size W w') := fun W oa1 cap1 hW hne => leastB (ho.over hW) oa1 lb cap1 hne
    have KG : Hid (∀ W oa1 cap1, Below w1.heap.size w1 W → lb = m → PrA W oa1 lb p → Calls Tryd.prog 5 #[.pointer (some ⟨go, 0, none⟩), .slice oa1 lb cap1] W fun e w' => ∃ oa cap, e = .returned (.tuple #[.slice oa m cap, .int .i64 0]) ∧ Hid (w'.ownsRow W.heap.size 3 1 (.slice oa m cap) m (cellsN (lK m (ordL m L) p m))) ∧ Below W.heap.size W w') := fun W oa1 cap1 hW he hP => by
      subst he
      exact leastG hO (ho.over hW) (ht.over (B1.trans (hW.mono B1.size))) oa1 cap1 hP
    have RG : Hid (∀ W, Below w1.heap.size w1 W → lb = m → Calls Tryd.prog 7 #[.pointer (some ⟨gr, 0, none⟩), .slice ob lb cb] W fun e w' => ∃ oa cap, e = .returned (.slice oa m cap) ∧ Hid (w'.ownsRow W.heap.size 3 1 (.slice oa m cap) m (cellsN (lK m (ordL m L) p m))) ∧ Below W.heap.size W w') := fun W hW he => by
      subst he
      exact refLeast (hM.over hW) hO ob cb (hp1.out.over hW)
    have hLl : Hid ((lvs m Pf K0).length ≤ 1000000 ∧ ∀ l ∈ lvs m Pf K0, l.length ≤ 1000000) := by
      refine ⟨by rw [lvs_len]; omega, fun l hl => ?_⟩
      obtain ⟨j, _, rfl⟩ := List.mem_map.1 hl
      unfold lvl
      refine Nat.le_trans (List.length_filter_le _ _) ?_
      simp
      omega
    have hLk : Hid ((lK m (ordL m L) p m).length ≤ 1000000) := by show _ ≤ _; rw [lK_len]; omega
    have hp1' := hp1.out
    clear ho hO hM hK hKf hKn hp hr hok
    generalize lvs m Pf K0 = LL at *
    generalize lK m (ordL m L) p m = LK at *
    have d5a : (w1.alloc (.cells #[] 3)).cell? ⟨w.heap.size, 5, none⟩ = some (.slice ob lb cb) := cell_over d5 ((Below.refl _ w1).alloc (Nat.le_refl _) _)
    go_wp2_with (at_builtin; refine app_prio rfl _ _ rfl w1 ob lb cb p rfl rfl hp1' hlb hno ?_; intro oa1 cap1 w2 hP2 hb2)
    have hP2' := hide' hP2
    clear hP2 d5a d5 hp1'
    have hT : Hid (∀ W e W', Below w1.heap.size w1 W → e = Ending.returned (.bool true) → Below W.heap.size W W' → e = .returned (.bool true) ∧ Below w.heap.size w W') := fun W e W' h1 h2 h3 => ⟨h2, B1.trans ((h1.trans (h3.mono h1.size)).mono B1.size)⟩
    by_cases hlm : lb = m
    · have hxx : ((lb : Int) != (m : Int)) = false := by simp; omega
      have KG1 := hide' (KG.out w2 oa1 cap1 hb2 hlm hP2'.out)
      go_wp2_with fail
      refine KG1.out.mono ?_
      rintro e w3 ⟨o3, c3, rfl, hr3, hb3⟩
      have hC3 := hb2.trans (hb3.mono hb2.size)
      have hr3' := hide' (K.rowI_own hr3.out)
      obtain ⟨q5, q0⟩ := hcell.out _ hC3.drew
      have hS0 := hide' (And.intro q5 q0)
      subst hlm
      go_wp2
      go_region_held3 (fun V => V.cell? ⟨w.heap.size, 5, none⟩ = some (.slice ob lb cb) ∧ V.cell? ⟨gr, 0, none⟩ = some (.int .i64 (lb : Int))) (first | (exact hS0.out)) (fail)
      have hC3d := hC3.drew
      have hr3d := hide' (K.RowI.below hr3'.out (Below.refl w3.heap.size w3).drew (Nat.le_refl _))
      have RG1 := hide' (RG.out w3.drew hC3d (by first | trivial | rfl))
      clear KG1 hr3 hr3'
      go_wp2_with fail
      refine RG1.out.mono ?_
      rintro e w4 ⟨o4, c4, rfl, hr4, hb4⟩
      have hC4 := hC3d.trans (hb4.mono hC3d.size)
      have KI := hide' (K.keepInts (K.ints LK) (K.ints LK) _ _ w4 (hr3d.out.below hb4 (Nat.le_refl _)) (K.rowI_own hr4.out) (by rw [K.ints_len]; exact hLk.out) (by rw [K.ints_len]; exact hLk.out))
      rw [decide_eq_true rfl] at KI
      go_wp2_with fail
      refine KI.out.mono ?_
      rintro e w5 ⟨rfl, hb5⟩
      have hC5 := hC4.trans (hb5.mono hC4.size)
      go_wp2_with fail
      refine (KV.out _ hC5).mono ?_
      rintro e w6 ⟨v6, rfl, hv6, hb6⟩
      have hC6 := hC5.trans (hb6.mono hC5.size)
      have hR6 := hide' (K.RR.of_own hv6.out)
      go_wp2_with fail
      refine (RV'.out _ hC6).mono ?_
      rintro e w7 ⟨v7, rfl, hv7, hb7⟩
      have hC7 := hC6.trans (hb7.mono hC6.size)
      have hR7 := hide' (K.RR.of_own hv7.out)
      have hR6' := hide' (hR6.out.below hb7 (Nat.le_refl _))
      have KT := hide' (K.listsT _ _ _ _ hR6'.out hR7.out hLl.out.1 hLl.out.2)
      clear hR6 hR7 hR6'
      go_wp2_with fail
      refine KT.out.mono ?_
      rintro e w8 ⟨rfl, hb8⟩
      go_wp2
      go_ret
      exact hT.out _ _ _ hC7 rfl hb8
    · have hxx : ((lb : Int) != (m : Int)) = true := by simp; omega
      have hxn : ¬ (lb : Int) = (m : Int) := by omega
      have KB1 := hide' (KB.out w2 oa1 cap1 hb2 hlm)
      go_wp2_with fail
      refine KB1.out.mono ?_
      rintro e w3 ⟨rfl, hb3⟩
      have hC3 := hb2.trans (hb3.mono hb2.size)
      obtain ⟨q5, q0⟩ := hcell.out _ hC3.drew
      have hS0 := hide' (And.intro q5 q0)
      go_wp2
      go_region_held3 (fun V => V.cell? ⟨w.heap.size, 5, none⟩ = some (.slice ob lb cb) ∧ V.cell? ⟨gr, 0, none⟩ = some (.int .i64 (m : Int))) (first | (exact hS0.out)) (fail)
      have hC3d := hC3.drew
      go_wp2_with fail
      refine (KV.out _ hC3d).mono ?_
      rintro e w6 ⟨v6, rfl, hv6, hb6⟩
      have hC6 := hC3d.trans (hb6.mono hC3d.size)
      have hR6 := hide' (K.RR.of_own hv6.out)
      go_wp2_with fail
      refine (RV'.out _ hC6).mono ?_
      rintro e w7 ⟨v7, rfl, hv7, hb7⟩
      have hC7 := hC6.trans (hb7.mono hC6.size)
      have hR7 := hide' (K.RR.of_own hv7.out)
      have hR6' := hide' (hR6.out.below hb7 (Nat.le_refl _))
      have KT := hide' (K.listsT _ _ _ _ hR6'.out hR7.out hLl.out.1 hLl.out.2)
      clear hR6 hR7 hR6'
      go_wp2_with fail
      refine KT.out.mono ?_
      rintro e w8 ⟨rfl, hb8⟩
      go_wp2
      go_ret
      exact hT.out _ _ _ hC7 rfl hb8
end Go.Proofs.YtbpojobmenagkaaDoor

/- hardy.Needed: the users without whom there is no plan. -/
import Derived.Test.YtmbdnhgmpmnhmaaGreatDoorJ11
import Derived.Test.YtmbdnhgmpmnhmaaGreatDoorJ22
import Derived.Test.YtmbdnhgmpmnhmaaGreatDoorJ24
import Derived.Test.YtmbdnhgmpmnhmaaGreatDoorJ26
import Derived.Lib.OwnKind
namespace Go.Proofs.YtmbdnhgmpmnhmaaGreatDoor.S
open Go.RowKit Go.Shelf
noncomputable def loP (P : Pb) (x : Nat) : Pb := if chkN P = 0 then lesP P x else ⟨0, [], [], []⟩
set_option maxRecDepth 100000 in
set_option maxHeartbeats 4000000 in
theorem loseF (P : Pb) (wv fv rv : Value) (x : Nat) (hx : x < 18446744073709551616) (w : World) (h : PbV w P wv fv rv) (hk : Pok P) :
    Calls Tryz.prog 7 #[pbV P wv fv rv, .int .u64 (x : Int)] w (WtP w (loP P x) (chkN P)) := by
  have hX0 := hide' (Fp.start h)
  have KC : Hid (∀ V, PbV V P wv fv rv → Calls Tryz.prog 19 #[pbV P wv fv rv] V fun e w' => e = .returned (.int .i64 (chkN P : Int)) ∧ Below V.heap.size V w') := fun V hV => checkPF P wv fv rv V hV hk.w hk.f hk.r hk.s hk.b
  have KL : Hid (∀ V, PbV V P wv fv rv → Calls Tryz.prog 20 #[pbV P wv fv rv, .agg #[.int .u64 (x : Int)]] V (RsP V (lesP P x))) := fun V hV => lessF P wv fv rv x hx V hV hk
  have KO : Hid (∀ V, Calls Tryz.prog 21 #[.int .u64 (x : Int)] V fun e w' => e = .returned (.agg #[.int .u64 (x : Int)]) ∧ Below V.heap.size V w') := fun V => ofH (x : Int) V
  obtain ⟨ow, cw, of, cf, or, cr, rfl, rfl, rfl⟩ := h.shape
  unfold pbV at KC KL ⊢
  unfold RsP at KL
  clear h hk
  go_enter Tryz.func7, Tryz.ntmps7
  have q0 := hX0.out.pb.c0
  have q1 := hX0.out.pb.c1
  have q2 := hX0.out.pb.c2
  have q3 := hX0.out.pb.c3
  go_wp2_with fail
  clear q0 q1 q2 q3
  generalize (w.alloc (.cells #[.int .i64 P.users, .slice ow P.who.length cw, .slice of P.fixed.length cf, .slice or P.rules.length cr] 26)).alloc (.cells #[.int .i64 0, .slice none 0 0, .slice none 0 0, .slice none 0 0] 26) = w1 at *
  refine (KC.out _ hX0.out.pv).mono ?_
  rintro e w2 ⟨rfl, hb2⟩
  have hX2 := hide' (hX0.out.over hb2)
  clear hX0 hb2 KC
  by_cases hC : chkN P = 0
  case neg =>
    as_aux_lemma =>
    have hP : Hid (loP P x = ⟨0, [], [], []⟩) := by show _ = _; unfold loP; rw [if_neg hC]
    have hne : ¬ ((chkN P : Nat) : Int) = 0 := by omega
    have hne2 : (((chkN P : Nat) : Int) != 0) = true := by rw [bne_iff_ne]; exact hne
    generalize chkN P = cc at *
    have f0 := hX2.out.z.frz 0
    have y0 := hX2.out.z.c0
    have f1 := (hX2.out.z.s0C 0).frz 1
    have y1 := (hX2.out.z.s0C 0).c1
    have f2 := ((hX2.out.z.s0C 0).s1 (.slice none 0 0)).frz 2
    have y2 := ((hX2.out.z.s0C 0).s1 (.slice none 0 0)).c2
    have f3 := (((hX2.out.z.s0C 0).s1 (.slice none 0 0)).s2 (.slice none 0 0)).frz 3
    have y3 := (((hX2.out.z.s0C 0).s1 (.slice none 0 0)).s2 (.slice none 0 0)).c3
    have x0 := ((((hX2.out.z.s0C 0).s1 (.slice none 0 0)).s2 (.slice none 0 0)).s3 (.slice none 0 0)).c0
    have x1 := ((((hX2.out.z.s0C 0).s1 (.slice none 0 0)).s2 (.slice none 0 0)).s3 (.slice none 0 0)).c1
    have x2 := ((((hX2.out.z.s0C 0).s1 (.slice none 0 0)).s2 (.slice none 0 0)).s3 (.slice none 0 0)).c2
    have x3 := ((((hX2.out.z.s0C 0).s1 (.slice none 0 0)).s2 (.slice none 0 0)).s3 (.slice none 0 0)).c3
    have hF := hide' (hX2.out.resC (.int .i64 0) (.slice none 0 0) (.slice none 0 0) (.slice none 0 0))
    clear hX2 KL KO
    go_wp2
    refine bodyPost_ret (v := .tuple #[.agg #[.int .i64 0, .slice none 0 0, .slice none 0 0, .slice none 0 0], .int .i64 (cc : Int)]) (by simp [results, Tryz.results7, go_sem, x0, x1, x2, x3]) rfl ?_
    unfold WtP
    rw [hP.out]
    exact ⟨_, _, _, _, _, _, _, _, _, rfl, nil_pvC _, hF.out, fun ad n c e => (by cases e), fun W2 _ => nil_pvC W2⟩
  have hne2 : (((chkN P : Nat) : Int) != 0) = false := by rw [hC]; rfl
  have hP : Hid (loP P x = lesP P x ∧ chkN P = 0) := by refine ⟨?_, hC⟩; unfold loP; rw [if_pos hC]
  clear hC
  generalize hcc : ((chkN P : Nat) : Int) = cc at *
  clear hcc
  obtain ⟨X, hXe⟩ : ∃ X, X = lesP P x := ⟨_, rfl⟩
  rw [← hXe] at KL
  have hXe' := hide' hXe
  clear hXe
  go_upto_region 4 with fail
  have hXd := hide' (hX2.out.over (Below.refl _ w2).drew)
  have hcl : Hid (∀ V, Fp w P (.slice ow P.who.length cw) (.slice of P.fixed.length cf) (.slice or P.rules.length cr) V (.slice none 0 0) (.slice none 0 0) [] [] → V.cell? ⟨w.heap.size, 0, none⟩ = some (.int .i64 P.users) ∧ V.cell? ⟨w.heap.size, 1, none⟩ = some (.slice ow P.who.length cw) ∧ V.cell? ⟨w.heap.size, 2, none⟩ = some (.slice of P.fixed.length cf) ∧ V.cell? ⟨w.heap.size, 3, none⟩ = some (.slice or P.rules.length cr)) := fun V hV => ⟨hV.pb.c0, hV.pb.c1, hV.pb.c2, hV.pb.c3⟩
  have hcs : Hid (∀ V, Fp w P (.slice ow P.who.length cw) (.slice of P.fixed.length cf) (.slice or P.rules.length cr) V (.slice none 0 0) (.slice none 0 0) [] [] → ∀ x0 x1 x2 x3 : Value, (((((V.setCell ⟨w.heap.size + 1, 0, none⟩ x0).setCell ⟨w.heap.size + 1, 1, none⟩ x1).setCell ⟨w.heap.size + 1, 2, none⟩ x2).setCell ⟨w.heap.size + 1, 3, none⟩ x3).cell? ⟨w.heap.size, 0, none⟩ = some (.int .i64 P.users) ∧ ((((V.setCell ⟨w.heap.size + 1, 0, none⟩ x0).setCell ⟨w.heap.size + 1, 1, none⟩ x1).setCell ⟨w.heap.size + 1, 2, none⟩ x2).setCell ⟨w.heap.size + 1, 3, none⟩ x3).cell? ⟨w.heap.size, 1, none⟩ = some (.slice ow P.who.length cw) ∧ ((((V.setCell ⟨w.heap.size + 1, 0, none⟩ x0).setCell ⟨w.heap.size + 1, 1, none⟩ x1).setCell ⟨w.heap.size + 1, 2, none⟩ x2).setCell ⟨w.heap.size + 1, 3, none⟩ x3).cell? ⟨w.heap.size, 2, none⟩ = some (.slice of P.fixed.length cf) ∧ ((((V.setCell ⟨w.heap.size + 1, 0, none⟩ x0).setCell ⟨w.heap.size + 1, 1, none⟩ x1).setCell ⟨w.heap.size + 1, 2, none⟩ x2).setCell ⟨w.heap.size + 1, 3, none⟩ x3).cell? ⟨w.heap.size, 3, none⟩ = some (.slice or P.rules.length cr))) := fun V hV x0 x1 x2 x3 => by
    have hb := Below.setCell (Below.setCell (Below.setCell (Below.setCell (Below.refl (w.heap.size + 1) V) (p := ⟨w.heap.size + 1, 0, none⟩) (Nat.le_refl _) x0) (p := ⟨w.heap.size + 1, 1, none⟩) (Nat.le_refl _) x1) (p := ⟨w.heap.size + 1, 2, none⟩) (Nat.le_refl _) x2) (p := ⟨w.heap.size + 1, 3, none⟩) (Nat.le_refl _) x3
    have hp : PbB ((((V.setCell ⟨w.heap.size + 1, 0, none⟩ x0).setCell ⟨w.heap.size + 1, 1, none⟩ x1).setCell ⟨w.heap.size + 1, 2, none⟩ x2).setCell ⟨w.heap.size + 1, 3, none⟩ x3) w.heap.size P _ _ _ := (hb.block _ (by omega)).trans hV.pb
    exact ⟨hp.c0, hp.c1, hp.c2, hp.c3⟩
  clear hX2
  go_region_held3 (fun V => V.cell? ⟨w.heap.size, 0, none⟩ = some (.int .i64 P.users) ∧ V.cell? ⟨w.heap.size, 1, none⟩ = some (.slice ow P.who.length cw) ∧ V.cell? ⟨w.heap.size, 2, none⟩ = some (.slice of P.fixed.length cf) ∧ V.cell? ⟨w.heap.size, 3, none⟩ = some (.slice or P.rules.length cr)) (first | (exact hcl.out _ hXd.out) | (exact hcl.out _ hX6.out) | (exact hcl.out _ hX7.out) | (exact hcz.out)) (first | (go_at_call 20; refine (KL.out _ hX6.out.pv).mono ?_; rintro e w7 ⟨o1, n1, c1, o2, n2, c2, o3, n3, c3, rfl, hV7, hb7, hn7, hk7⟩; have hX7 := hide' (hX6.out.over hb7.out); have f0 := hX7.out.z.frz 0; have y0 := hX7.out.z.c0; have f1 := (hX7.out.z.s0C X.users).frz 1; have y1 := (hX7.out.z.s0C X.users).c1; have f2 := ((hX7.out.z.s0C X.users).s1 (.slice o1 n1 c1)).frz 2; have y2 := ((hX7.out.z.s0C X.users).s1 (.slice o1 n1 c1)).c2; have f3 := (((hX7.out.z.s0C X.users).s1 (.slice o1 n1 c1)).s2 (.slice o2 n2 c2)).frz 3; have y3 := (((hX7.out.z.s0C X.users).s1 (.slice o1 n1 c1)).s2 (.slice o2 n2 c2)).c3; have hcz := hide' (hcs.out _ hX7.out (.int .i64 X.users) (.slice o1 n1 c1) (.slice o2 n2 c2) (.slice o3 n3 c3))) | (go_at_call 21; refine (KO.out _).mono ?_; rintro e w6 ⟨rfl, hb6⟩; have hX6 := hide' (hXd.out.over hb6)))
  all_goals
    have x0 := ((((hX7.out.z.s0C X.users).s1 (.slice o1 n1 c1)).s2 (.slice o2 n2 c2)).s3 (.slice o3 n3 c3)).c0
    have x1 := ((((hX7.out.z.s0C X.users).s1 (.slice o1 n1 c1)).s2 (.slice o2 n2 c2)).s3 (.slice o3 n3 c3)).c1
    have x2 := ((((hX7.out.z.s0C X.users).s1 (.slice o1 n1 c1)).s2 (.slice o2 n2 c2)).s3 (.slice o3 n3 c3)).c2
    have x3 := ((((hX7.out.z.s0C X.users).s1 (.slice o1 n1 c1)).s2 (.slice o2 n2 c2)).s3 (.slice o3 n3 c3)).c3
    have hF := hide' (hX7.out.resC (.int .i64 X.users) (.slice o1 n1 c1) (.slice o2 n2 c2) (.slice o3 n3 c3))
    have hz6 := hX6.out.sz
    have hG := hide' (hk7.out ((((w7.setCell ⟨w.heap.size + 1, 0, none⟩ (.int .i64 X.users)).setCell ⟨w.heap.size + 1, 1, none⟩ (.slice o1 n1 c1)).setCell ⟨w.heap.size + 1, 2, none⟩ (.slice o2 n2 c2)).setCell ⟨w.heap.size + 1, 3, none⟩ (.slice o3 n3 c3)) (fun k h1 _ => by rw [Below.heap_setCell _ _ _ _ (by show k ≠ w.heap.size + 1; omega), Below.heap_setCell _ _ _ _ (by show k ≠ w.heap.size + 1; omega), Below.heap_setCell _ _ _ _ (by show k ≠ w.heap.size + 1; omega), Below.heap_setCell _ _ _ _ (by show k ≠ w.heap.size + 1; omega)]))
    have hKK : Hid (∀ W2 : World, (∀ k, w.heap.size ≤ k → k < ((((w7.setCell ⟨w.heap.size + 1, 0, none⟩ (.int .i64 X.users)).setCell ⟨w.heap.size + 1, 1, none⟩ (.slice o1 n1 c1)).setCell ⟨w.heap.size + 1, 2, none⟩ (.slice o2 n2 c2)).setCell ⟨w.heap.size + 1, 3, none⟩ (.slice o3 n3 c3)).heap.size → W2.heap[k]? = ((((w7.setCell ⟨w.heap.size + 1, 0, none⟩ (.int .i64 X.users)).setCell ⟨w.heap.size + 1, 1, none⟩ (.slice o1 n1 c1)).setCell ⟨w.heap.size + 1, 2, none⟩ (.slice o2 n2 c2)).setCell ⟨w.heap.size + 1, 3, none⟩ (.slice o3 n3 c3)).heap[k]?) → PbV W2 X (.slice o1 n1 c1) (.slice o2 n2 c2) (.slice o3 n3 c3)) := fun W2 hW2 => hk7.out W2 fun k h1 h2 => by
      rw [hW2 k (by omega) (by simpa [World.setCell] using h2), Below.heap_setCell _ _ _ _ (by show k ≠ w.heap.size + 1; omega), Below.heap_setCell _ _ _ _ (by show k ≠ w.heap.size + 1; omega), Below.heap_setCell _ _ _ _ (by show k ≠ w.heap.size + 1; omega), Below.heap_setCell _ _ _ _ (by show k ≠ w.heap.size + 1; omega)]
    go_wp2
    refine bodyPost_ret (v := .tuple #[.agg #[.int .i64 X.users, .slice o1 n1 c1, .slice o2 n2 c2, .slice o3 n3 c3], .int .i64 0]) (by simp [results, Tryz.results7, go_sem, x0, x1, x2, x3]) rfl ?_
    unfold WtP
    rw [hP.out.1, hP.out.2, ← hXe'.out]
    exact ⟨_, _, _, _, _, _, _, _, _, rfl, hG, hF, (fun ad n c e => by have := hn7.out ad n c e; omega), hKK.out⟩
end Go.Proofs.YtmbdnhgmpmnhmaaGreatDoor.S
namespace Go.Proofs.YtmbdnhgmpmnhmaaGreatDoor.S
open Go.RowKit Go.Shelf
/-- All of a row of ints, onto nil. -/
theorem all_intsS {ops : Array Oper} {rest : List Oper} {o : Oper} {a : Act} {Q : Exit → Act → World → Prop} (hgd : o.guard = none) (s x : Operand) (W : World) (v : Value) (l : List Int) (ho : o.op = .call { callee := .builtin .append, args := #[s, x], argTypes := #[23, 23] })
    (es : a.eval s = .slice none 0 0) (ex : a.eval x = v) (hr : RowI W v l) (hn : l.length ≤ 1000)
    (hK : ∀ o2 n2 c2 w2, Hid (w2.ownsRow W.heap.size 3 1 (.slice o2 n2 c2) l.length (cellsI l)) → Hid (Below W.heap.size W w2) → wpList Tryz.prog ops Q rest (a.put o.dst (.slice o2 n2 c2)) w2) : wpList Tryz.prog ops Q (o :: rest) a W := by
  obtain ⟨i0, hi, hz0, hz1, hz2⟩ := info_parts info3
  obtain ⟨oa, cap, rfl, hcap, hc⟩ := hr
  cases oa with
  | none =>
    have h2 := hcap.2 rfl
    subst h2
    have : l = [] := List.eq_nil_of_length_eq_zero (by omega)
    subst this
    exact wpList_append_own_none hgd s x 23 ho W.heap.size 3 i0 1 Tryz.underlying23 hi _ 0 (cellsI []) es (World.ownsRow_nil _ _ _ _) ex (hK _ _ _ _ (World.ownsRow_nil _ _ _ _) (Below.refl _ _))
  | some ad =>
    refine wpList_append_own _ hgd s x 23 ho W.heap.size 3 i0 (.int .i64 0) 1 8 Tryz.underlying23 hi hz0 hz1 hz2 rfl (by decide) _ 0 (cellsI []) es (World.ownsRow_nil _ _ _ _) ad l.length cap (cellsI l) ex (by simp [cellsI]) (fun j u hu => ?_) (one_cells l) (by unfold maxLen; omega) (by omega) (Nat.le_refl _) ?_
    · obtain ⟨z, hz, rfl⟩ := cellsI_at hu
      obtain ⟨g', o'', e, hcz⟩ := hc j z hz
      cases e
      rw [Addr.add_lit]; exact hcz
    · intro v2 w2 hown hg _
      obtain ⟨o2, c2, rfl⟩ := own_shp hown
      refine hK _ _ _ _ ?_ ((Below.refl _ W).grown hg (Nat.le_refl _) (fun j e => by cases e))
      show World.ownsRow _ _ _ _ _ _ _
      have := hown
      rw [Nat.zero_add] at this
      simpa [cellsI] using this
end Go.Proofs.YtmbdnhgmpmnhmaaGreatDoor.S
namespace Go.Proofs.YtmbdnhgmpmnhmaaGreatDoor.S
open Go.RowKit Go.Shelf
def rooP (P : Pb) (t : Nat) : Int := if P.fixed.getD t 0 = -1 then ((M.nums (P.who.getD t 0)).length : Int) else 1
set_option maxRecDepth 100000 in
set_option maxHeartbeats 2000000 in
theorem roomF (P : Pb) (wv fv rv : Value) (t : Nat) (w : World) (h : PbV w P wv fv rv) (hk : Pok P) (h1 : t < P.who.length) (h2 : t < P.fixed.length) :
    Calls Tryz.prog 57 #[pbV P wv fv rv, .int .i64 (t : Int)] w fun e w' => e = .returned (.int .i64 (rooP P t)) ∧ Below w.heap.size w w' := by
  have hbw := hk.b
  obtain ⟨z, hz⟩ : ∃ z, P.who[t]? = some z := ⟨_, List.getElem?_eq_getElem h1⟩
  obtain ⟨y, hy⟩ : ∃ y, P.fixed[t]? = some y := ⟨_, List.getElem?_eq_getElem h2⟩
  have hz64 := hbw z (List.mem_of_getElem? hz)
  have hr : Hid (rooP P t = if y = -1 then ((M.nums z).length : Int) else 1) := by
    show _ = _
    unfold rooP
    simp [List.getD_eq_getElem?_getD, hz, hy]
  obtain ⟨oa1, ca1, rfl, _, hcw⟩ := h.who
  obtain ⟨oa2, ca2, rfl, _, hcf⟩ := h.fixed
  obtain ⟨g1, o1, rfl, d1⟩ := hcw t z hz
  obtain ⟨g2, o2, rfl, d2⟩ := hcf t y hy
  have hB : Hid (Below w.heap.size w (w.alloc (.cells #[.int .i64 P.users, .slice (some ⟨g1, o1, none⟩) P.who.length ca1, .slice (some ⟨g2, o2, none⟩) P.fixed.length ca2, rv] 26))) := (Below.refl _ _).alloc (Nat.le_refl _) _
  have e1 := M.cell_over d1 hB.out
  have e2 := M.cell_over d2 hB.out
  have hp : PbB (w.alloc (.cells #[.int .i64 P.users, .slice (some ⟨g1, o1, none⟩) P.who.length ca1, .slice (some ⟨g2, o2, none⟩) P.fixed.length ca2, rv] 26)) w.heap.size P (.slice (some ⟨g1, o1, none⟩) P.who.length ca1) (.slice (some ⟨g2, o2, none⟩) P.fixed.length ca2) rv := heap_new w _
  have p1 := hp.c1
  have p2 := hp.c2
  have KO : Hid (∀ V, Calls Tryz.prog 21 #[.int .u64 (z : Int)] V fun e w' => e = .returned (.agg #[.int .u64 (z : Int)]) ∧ Below V.heap.size V w') := fun V => ofH (z : Int) V
  have KL : Hid (∀ V, Calls Tryz.prog 45 #[.agg #[.int .u64 (z : Int)]] V fun e w' => e = .returned (.int .i64 ((M.nums z).length : Int)) ∧ Below V.heap.size V w') := fun V => M.len64 z hz64 V
  have t1 : (t : Int) < (P.who.length : Int) := by omega
  have t2 : (t : Int) < (P.fixed.length : Int) := by omega
  have t0 : ¬ (t : Int) < 0 := by omega
  generalize (M.nums z).length = q at *
  rw [hr.out]
  unfold pbV
  clear hr hz hy hcw hcf d1 d2 h hk hbw hp hz64 h1 h2
  by_cases hf : y = -1
  · subst hf
    rw [if_pos rfl]
    go_enter Tryz.func57, Tryz.ntmps57
    go_wp2_with (first | (go_at_call 21; refine (KO.out _).mono ?_; rintro e w3 ⟨rfl, hb3⟩) | (go_at_call 45; refine (KL.out _).mono ?_; rintro e w4 ⟨rfl, hb4⟩))
    go_ret
    exact ⟨rfl, hB.out.trans ((hb3.mono hB.out.size).trans (hb4.mono (Nat.le_trans hB.out.size hb3.size)))⟩
  · rw [if_neg hf]
    have hf' : (y == -1) = false := by simpa using hf
    go_enter Tryz.func57, Tryz.ntmps57
    go_wp2
    go_ret
    exact ⟨rfl, hB.out⟩
set_option maxRecDepth 100000 in
set_option maxHeartbeats 2000000 in
theorem tightC (P : Pb) (wv fv rv : Value) (g x y : Nat) (w : World) (hb : PbB w g P wv fv rv) (hg : g < w.heap.size) (h : PbV w P wv fv rv) (hk : Pok P) (hf : P.fixed.length = P.who.length) (hx : x < P.who.length) (hy : y < P.who.length) :
    Calls Tryz.prog 55 #[.int .i64 (x : Int), .int .i64 (y : Int), .pointer (some ⟨g, 0, none⟩)] w fun e w' => (∃ z : Int, e = .returned (.int .i64 z)) ∧ Below w.heap.size w w' := by
  have KX : Hid (∀ (V : World), Below w.heap.size w V → Calls Tryz.prog 57 #[.agg #[.int .i64 P.users, wv, fv, rv], .int .i64 (x : Int)] V fun e w' => e = .returned (.int .i64 (rooP P x)) ∧ Below V.heap.size V w') := fun V hV => roomF P wv fv rv x V (h.below hV) hk hx (by omega)
  have KY : Hid (∀ (V : World), Below w.heap.size w V → Calls Tryz.prog 57 #[.agg #[.int .i64 P.users, wv, fv, rv], .int .i64 (y : Int)] V fun e w' => e = .returned (.int .i64 (rooP P y)) ∧ Below V.heap.size V w') := fun V hV => roomF P wv fv rv y V (h.below hV) hk hy (by omega)
  have KC : Hid (∀ V, Calls Tryz.prog 56 #[.int .i64 (rooP P x), .int .i64 (rooP P y)] V fun e w' => e = .returned (.int .i64 (I.cmpI (rooP P x) (rooP P y))) ∧ w' = V) := fun V => I.cmpF _ _ V
  have hQ : Hid (∀ V, Below w.heap.size w V → V.cell? ⟨g, 0, none⟩ = some (.int .i64 P.users) ∧ V.cell? ⟨g, 1, none⟩ = some wv ∧ V.cell? ⟨g, 2, none⟩ = some fv ∧ V.cell? ⟨g, 3, none⟩ = some rv) := fun V hV => by
    have q : PbB V g P wv fv rv := (hV.block g hg).trans hb
    exact ⟨q.c0, q.c1, q.c2, q.c3⟩
  have hBd : Hid (Below w.heap.size w w.drew) := (Below.refl _ w).drew
  clear h hb hk hf
  generalize I.cmpI (rooP P x) (rooP P y) = q at *
  generalize rooP P x = rx at *
  generalize rooP P y = ry at *
  go_enter Tryz.func55, Tryz.ntmps55
  go_wp2
  refine wp_region_held_drew (S := (fun V => V.cell? ⟨g, 0, none⟩ = some (.int .i64 P.users) ∧ V.cell? ⟨g, 1, none⟩ = some wv ∧ V.cell? ⟨g, 2, none⟩ = some fv ∧ V.cell? ⟨g, 3, none⟩ = some rv)) (by kernel_rfl) ?_ (fun hHeld => ?_)
  · exact hQ.out _ hBd.out
  refine wpAnyH_take (i := 0) (oi := { dst := some 6, op := Op.load 26 (Operand.tmp 2), type := 26, pos := "order.go:18", after := #[], guard := none }) (v := ?_) rfl (by kernel_rfl) (by kernel_rfl) (by kernel_rfl) (fun _ _ _ h => h) (Or.inl ⟨by rfl, ?_⟩) (by assumption) ?_
  rotate_left
  · intro w hSw; (try dsimp only at hSw); go_simp <;> with_reducible rfl
  simp only [Act.put, List.setIfInBounds_toArray, List.set_cons_zero, List.set_cons_succ]
  refine wpAnyH_take (i := 1) (oi := { dst := some 7, op := Op.move (Operand.tmp 0), type := 3, pos := "order.go:18", after := #[], guard := none }) (v := ?_) rfl (by kernel_rfl) (by kernel_rfl) (by kernel_rfl) (fun _ _ _ h => h) (Or.inl ⟨by rfl, ?_⟩) (by assumption) ?_
  rotate_left
  · intro w hSw; (try dsimp only at hSw); go_simp <;> with_reducible rfl
  simp only [Act.put, List.setIfInBounds_toArray, List.set_cons_zero, List.set_cons_succ]
  refine wpAnyH_take (i := 3) (oi := { dst := some 9, op := Op.load 26 (Operand.tmp 2), type := 26, pos := "order.go:18", after := #[], guard := none }) (v := ?_) rfl (by kernel_rfl) (by kernel_rfl) (by kernel_rfl) (fun _ _ _ h => h) (Or.inl ⟨by rfl, ?_⟩) (by assumption) ?_
  rotate_left
  · intro w hSw; (try dsimp only at hSw); go_simp <;> with_reducible rfl
  simp only [Act.put, List.setIfInBounds_toArray, List.set_cons_zero, List.set_cons_succ]
  refine wpAnyH_take (i := 4) (oi := { dst := some 10, op := Op.move (Operand.tmp 1), type := 3, pos := "order.go:18", after := #[], guard := none }) (v := ?_) rfl (by kernel_rfl) (by kernel_rfl) (by kernel_rfl) (fun _ _ _ h => h) (Or.inl ⟨by rfl, ?_⟩) (by assumption) ?_
  rotate_left
  · intro w hSw; (try dsimp only at hSw); go_simp <;> with_reducible rfl
  simp only [Act.put, List.setIfInBounds_toArray, List.set_cons_zero, List.set_cons_succ]
  refine wpAnyH_ready (rs := [2]) (by kernel_rfl) (by simp) ?_
  refine AllReadyH.cons (o := { dst := some 8, op := Op.call { callee := Callee.value (Operand.func 57), args := #[Operand.tmp 6, Operand.tmp 7], argTypes := #[26, 3] }, type := 3, pos := "order.go:18", after := #[{ on := 0, ground := Ground.data }, { on := 1, ground := Ground.data }], guard := none }) rfl (fun K hK => ?_) AllReadyH.nil
  go_simp
  go_at_call 57; refine (KX.out _ hBd.out).mono ?_; rintro e w2 ⟨rfl, hb2⟩; have hB2 := hide' (hBd.out.trans (hb2.mono hBd.out.size)); (try dsimp only)
  refine hK.out _ _ ?_ (fun hHeld => ?_)
  · exact hQ.out _ hB2.out
  clear hK K
  try simp only [Act.put, List.setIfInBounds_toArray, List.set_cons_zero, List.set_cons_succ]
  refine wpAnyH_ready (rs := [5]) (by kernel_rfl) (by simp) ?_
  refine AllReadyH.cons (o := { dst := some 11, op := Op.call { callee := Callee.value (Operand.func 57), args := #[Operand.tmp 9, Operand.tmp 10], argTypes := #[26, 3] }, type := 3, pos := "order.go:18", after := #[{ on := 3, ground := Ground.data }, { on := 4, ground := Ground.data }, { on := 2, ground := Ground.chain }], guard := none }) rfl (fun K hK => ?_) AllReadyH.nil
  go_simp
  go_at_call 57; refine (KY.out _ hB2.out).mono ?_; rintro e w5 ⟨rfl, hb5⟩; have hB5 := hide' (hB2.out.trans (hb5.mono hB2.out.size)); (try dsimp only)
  refine hK.out _ _ ?_ (fun hHeld => ?_)
  · exact hQ.out _ hB5.out
  clear hK K
  try simp only [Act.put, List.setIfInBounds_toArray, List.set_cons_zero, List.set_cons_succ]
  refine wpAnyH_ready (rs := [6]) (by kernel_rfl) (by simp) ?_
  refine AllReadyH.cons (o := { dst := some 12, op := Op.call { callee := Callee.value (Operand.func 56), args := #[Operand.tmp 8, Operand.tmp 11], argTypes := #[3, 3] }, type := 3, pos := "order.go:18", after := #[{ on := 2, ground := Ground.data }, { on := 5, ground := Ground.data }, { on := 5, ground := Ground.chain }], guard := none }) rfl (fun K hK => ?_) AllReadyH.nil
  go_simp
  go_at_call 56; refine (KC.out _).mono ?_; rintro e w6 ⟨rfl, rfl⟩; (try dsimp only)
  refine hK.out _ _ ?_ (fun hHeld => ?_)
  · exact hQ.out _ hB5.out
  clear hK K
  try simp only [Act.put, List.setIfInBounds_toArray, List.set_cons_zero, List.set_cons_succ]
  refine wpAnyH_take (i := 7) (oi := { dst := some 5, op := Op.assign (Operand.tmp 12), type := 3, pos := "order.go:18", after := #[{ on := 6, ground := Ground.data }, { on := 6, ground := Ground.chain }, { on := 0, ground := Ground.phase }, { on := 1, ground := Ground.phase }, { on := 2, ground := Ground.phase }, { on := 3, ground := Ground.phase }, { on := 4, ground := Ground.phase }, { on := 5, ground := Ground.phase }, { on := 6, ground := Ground.phase }], guard := none }) (v := ?_) rfl (by kernel_rfl) (by kernel_rfl) (by kernel_rfl) (fun _ _ _ h => h) (Or.inl ⟨by rfl, ?_⟩) (by assumption) ?_
  rotate_left
  · intro w hSw; (try dsimp only at hSw); go_simp <;> with_reducible rfl
  simp only [Act.put, List.setIfInBounds_toArray, List.set_cons_zero, List.set_cons_succ]
  refine wpAnyH_done (by kernel_rfl) ?_ _
  skip
  go_wp2
  go_ret
  exact ⟨⟨_, rfl⟩, hB5.out⟩
end Go.Proofs.YtmbdnhgmpmnhmaaGreatDoor.S
namespace Go.Proofs.YtmbdnhgmpmnhmaaGreatDoor.S
open Go.RowKit Go.Shelf
structure Tq (w : World) (P : Pb) (wv fv rv : Value) (O : List Nat) (gq : Nat) (W : World) (u : Int) (a b c va vb vc : Value) (L1 : List Nat) (L2 : List Int) (E : List (Rl × Value)) : Prop where
  pb : PbB W w.heap.size P wv fv rv
  bl : RoN W (w.heap.size + 1 + 1) O
  z : QAt W (w.heap.size + 1) 0 (.slice none 0 0) (.slice none 0 0) (.slice none 0 0)
  qb : QAt W gq u a b c
  r1 : W.ownsRow (w.heap.size + 3) 27 1 va L1.length (cellsW L1)
  r2 : W.ownsRow (w.heap.size + 3) 3 1 vb L2.length (cellsI L2)
  r3 : TwS (w.heap.size + 3) W vc E
  ge : w.heap.size + 3 ≤ gq
  be : Below w.heap.size w W
section
variable {w : World} {P : Pb} {wv fv rv : Value} {O : List Nat} {gq : Nat} {W W' : World} {u : Int} {a b c a' b' c' va vb vc : Value} {L1 : List Nat} {L2 : List Int} {E : List (Rl × Value)}
theorem Tq.sz (h : Tq w P wv fv rv O gq W u a b c va vb vc L1 L2 E) : w.heap.size + 3 ≤ W.heap.size := by have := h.qb.lt; have := h.ge; omega
theorem Tq.over (h : Tq w P wv fv rv O gq W u a b c va vb vc L1 L2 E) (hb : Below W.heap.size W W') : Tq w P wv fv rv O gq W' u a b c va vb vc L1 L2 E :=
  ⟨h.pb.below hb, h.bl.over hb, h.z.of (hb.block _ h.z.lt), h.qb.of (hb.block _ h.qb.lt), own_below h.r1 hb (Nat.le_refl _), own_below h.r2 hb (Nat.le_refl _), h.r3.below hb (Nat.le_refl _), h.ge, h.be.trans (hb.mono h.be.size)⟩
/-- The box written. -/
theorem Tq.put (h : Tq w P wv fv rv O gq W u a b c va vb vc L1 L2 E) {o : Nat} {y : Value} (hq : QAt (W.setCell ⟨gq, o, none⟩ y) gq u a' b' c') : Tq w P wv fv rv O gq (W.setCell ⟨gq, o, none⟩ y) u a' b' c' va vb vc L1 L2 E := by
  have hge := h.ge
  have hb : Below gq W (W.setCell ⟨gq, o, none⟩ y) := (Below.refl _ W).setCell (p := ⟨gq, o, none⟩) (Nat.le_refl _) _
  have hs : ∀ {B e sz : Nat} {v : Value} {n : Nat} {xs : List Value}, W.ownsRow B e sz v n xs → e ≠ 26 → (W.setCell ⟨gq, o, none⟩ y).ownsRow B e sz v n xs := fun ho he => own_same ho fun g _ e => Below.heap_setCell _ _ _ _ (own_ne_q ho h.qb he e)
  exact ⟨(hb.block _ (by omega)).trans h.pb, h.bl.of (hb.block _ (by omega)) hb.size, h.z.of (hb.block _ (by omega)), hq, hs h.r1 (by decide), hs h.r2 (by decide), ⟨hs h.r3.row (by decide), fun p hp => hs (h.r3.inner p hp) (by decide)⟩, h.ge, h.be.trans (hb.mono (by omega))⟩
/-- A word more. -/
theorem Tq.wapp1 {o : Oper} {ac : Act} {Q : Exit → Act → World → Prop} {K : Act → World → Prop} (s y : Operand) (h : Tq w P wv fv rv O gq W u a b c va vb vc L1 L2 E) (z : Nat) (ho : o.op = .call { callee := .builtin .append, args := #[s, y], argTypes := #[22, 22] })
    (es : ac.eval s = va) (ex : ac.eval y = .slice (some ⟨W.heap.size, 0, none⟩) 1 1) (hn : L1.length ≤ 1000000)
    (hK : ∀ o5 n5 c5 w2, Tq w P wv fv rv O gq w2 u a b c (.slice o5 n5 c5) vb vc (L1 ++ [z]) L2 E → K (ac.put o.dst (.slice o5 n5 c5)) w2) : o.wp Tryz.prog ac (W.alloc (.cells #[.int .u64 (z : Int)] 27)) K Q := by
  obtain ⟨i0, hi, hz0, hz1, hz2⟩ := info_parts infoW
  have hs := h.sz
  have hA := h.over ((Below.refl _ W).alloc (Nat.le_refl _) (.cells #[.int .u64 (z : Int)] 27))
  refine wp_append_own _ s y 22 ho (w.heap.size + 3) 27 i0 (.int .u64 0) 1 8 Tryz.underlying22 hi hz0 hz1 hz2 rfl (by decide) va L1.length (cellsW L1) es hA.r1 ⟨W.heap.size, 0, none⟩ 1 1 [.int .u64 (z : Int)] ex rfl (World.news_of_block (cs := #[.int .u64 (z : Int)]) (heap_new _ _)) (by simp [Value.oneCell']) (by unfold maxLen; omega) (by omega) (by simp; omega) ?_
  intro v2 w2 hown hgrow _
  have hb : Below (w.heap.size + 3) W w2 := ((Below.refl _ W).alloc hs _).grown hgrow (by simp; omega) (fun j ej => own_ge' h.r1 ej)
  obtain ⟨o5, c5, rfl⟩ := own_shp hown
  have hqb : QAt w2 gq u a b c := hA.qb.of (hgrow.block gq hA.qb.lt fun e => own_ne_q hA.r1 hA.qb (by decide) e.symm rfl)
  refine hK _ _ _ _ ⟨(hb.block _ (by omega)).trans h.pb, h.bl.of (hb.block _ (by omega)) hb.size, h.z.of (hb.block _ (by omega)), hqb, ?_, kept_kind hA.r2 hA.r1 (by decide) hgrow, ⟨kept_kind hA.r3.row hA.r1 (by decide) hgrow, fun p hp => kept_kind (hA.r3.inner p hp) hA.r1 (by decide) hgrow⟩, h.ge, h.be.trans (hb.mono (by omega))⟩
  rw [List.length_append]
  have e : cellsW (L1 ++ [z]) = cellsW L1 ++ [.int .u64 (z : Int)] := by unfold cellsW; rw [List.map_append]; rfl
  rw [e]
  exact hown
/-- A user more. -/
theorem Tq.wapp2 {o : Oper} {ac : Act} {Q : Exit → Act → World → Prop} {K : Act → World → Prop} (s y : Operand) (h : Tq w P wv fv rv O gq W u a b c va vb (.slice none 0 0) L1 L2 []) (z : Int) (ho : o.op = .call { callee := .builtin .append, args := #[s, y], argTypes := #[23, 23] })
    (es : ac.eval s = vb) (ex : ac.eval y = .slice (some ⟨W.heap.size, 0, none⟩) 1 1) (hn : L2.length ≤ 1000000)
    (hK : ∀ o5 n5 c5 w2, Tq w P wv fv rv O gq w2 u a b c va (.slice o5 n5 c5) (.slice none 0 0) L1 (L2 ++ [z]) [] → K (ac.put o.dst (.slice o5 n5 c5)) w2) : o.wp Tryz.prog ac (W.alloc (.cells #[.int .i64 z] 3)) K Q := by
  obtain ⟨i0, hi, hz0, hz1, hz2⟩ := info_parts info3
  have hs := h.sz
  have hA := h.over ((Below.refl _ W).alloc (Nat.le_refl _) (.cells #[.int .i64 z] 3))
  refine wp_append_own _ s y 23 ho (w.heap.size + 3) 3 i0 (.int .i64 0) 1 8 Tryz.underlying23 hi hz0 hz1 hz2 rfl (by decide) vb L2.length (cellsI L2) es hA.r2 ⟨W.heap.size, 0, none⟩ 1 1 [.int .i64 z] ex rfl (World.news_of_block (cs := #[.int .i64 z]) (heap_new _ _)) (by simp [Value.oneCell']) (by unfold maxLen; omega) (by omega) (by simp; omega) ?_
  intro v2 w2 hown hgrow _
  have hb : Below (w.heap.size + 3) W w2 := ((Below.refl _ W).alloc hs _).grown hgrow (by simp; omega) (fun j ej => own_ge' h.r2 ej)
  obtain ⟨o5, c5, rfl⟩ := own_shp hown
  have hqb : QAt w2 gq u a b c := hA.qb.of (hgrow.block gq hA.qb.lt fun e => own_ne_q hA.r2 hA.qb (by decide) e.symm rfl)
  refine hK _ _ _ _ ⟨(hb.block _ (by omega)).trans h.pb, h.bl.of (hb.block _ (by omega)) hb.size, h.z.of (hb.block _ (by omega)), hqb, kept_kind hA.r1 hA.r2 (by decide) hgrow, ?_, TwS.nil _ _, h.ge, h.be.trans (hb.mono (by omega))⟩
  rw [List.length_append]
  have e : cellsI (L2 ++ [z]) = cellsI L2 ++ [.int .i64 z] := by unfold cellsI; rw [List.map_append]; rfl
  rw [e]
  exact hown
/-- A rule more. -/
theorem Tq.wapp3 {o : Oper} {ac : Act} {Q : Exit → Act → World → Prop} {K : Act → World → Prop} (s y : Operand) (h : Tq w P wv fv rv O gq W u a b c va vb vc L1 L2 E) (p : Rl × Value) (hp : W.ownsRow (w.heap.size + 3) 3 1 p.2 p.1.steps.length (cellsI p.1.steps)) (ho : o.op = .call { callee := .builtin .append, args := #[s, y], argTypes := #[24, 24] })
    (es : ac.eval s = vc) (ex : ac.eval y = .slice (some ⟨W.heap.size, 0, none⟩) 1 1) (hn : E.length ≤ 1000000)
    (hK : ∀ o5 n5 c5 w2, Tq w P wv fv rv O gq w2 u a b c va vb (.slice o5 n5 c5) L1 L2 (E ++ [p]) → K (ac.put o.dst (.slice o5 n5 c5)) w2) : o.wp Tryz.prog ac (W.alloc (.cells #[.int .i64 p.1.kind, .int .i64 p.1.k, p.2] 46)) K Q := by
  obtain ⟨i0, hi, hz0, hz1, hz2⟩ := info_parts infoR
  have hs := h.sz
  have hT1 : TwS (w.heap.size + 3) (W.alloc (.cells #[.int .i64 p.1.kind, .int .i64 p.1.k, p.2] 46)) vc E := ⟨h.r3.row.alloc _, fun q hq => (h.r3.inner q hq).alloc _⟩
  have hne : ∀ g, vc.ownBlock = some g → p.2.ownBlock ≠ some g := fun g e1 e2 => by
    obtain ⟨c1, f1, h1⟩ := Go.Lib.ownsRow_kind h.r3.row g e1
    obtain ⟨c2, f2, h2⟩ := Go.Lib.ownsRow_kind hp g e2
    rw [h1] at h2
    simp at h2
  refine wp_append_own _ s y 24 ho (w.heap.size + 3) 46 i0 (.agg #[.int .i64 0, .int .i64 0, .slice none 0 0]) 3 40 Tryz.underlying24 hi hz0 hz1 hz2 rfl (by decide) vc E.length (cellsR E) es hT1.row ⟨W.heap.size, 0, none⟩ 1 1 (rcells p) ex rfl (World.news_of_block (cs := #[.int .i64 p.1.kind, .int .i64 p.1.k, p.2]) (heap_new _ _)) (rcells_one p (own_one hp)) (by unfold maxLen; omega) (by omega) (by simp; omega) ?_
  intro v2 w2 hown hgrow _
  have hb : Below (w.heap.size + 3) W w2 := ((Below.refl _ W).alloc hs _).grown hgrow (by simp; omega) (fun j ej => own_ge' h.r3.row ej)
  have hTw := hT1.push p (hp.alloc _) hne hown hgrow
  obtain ⟨o5, c5, rfl⟩ := own_shp hown
  have hqb : QAt w2 gq u a b c := by
    have h1 : QAt (W.alloc (.cells #[.int .i64 p.1.kind, .int .i64 p.1.k, p.2] 46)) gq u a b c := h.qb.of (((Below.refl W.heap.size W).alloc (Nat.le_refl _) _).block _ h.qb.lt)
    exact h1.of (hgrow.block gq h1.lt fun e => own_ne_q hT1.row h1 (by decide) e.symm rfl)
  exact hK _ _ _ _ ⟨(hb.block _ (by omega)).trans h.pb, h.bl.of (hb.block _ (by omega)) hb.size, h.z.of (hb.block _ (by omega)), hqb, kept_kind (h.r1.alloc _) hT1.row (by decide) hgrow, kept_kind (h.r2.alloc _) hT1.row (by decide) hgrow, hTw, h.ge, h.be.trans (hb.mono (by omega))⟩
theorem Tq.fin (h : Tq w P wv fv rv O gq W u a b c va vb vc L1 L2 E) (x0 x1 x2 x3 : Value) :
    let W' := (((W.setCell ⟨w.heap.size + 1, 0, none⟩ x0).setCell ⟨w.heap.size + 1, 1, none⟩ x1).setCell ⟨w.heap.size + 1, 2, none⟩ x2).setCell ⟨w.heap.size + 1, 3, none⟩ x3
    PbV W' ⟨u, L1, L2, E.map Prod.fst⟩ va vb vc ∧ Below w.heap.size w W' ∧ (∀ ad n c, va = .slice (some ad) n c → w.heap.size ≤ ad.block) ∧ (∀ W2 : World, (∀ k, w.heap.size ≤ k → k < W'.heap.size → W2.heap[k]? = W'.heap[k]?) → PbV W2 ⟨u, L1, L2, E.map Prod.fst⟩ va vb vc) := by
  intro W'
  have hb : Below w.heap.size W W' := ((((Below.refl _ W).setCell (p := ⟨w.heap.size + 1, 0, none⟩) (by show w.heap.size ≤ w.heap.size + 1; omega) x0).setCell (p := ⟨w.heap.size + 1, 1, none⟩) (by show w.heap.size ≤ w.heap.size + 1; omega) x1).setCell (p := ⟨w.heap.size + 1, 2, none⟩) (by show w.heap.size ≤ w.heap.size + 1; omega) x2).setCell (p := ⟨w.heap.size + 1, 3, none⟩) (by show w.heap.size ≤ w.heap.size + 1; omega) x3
  have s4 : ∀ {B e sz : Nat} {v : Value} {n : Nat} {xs : List Value}, W.ownsRow B e sz v n xs → w.heap.size + 1 < B → W'.ownsRow B e sz v n xs := fun h hB => own_set (own_set (own_set (own_set h hB x0) hB x1) hB x2) hB x3
  refine ⟨⟨RowW.of_owns (s4 h.r1 (by omega)), RowI.of_owns (s4 h.r2 (by omega)), ?_⟩, h.be.trans hb, fun ad n c e => ?_, fun W2 hk => ?_⟩
  · have hT : TwS (w.heap.size + 3) W' vc E := ⟨s4 h.r3.row (by omega), fun p hp => s4 (h.r3.inner p hp) (by omega)⟩
    exact hT.rowR
  · have := own_ge' h.r1 (g := ad.block) (by rw [e]; rfl)
    omega
  · have s5 : ∀ {e sz : Nat} {v : Value} {n : Nat} {xs : List Value}, W.ownsRow (w.heap.size + 3) e sz v n xs → W2.ownsRow (w.heap.size + 3) e sz v n xs := fun h => own_same (s4 h (by omega)) fun g hg1 hg2 => hk g (by have := own_ge' h hg2; omega) hg1
    have hT : TwS (w.heap.size + 3) W2 vc E := ⟨s5 h.r3.row, fun p hp => s5 (h.r3.inner p hp)⟩
    exact ⟨RowW.of_owns (s5 h.r1), RowI.of_owns (s5 h.r2), hT.rowR⟩
end
end Go.Proofs.YtmbdnhgmpmnhmaaGreatDoor.S
namespace Go.Proofs.YtmbdnhgmpmnhmaaGreatDoor.S
open Go.RowKit Go.Shelf
theorem makeI12 (m : Nat) (hm : m ≤ 12) (W : World) : (Instr.makeSlice 23 (.int .i64 (m : Int)) (.int .i64 (m : Int))).run Tryz.prog W = .ok (.slice (some ⟨W.heap.size, 0, none⟩) m m) (W.alloc (.cells (madeCells #[.int .i64 0] m) 3)) := by
  obtain ⟨i, hi, hz, hs, hb⟩ := info_parts info3
  have hr := run_make (P := Tryz.prog) W 23 3 i _ Tryz.underlying23 hi hz .i64 .i64 m m (by omega) (Int.le_refl _) (by rw [hb]; omega) (by omega)
  simp only [Int.toNat_natCast, hs, Nat.mul_one] at hr
  exact hr
theorem RoN.made (W : World) (m : Nat) (hm : m ≤ 12) : RoN (W.alloc (.cells (madeCells #[.int .i64 0] m) 3)) W.heap.size (List.replicate m 0) := by
  have ho : (W.alloc (.cells (madeCells #[.int .i64 0] m) 3)).ownsRow 0 3 1 (.slice (some ⟨W.heap.size, 0, none⟩) m m) m (List.replicate m (.int .i64 0)) :=
    ⟨by simp, .inr ⟨W.heap.size, m, _, rfl, Nat.zero_le _, heap_new _ _, Nat.le_refl _, by unfold maxLen; omega, by rw [size_madeCells, Nat.mul_one], by rw [toList_madeCells_one, Nat.mul_one, List.take_of_length_le (by simp)]⟩⟩
  refine ⟨by rw [World.size_alloc]; omega, fun k x hk => ?_⟩
  have hkm : k < m := by have := (List.getElem?_eq_some_iff.1 hk).1; simpa using this
  have hx : x = 0 := by rw [List.getElem?_replicate, if_pos hkm] at hk; injection hk with hk; exact hk.symm
  subst hx
  refine ⟨?_, ho.frozenAt k⟩
  rw [ho.cellAt k (by omega), List.getElem?_replicate, if_pos hkm]
  rfl
theorem RoN.row {W : World} {g n : Nat} {L : List Nat} (h : RoN W g L) (hn : n = L.length) : RowI W (.slice (some ⟨g, 0, none⟩) n n) (ints L) := by
  subst hn
  refine ⟨some ⟨g, 0, none⟩, L.length, by rw [ints_len], ⟨by rw [ints_len]; exact Nat.le_refl _, fun e => by cases e⟩, fun i z hz => ⟨g, 0, rfl, ?_⟩⟩
  unfold ints at hz
  rw [List.getElem?_map] at hz
  cases hx : L[i]? with
  | none => rw [hx] at hz; cases hz
  | some x =>
    rw [hx] at hz
    injection hz with hz
    subst hz
    rw [Nat.zero_add]
    exact (h.2 i x hx).1
/-- What stands while the order is made. -/
structure Tp (w : World) (P : Pb) (wv fv rv : Value) (L : List Nat) (V : World) : Prop where
  pb : PbB V w.heap.size P wv fv rv
  z : QAt V (w.heap.size + 1) 0 (.slice none 0 0) (.slice none 0 0) (.slice none 0 0)
  bl : RoN V (w.heap.size + 1 + 1) L
  be : Below w.heap.size w V
section
variable {w : World} {P : Pb} {wv fv rv : Value} {L L' : List Nat} {V V' : World}
theorem Tp.sz (h : Tp w P wv fv rv L V) : w.heap.size + 3 ≤ V.heap.size := h.bl.1
theorem Tp.start (w : World) (P : Pb) (wv fv rv : Value) (m : Nat) (hm : m ≤ 12) : Tp w P wv fv rv (List.replicate m 0) (((w.alloc (.cells #[.int .i64 P.users, wv, fv, rv] 26)).alloc (.cells #[.int .i64 0, .slice none 0 0, .slice none 0 0, .slice none 0 0] 26)).alloc (.cells (madeCells #[.int .i64 0] m) 3)) := by
  have b1 : Below w.heap.size w (w.alloc (.cells #[.int .i64 P.users, wv, fv, rv] 26)) := (Below.refl _ w).alloc (Nat.le_refl _) _
  have n1 : PbB (w.alloc (.cells #[.int .i64 P.users, wv, fv, rv] 26)) w.heap.size P wv fv rv := heap_new w _
  have s1 := World.size_alloc w (.cells #[.int .i64 P.users, wv, fv, rv] 26)
  generalize w.alloc (.cells #[.int .i64 P.users, wv, fv, rv] 26) = w1 at *
  have b2 : Below w1.heap.size w1 (w1.alloc (.cells #[.int .i64 0, .slice none 0 0, .slice none 0 0, .slice none 0 0] 26)) := (Below.refl _ w1).alloc (Nat.le_refl _) _
  have n2 : QAt (w1.alloc (.cells #[.int .i64 0, .slice none 0 0, .slice none 0 0, .slice none 0 0] 26)) w1.heap.size 0 (.slice none 0 0) (.slice none 0 0) (.slice none 0 0) := QAt.block (heap_new w1 _)
  have s2 := World.size_alloc w1 (.cells #[.int .i64 0, .slice none 0 0, .slice none 0 0, .slice none 0 0] 26)
  generalize w1.alloc (.cells #[.int .i64 0, .slice none 0 0, .slice none 0 0, .slice none 0 0] 26) = w2 at *
  have b3 : Below w2.heap.size w2 (w2.alloc (.cells (madeCells #[.int .i64 0] m) 3)) := (Below.refl _ w2).alloc (Nat.le_refl _) _
  have n3 := RoN.made w2 m hm
  generalize w2.alloc (.cells (madeCells #[.int .i64 0] m) 3) = w3 at *
  rw [s2, s1] at n3
  rw [s1] at n2
  have b23 : Below w1.heap.size w1 w3 := b2.trans (b3.mono b2.size)
  exact ⟨n1.below b23, n2.of (b3.block _ n2.lt), n3, b1.trans (b23.mono b1.size)⟩
theorem Tp.over (h : Tp w P wv fv rv L V) (hb : Below V.heap.size V V') : Tp w P wv fv rv L V' := ⟨h.pb.below hb, h.z.of (hb.block _ h.z.lt), h.bl.over hb, h.be.trans (hb.mono h.be.size)⟩
theorem Tp.turn (h : Tp w P wv fv rv L V) (hr : RoN V' (w.heap.size + 1 + 1) L') (hf : M.Fr2 V V' (w.heap.size + 1 + 1) (w.heap.size + 1 + 1)) : Tp w P wv fv rv L' V' := by
  have hs := h.sz
  exact ⟨(hf.block _ (by omega) (by omega) (by omega)).trans h.pb, h.z.of (hf.block _ (by omega) (by omega) (by omega)), hr, hf.new h.be (by omega) (by omega) h.be.size⟩
theorem Tp.set (h : Tp w P wv fv rv L V) {j : Nat} (hj : j < L.length) (z : Nat) : Tp w P wv fv rv (L.set j z) (V.setCell ⟨w.heap.size + 1 + 1, j, none⟩ (.int .i64 (z : Int))) :=
  h.turn (h.bl.set hj z) (M.Fr2.setA V _ _ j _)
theorem Tp.close (h : Tp w P wv fv rv L V) (u : Int) : Tq w P wv fv rv L V.heap.size (V.alloc (.cells #[.int .i64 u, .slice none 0 0, .slice none 0 0, .slice none 0 0] 26)) u (.slice none 0 0) (.slice none 0 0) (.slice none 0 0) (.slice none 0 0) (.slice none 0 0) (.slice none 0 0) [] [] [] := by
  have k := h.over ((Below.refl _ V).alloc (Nat.le_refl _) (.cells #[.int .i64 u, .slice none 0 0, .slice none 0 0, .slice none 0 0] 26))
  exact ⟨k.pb, k.bl, k.z, QAt.block (heap_new V _), World.ownsRow_nil _ _ _ _, World.ownsRow_nil _ _ _ _, TwS.nil _ _, h.sz, k.be⟩
end
theorem ent_tight : ∀ args w, (callFunc 55 args).run Tryz.prog w = .ok (.enter 55 args) w := enters_of Tryz.func55 (by kernel_rfl) rfl
theorem sortTp (P : Pb) (wv fv rv : Value) (w : World) (h : PbV w P wv fv rv) (hk : Pok P) (hf : P.fixed.length = P.who.length) (hn : P.who.length ≤ 12) {L : List Nat} {V : World} (hT : Tp w P wv fv rv L V) (hL : L.length = P.who.length) (hall : ∀ x ∈ L, x < P.who.length) :
    Calls Tryz.prog 54 #[.slice (some ⟨w.heap.size + 1 + 1, 0, none⟩) P.who.length P.who.length, .func (.func 55) #[] #[.pointer (some ⟨w.heap.size, 0, none⟩)]] V (SpP V (w.heap.size + 1 + 1) L) := by
  have hs := hT.sz
  refine sortPm _ _ L _ ⟨_, _, _, rfl⟩ V hn (insPm _ _ _ _ V L hL hn hall hT.bl ent_tight fun V' x y hF hx hy => ?_)
  exact tightC P wv fv rv w.heap.size x y V' ((hF.block _ (by omega) (by omega) (by omega)).trans hT.pb) (by have := hF.size; omega) (h.below (hF.new hT.be (by omega) (by omega) hT.be.size)) hk hf hx hy
/-- What it answers: X, in rows of its own. -/
def TfP (w : World) (X : Pb) (e : Ending) (w' : World) : Prop :=
  ∃ o1 n1 c1 o2 n2 c2 o3 n3 c3, e = .returned (.agg #[.int .i64 X.users, .slice o1 n1 c1, .slice o2 n2 c2, .slice o3 n3 c3]) ∧ Hid (PbV w' X (.slice o1 n1 c1) (.slice o2 n2 c2) (.slice o3 n3 c3)) ∧ Hid (Below w.heap.size w w') ∧ Hid (∀ ad n c, Value.slice o1 n1 c1 = .slice (some ad) n c → ad.block < w'.heap.size)
set_option maxRecDepth 100000 in
set_option maxHeartbeats 8000000 in
theorem tightFF (P : Pb) (wv fv rv : Value) (w : World) (h : PbV w P wv fv rv) (hk : Pok P) (hf : P.fixed.length = P.who.length) (hn : P.who.length ≤ 12) :
    Calls Tryz.prog 42 #[pbV P wv fv rv] w fun e w' => ∃ O : List Nat, Hid (O.Perm (List.range P.who.length)) ∧ TfP w (reP P O) e w' := by
  have hst := hide' (Tp.start w P wv fv rv P.who.length hn)
  have h' := hide' h
  have hk' := hide' hk
  have KS : Hid (∀ L V, Tp w P wv fv rv L V → L.Perm (List.range P.who.length) → Calls Tryz.prog 54 #[.slice (some ⟨w.heap.size + 1 + 1, 0, none⟩) P.who.length P.who.length, .func (.func 55) #[] #[.pointer (some ⟨w.heap.size, 0, none⟩)]] V (SpP V (w.heap.size + 1 + 1) L)) := fun L V hT hL => sortTp P wv fv rv w h hk hf hn hT (by rw [hL.length_eq, List.length_range]) fun x hx => List.mem_range.1 (hL.mem_iff.1 hx)
  have hmk : ∀ W : World, (Instr.makeSlice 23 (.int .i64 (P.who.length : Int)) (.int .i64 (P.who.length : Int))).run Tryz.prog W = .ok (.slice (some ⟨W.heap.size, 0, none⟩) P.who.length P.who.length) (W.alloc (.cells (madeCells #[.int .i64 0] P.who.length) 3)) := fun W => makeI12 _ hn W
  obtain ⟨ow, cw, of, cf, or, cr, rfl, rfl, rfl⟩ := h.shape
  unfold pbV
  have hf' := hide' hf
  clear h hk hf
  go_enter Tryz.func42, Tryz.ntmps42
  go_upto_block 0 with fail
  clear hmk
  generalize ((w.alloc (.cells #[.int .i64 P.users, .slice ow P.who.length cw, .slice of P.fixed.length cf, .slice or P.rules.length cr] 26)).alloc (.cells #[.int .i64 0, .slice none 0 0, .slice none 0 0, .slice none 0 0] 26)).alloc (.cells (madeCells #[.int .i64 0] P.who.length) 3) = w3 at *
  go_cut [16, 4] from 17 to 24 (fun _ _ wx => Hid (Tp w P (.slice ow P.who.length cw) (.slice of P.fixed.length cf) (.slice or P.rules.length cr) (List.range P.who.length) wx))
  case first =>
    as_aux_lemma =>
    go_wp2
    go_loopw [16, 4] (fun kv _ wr => ∃ (j : Nat) (L : List Nat), j ≤ P.who.length ∧ kv = .int .i64 (j : Int) ∧ L.length = P.who.length ∧ Hid (∀ i, i < j → L[i]? = some i) ∧ Hid (Tp w P (.slice ow P.who.length cw) (.slice of P.fixed.length cf) (.slice or P.rules.length cr) L wr)) (fun kv _ _ => ((P.who.length : Int) - intOf kv).toNat)
    case atStart => exact ⟨0, _, Nat.zero_le _, rfl, by simp, fun i hi => absurd hi (Nat.not_lt_zero _), hst⟩
    case round =>
      clear hst KS
      obtain ⟨j, L, hj, rfl, hL, hLi, hT⟩ := hrel
      by_cases hlt : j < P.who.length
      · have hlt' : (j : Int) < (P.who.length : Int) := by omega
        obtain ⟨x, hx⟩ : ∃ x, L[j]? = some x := ⟨_, List.getElem?_eq_getElem (by omega)⟩
        obtain ⟨c0, f0⟩ := hT.out.bl.2 j x hx
        have hT2 := hide' (hT.out.set (j := j) (by omega) j)
        have hL2 : Hid (∀ i, i < j + 1 → (L.set j j)[i]? = some i) := fun i hi => by
          by_cases e : i = j
          · subst e; rw [List.getElem?_set_self (by omega)]
          · rw [List.getElem?_set_ne (by omega)]; exact hLi.out i (by omega)
        clear hT hLi hx
        go_wp2
        exact ⟨⟨j + 1, _, by omega, by go_num, by rw [List.length_set]; exact hL, hL2, hT2⟩, by simp [intOf]; omega⟩
      · obtain rfl : j = P.who.length := by omega
        have hLr : L = List.range P.who.length := by
          refine List.ext_getElem? fun i => ?_
          rcases Nat.lt_or_ge i P.who.length with q | q
          · rw [hLi.out i q, List.getElem?_range q]
          · rw [List.getElem?_eq_none (by omega), List.getElem?_eq_none (by simpa using q)]
        subst hLr
        go_wp2
        go_meet
        exact hT
  case rest =>
  clear hst
  have hT := hide' hcut.out
  have KS' := hide' (KS.out _ _ hT.out (List.Perm.refl _))
  clear hcut KS
  go_wp2_with fail
  refine KS'.out.mono ?_
  rintro e w5 ⟨rfl, O, hP, hO, hF⟩
  have hT5 := hide' (hT.out.turn hO.out hF.out)
  have c0 := hT5.out.pb.c0
  have hQ := hide' (hT5.out.close P.users)
  clear hT KS' hO hF
  go_upto_block 2 with fail
  have hwt : Hid (∀ t ∈ O, t < P.who.length ∧ t < P.fixed.length) := fun t ht => by
    have := List.mem_range.1 (hP.out.mem_iff.1 ht)
    have := hf'.out
    omega
  have hOl : O.length = P.who.length := by rw [hP.out.length_eq, List.length_range]
  clear hT5 c0
  obtain ⟨gq, hgq⟩ : ∃ gq, gq = w5.heap.size := ⟨_, rfl⟩
  rw [← hgq] at hQ ⊢
  clear hgq
  generalize w5.alloc (.cells #[.int .i64 P.users, .slice none 0 0, .slice none 0 0, .slice none 0 0] 26) = w6 at *
  go_cut [32, 7] from 33 to 57 (fun _ _ wx => ∃ (va vb : Value), Hid (Tq w P (.slice ow P.who.length cw) (.slice of P.fixed.length cf) (.slice or P.rules.length cr) O gq wx P.users va vb (.slice none 0 0) va vb (.slice none 0 0) (reW P O) (reF P O) []))
  case first =>
    as_aux_lemma =>
    go_wp2
    go_loopw [32, 7] (fun p _ wr => ∃ (j : Nat) (va vb : Value), j ≤ O.length ∧ p = .int .i64 (j : Int) ∧ Hid (Tq w P (.slice ow P.who.length cw) (.slice of P.fixed.length cf) (.slice or P.rules.length cr) O gq wr P.users va vb (.slice none 0 0) va vb (.slice none 0 0) (reW P (O.take j)) (reF P (O.take j)) [])) (fun p _ _ => ((O.length : Int) - intOf p).toNat)
    case atStart => exact ⟨0, _, _, Nat.zero_le _, rfl, hQ⟩
    case round =>
      clear hQ
      obtain ⟨j, va, vb, hj, rfl, hR⟩ := hrel
      by_cases hlt : j < O.length
      · as_aux_lemma =>
        have hlt' : (j : Int) < (P.who.length : Int) := by omega
        obtain ⟨t, ht⟩ : ∃ t, O[j]? = some t := ⟨_, List.getElem?_eq_getElem hlt⟩
        have htl := hwt.out t (List.mem_of_getElem? ht)
        have htw : (t : Int) < (P.who.length : Int) := by omega
        have htf : (t : Int) < (P.fixed.length : Int) := by omega
        obtain ⟨z, hz⟩ : ∃ z, P.who[t]? = some z := ⟨_, List.getElem?_eq_getElem htl.1⟩
        obtain ⟨y, hy⟩ : ∃ y, P.fixed[t]? = some y := ⟨_, List.getElem?_eq_getElem htl.2⟩
        obtain ⟨oa1, ca1, e1, _, hcw⟩ := h'.out.who
        obtain ⟨oa2, ca2, e2, _, hcf⟩ := h'.out.fixed
        cases e1
        cases e2
        obtain ⟨g1, o1, rfl, d1⟩ := hcw t z hz
        obtain ⟨g2, o2, rfl, d2⟩ := hcf t y hy
        have d3 := (hR.out.bl.2 j t ht).1
        have hlen : (reW P (O.take j)).length ≤ 1000000 ∧ (reF P (O.take j)).length ≤ 1000000 := by
          unfold reW reF
          rw [List.length_map, List.length_map, List.length_take]
          omega
        obtain ⟨oa, ca, rfl⟩ := own_shp hR.out.r1
        obtain ⟨ob, cb, rfl⟩ := own_shp hR.out.r2
        generalize hLa : reW P (O.take j) = La at *
        generalize hLb : reF P (O.take j) = Lb at *
        have hRd := hide' (hR.out.over (Below.refl _ wr).drew)
        clear hR hwt h'
        have c2 : Hid (∀ V, Below w.heap.size w V → V.cell? ⟨g2, o2 + t, none⟩ = some (.int .i64 y)) := fun V hV => M.cell_over d2 hV
        have c1' : Hid (∀ V, Below w.heap.size w V → V.cell? ⟨g1, o1 + t, none⟩ = some (.int .u64 (z : Int))) := fun V hV => M.cell_over d1 hV
        have hLa2 : Hid (La ++ [z] = reW P (O.take (j + 1))) := by
          show _ = _
          rw [← hLa]; unfold reW; rw [re_take _ ht]; simp [List.getD_eq_getElem?_getD, hz]
        have hLb2 : Hid (Lb ++ [y] = reF P (O.take (j + 1))) := by
          show _ = _
          rw [← hLb]; unfold reF; rw [re_take _ ht]; simp [List.getD_eq_getElem?_getD, hy]
        have ht0 : ¬ (t : Int) < 0 := by omega
        clear hLa hLb hz hy ht d1 d2 hcw hcf
        have hq1 := hRd.out.qb.c1
        have hq2 : ∀ o, (wr.alloc o).cell? ⟨gq, 1, none⟩ = some (.slice oa La.length ca) := fun o => (hRd.out.over ((Below.refl _ wr.drew).alloc (Nat.le_refl _) o)).qb.c1
        go_upto_region 12 with fail
        clear d3
        refine wp_region_held_drew (S := (fun V => V.cell? ⟨w.heap.size, 1, none⟩ = some (.slice (some ⟨g1, o1, none⟩) P.who.length cw) ∧ V.cell? ⟨g1, o1 + t, none⟩ = some (.int .u64 (z : Int)))) (by kernel_rfl) ?_ (fun hHeld => ?_)
        · exact ⟨hRd.out.pb.c1, c1'.out _ hRd.out.be⟩
        refine wpAnyH_take (i := 0) (oi := { dst := some 36, op := Op.fieldAddr 26 (Operand.tmp 5) 1, type := 0, pos := "order.go:21", after := #[], guard := none }) (v := ?_) rfl (by kernel_rfl) (by kernel_rfl) (by kernel_rfl) (fun _ _ _ h => h) (Or.inl ⟨by rfl, ?_⟩) (by assumption) ?_
        rotate_left
        · intro w hSw; (try dsimp only at hSw); go_simp <;> with_reducible rfl
        simp only [Act.put, List.setIfInBounds_toArray, List.set_cons_zero, List.set_cons_succ]
        refine wpAnyH_take (i := 2) (oi := { dst := some 38, op := Op.fieldAddr 26 (Operand.tmp 1) 1, type := 0, pos := "order.go:21", after := #[], guard := none }) (v := ?_) rfl (by kernel_rfl) (by kernel_rfl) (by kernel_rfl) (fun _ _ _ h => h) (Or.inl ⟨by rfl, ?_⟩) (by assumption) ?_
        rotate_left
        · intro w hSw; (try dsimp only at hSw); go_simp <;> with_reducible rfl
        simp only [Act.put, List.setIfInBounds_toArray, List.set_cons_zero, List.set_cons_succ]
        refine wpAnyH_take (i := 3) (oi := { dst := some 39, op := Op.load 22 (Operand.tmp 38), type := 22, pos := "order.go:21", after := #[{ on := 2, ground := Ground.data }], guard := none }) (v := ?_) rfl (by kernel_rfl) (by kernel_rfl) (by kernel_rfl) (fun _ _ _ h => h) (Or.inl ⟨by rfl, ?_⟩) (by assumption) ?_
        rotate_left
        · intro w hSw; (try dsimp only at hSw); go_simp <;> with_reducible rfl
        simp only [Act.put, List.setIfInBounds_toArray, List.set_cons_zero, List.set_cons_succ]
        refine wpAnyH_take (i := 4) (oi := { dst := some 40, op := Op.move (Operand.tmp 7), type := 3, pos := "order.go:21", after := #[], guard := none }) (v := ?_) rfl (by kernel_rfl) (by kernel_rfl) (by kernel_rfl) (fun _ _ _ h => h) (Or.inl ⟨by rfl, ?_⟩) (by assumption) ?_
        rotate_left
        · intro w hSw; (try dsimp only at hSw); go_simp <;> with_reducible rfl
        simp only [Act.put, List.setIfInBounds_toArray, List.set_cons_zero, List.set_cons_succ]
        refine wpAnyH_take (i := 5) (oi := { dst := some 41, op := Op.indexAddr 22 (Operand.tmp 39) (Operand.tmp 40), type := 0, pos := "order.go:21", after := #[{ on := 3, ground := Ground.data }, { on := 4, ground := Ground.data }], guard := none }) (v := ?_) rfl (by kernel_rfl) (by kernel_rfl) (by kernel_rfl) (fun _ _ _ h => h) (Or.inl ⟨by rfl, ?_⟩) (by assumption) ?_
        rotate_left
        · intro w hSw; (try dsimp only at hSw); go_simp <;> with_reducible rfl
        simp only [Act.put, List.setIfInBounds_toArray, List.set_cons_zero, List.set_cons_succ]
        refine wpAnyH_take (i := 6) (oi := { dst := some 42, op := Op.load 27 (Operand.tmp 41), type := 27, pos := "order.go:21", after := #[{ on := 5, ground := Ground.data }], guard := none }) (v := ?_) rfl (by kernel_rfl) (by kernel_rfl) (by kernel_rfl) (fun _ _ _ h => h) (Or.inl ⟨by rfl, ?_⟩) (by assumption) ?_
        rotate_left
        · intro w hSw; (try dsimp only at hSw); go_simp <;> with_reducible rfl
        simp only [Act.put, List.setIfInBounds_toArray, List.set_cons_zero, List.set_cons_succ]
        refine wpAnyH_ready (rs := [1, 7]) (by kernel_rfl) (by simp) ?_
        refine AllReadyH.cons (o := { dst := some 37, op := Op.load 22 (Operand.tmp 36), type := 22, pos := "order.go:21", after := #[{ on := 0, ground := Ground.data }], guard := none }) rfl (fun K hK => ?_) ?_
        · skip
          go_simp
          refine hK.out _ _ ?_ (fun hHeld => ?_)
          · exact ⟨hRd.out.pb.c1, c1'.out _ hRd.out.be⟩
          clear hK K
          try simp only [Act.put, List.setIfInBounds_toArray, List.set_cons_zero, List.set_cons_succ]
          refine wpAnyH_ready (rs := [7]) (by kernel_rfl) (by simp) ?_
          refine AllReadyH.cons (o := { dst := some 43, op := Op.buildSlice 22 1 #[(0, Operand.tmp 42)], type := 22, pos := "order.go:21", after := #[{ on := 6, ground := Ground.data }], guard := none }) rfl (fun K hK => ?_) AllReadyH.nil
          go_simp
          refine hK.out _ _ ?_ (fun hHeld => ?_)
          · exact ⟨(hRd.out.over ((Below.refl _ _).alloc (Nat.le_refl _) _)).pb.c1, c1'.out _ (hRd.out.over ((Below.refl _ _).alloc (Nat.le_refl _) _)).be⟩
          clear hK K
          try simp only [Act.put, List.setIfInBounds_toArray, List.set_cons_zero, List.set_cons_succ]
          refine wpAnyH_ready (rs := [8]) (by kernel_rfl) (by simp) ?_
          refine AllReadyH.cons (o := { dst := some 44, op := Op.call { callee := Callee.builtin Builtin.append, args := #[Operand.tmp 37, Operand.tmp 43], argTypes := #[22, 22] }, type := 22, pos := "order.go:21", after := #[{ on := 1, ground := Ground.data }, { on := 7, ground := Ground.data }], guard := none }) rfl (fun K hK => ?_) AllReadyH.nil
          rw [if_pos (by rfl)]
          refine Tq.wapp1 _ _ hRd.out z rfl rfl rfl (by omega) ?_; intro o5 n5 c5 w2 hRdx; have q2 := hRdx.qb.c1; have f2 := hRdx.qb.frz 1; (try dsimp only)
          refine hK.out _ _ ?_ (fun hHeld => ?_)
          · exact ⟨hRdx.pb.c1, c1'.out _ hRdx.be⟩
          clear hK K
          try simp only [Act.put, List.setIfInBounds_toArray, List.set_cons_zero, List.set_cons_succ]
          refine wpAnyH_take (i := 9) (oi := { dst := some 45, op := Op.fieldAddr 26 (Operand.tmp 5) 1, type := 0, pos := "order.go:21", after := #[{ on := 0, ground := Ground.phase }, { on := 1, ground := Ground.phase }, { on := 2, ground := Ground.phase }, { on := 3, ground := Ground.phase }, { on := 4, ground := Ground.phase }, { on := 5, ground := Ground.phase }, { on := 6, ground := Ground.phase }, { on := 7, ground := Ground.phase }, { on := 8, ground := Ground.phase }], guard := none }) (v := ?_) rfl (by kernel_rfl) (by kernel_rfl) (by kernel_rfl) (fun _ _ _ h => h) (Or.inl ⟨by rfl, ?_⟩) (by assumption) ?_
          rotate_left
          · intro w hSw; (try dsimp only at hSw); go_simp <;> with_reducible rfl
          simp only [Act.put, List.setIfInBounds_toArray, List.set_cons_zero, List.set_cons_succ]
          refine wpAnyH_ready (rs := [10]) (by kernel_rfl) (by simp) ?_
          refine AllReadyH.cons (o := { dst := none, op := Op.store 22 (Operand.tmp 45) (Operand.tmp 44), type := 0, pos := "order.go:21", after := #[{ on := 9, ground := Ground.data }, { on := 8, ground := Ground.data }, { on := 8, ground := Ground.chain }, { on := 0, ground := Ground.phase }, { on := 1, ground := Ground.phase }, { on := 2, ground := Ground.phase }, { on := 3, ground := Ground.phase }, { on := 4, ground := Ground.phase }, { on := 5, ground := Ground.phase }, { on := 6, ground := Ground.phase }, { on := 7, ground := Ground.phase }, { on := 8, ground := Ground.phase }], guard := none }) rfl (fun K hK => ?_) AllReadyH.nil
          go_simp
          refine hK.out _ _ ?_ (fun hHeld => ?_)
          · exact ⟨(hRdx.put (hRdx.qb.s1 (.slice o5 n5 c5))).pb.c1, c1'.out _ (hRdx.put (hRdx.qb.s1 (.slice o5 n5 c5))).be⟩
          clear hK K
          try simp only [Act.put, List.setIfInBounds_toArray, List.set_cons_zero, List.set_cons_succ]
          refine wpAnyH_done (by kernel_rfl) ?_ _
          skip
          have hR3d := hide' ((hRdx.put (hRdx.qb.s1 (.slice o5 n5 c5))).over (Below.refl _ _).drew)
          clear hRdx hRd q2 f2 hq1 hq2
          generalize w2.setCell ⟨gq, 1, none⟩ (.slice o5 n5 c5) = w3 at *
          have hq1 := hR3d.out.qb.c2
          have hq2 : ∀ o, (w3.alloc o).cell? ⟨gq, 2, none⟩ = some (.slice ob Lb.length cb) := fun o => (hR3d.out.over ((Below.refl _ w3.drew).alloc (Nat.le_refl _) o)).qb.c2
          go_upto_region 13 with fail
          refine wp_region_held_drew (S := (fun V => V.cell? ⟨w.heap.size, 2, none⟩ = some (.slice (some ⟨g2, o2, none⟩) P.fixed.length cf) ∧ V.cell? ⟨g2, o2 + t, none⟩ = some (.int .i64 y))) (by kernel_rfl) ?_ (fun hHeld => ?_)
          · exact ⟨hR3d.out.pb.c2, c2.out _ hR3d.out.be⟩
          refine wpAnyH_take (i := 0) (oi := { dst := some 46, op := Op.fieldAddr 26 (Operand.tmp 5) 2, type := 0, pos := "order.go:22", after := #[], guard := none }) (v := ?_) rfl (by kernel_rfl) (by kernel_rfl) (by kernel_rfl) (fun _ _ _ h => h) (Or.inl ⟨by rfl, ?_⟩) (by assumption) ?_
          rotate_left
          · intro w hSw; (try dsimp only at hSw); go_simp <;> with_reducible rfl
          simp only [Act.put, List.setIfInBounds_toArray, List.set_cons_zero, List.set_cons_succ]
          refine wpAnyH_take (i := 2) (oi := { dst := some 48, op := Op.fieldAddr 26 (Operand.tmp 1) 2, type := 0, pos := "order.go:22", after := #[], guard := none }) (v := ?_) rfl (by kernel_rfl) (by kernel_rfl) (by kernel_rfl) (fun _ _ _ h => h) (Or.inl ⟨by rfl, ?_⟩) (by assumption) ?_
          rotate_left
          · intro w hSw; (try dsimp only at hSw); go_simp <;> with_reducible rfl
          simp only [Act.put, List.setIfInBounds_toArray, List.set_cons_zero, List.set_cons_succ]
          refine wpAnyH_take (i := 3) (oi := { dst := some 49, op := Op.load 23 (Operand.tmp 48), type := 23, pos := "order.go:22", after := #[{ on := 2, ground := Ground.data }], guard := none }) (v := ?_) rfl (by kernel_rfl) (by kernel_rfl) (by kernel_rfl) (fun _ _ _ h => h) (Or.inl ⟨by rfl, ?_⟩) (by assumption) ?_
          rotate_left
          · intro w hSw; (try dsimp only at hSw); go_simp <;> with_reducible rfl
          simp only [Act.put, List.setIfInBounds_toArray, List.set_cons_zero, List.set_cons_succ]
          refine wpAnyH_take (i := 4) (oi := { dst := some 50, op := Op.move (Operand.tmp 7), type := 3, pos := "order.go:22", after := #[], guard := none }) (v := ?_) rfl (by kernel_rfl) (by kernel_rfl) (by kernel_rfl) (fun _ _ _ h => h) (Or.inl ⟨by rfl, ?_⟩) (by assumption) ?_
          rotate_left
          · intro w hSw; (try dsimp only at hSw); go_simp <;> with_reducible rfl
          simp only [Act.put, List.setIfInBounds_toArray, List.set_cons_zero, List.set_cons_succ]
          refine wpAnyH_take (i := 5) (oi := { dst := some 51, op := Op.indexAddr 23 (Operand.tmp 49) (Operand.tmp 50), type := 0, pos := "order.go:22", after := #[{ on := 3, ground := Ground.data }, { on := 4, ground := Ground.data }], guard := none }) (v := ?_) rfl (by kernel_rfl) (by kernel_rfl) (by kernel_rfl) (fun _ _ _ h => h) (Or.inl ⟨by rfl, ?_⟩) (by assumption) ?_
          rotate_left
          · intro w hSw; (try dsimp only at hSw); go_simp <;> with_reducible rfl
          simp only [Act.put, List.setIfInBounds_toArray, List.set_cons_zero, List.set_cons_succ]
          refine wpAnyH_take (i := 6) (oi := { dst := some 52, op := Op.load 3 (Operand.tmp 51), type := 3, pos := "order.go:22", after := #[{ on := 5, ground := Ground.data }], guard := none }) (v := ?_) rfl (by kernel_rfl) (by kernel_rfl) (by kernel_rfl) (fun _ _ _ h => h) (Or.inl ⟨by rfl, ?_⟩) (by assumption) ?_
          rotate_left
          · intro w hSw; (try dsimp only at hSw); go_simp <;> with_reducible rfl
          simp only [Act.put, List.setIfInBounds_toArray, List.set_cons_zero, List.set_cons_succ]
          refine wpAnyH_ready (rs := [1, 7]) (by kernel_rfl) (by simp) ?_
          refine AllReadyH.cons (o := { dst := some 47, op := Op.load 23 (Operand.tmp 46), type := 23, pos := "order.go:22", after := #[{ on := 0, ground := Ground.data }], guard := none }) rfl (fun K hK => ?_) ?_
          · skip
            go_simp
            refine hK.out _ _ ?_ (fun hHeld => ?_)
            · exact ⟨hR3d.out.pb.c2, c2.out _ hR3d.out.be⟩
            clear hK K
            try simp only [Act.put, List.setIfInBounds_toArray, List.set_cons_zero, List.set_cons_succ]
            refine wpAnyH_ready (rs := [7]) (by kernel_rfl) (by simp) ?_
            refine AllReadyH.cons (o := { dst := some 53, op := Op.buildSlice 23 1 #[(0, Operand.tmp 52)], type := 23, pos := "order.go:22", after := #[{ on := 6, ground := Ground.data }], guard := none }) rfl (fun K hK => ?_) AllReadyH.nil
            go_simp
            refine hK.out _ _ ?_ (fun hHeld => ?_)
            · exact ⟨(hR3d.out.over ((Below.refl _ _).alloc (Nat.le_refl _) _)).pb.c2, c2.out _ (hR3d.out.over ((Below.refl _ _).alloc (Nat.le_refl _) _)).be⟩
            clear hK K
            try simp only [Act.put, List.setIfInBounds_toArray, List.set_cons_zero, List.set_cons_succ]
            refine wpAnyH_ready (rs := [8]) (by kernel_rfl) (by simp) ?_
            refine AllReadyH.cons (o := { dst := some 54, op := Op.call { callee := Callee.builtin Builtin.append, args := #[Operand.tmp 47, Operand.tmp 53], argTypes := #[23, 23] }, type := 23, pos := "order.go:22", after := #[{ on := 1, ground := Ground.data }, { on := 7, ground := Ground.data }], guard := none }) rfl (fun K hK => ?_) AllReadyH.nil
            rw [if_pos (by rfl)]
            refine Tq.wapp2 _ _ hR3d.out y rfl rfl rfl (by omega) ?_; intro o6 n6 c6 w4 hR3dx; have q2 := hR3dx.qb.c2; have f2 := hR3dx.qb.frz 2; (try dsimp only)
            refine hK.out _ _ ?_ (fun hHeld => ?_)
            · exact ⟨hR3dx.pb.c2, c2.out _ hR3dx.be⟩
            clear hK K
            try simp only [Act.put, List.setIfInBounds_toArray, List.set_cons_zero, List.set_cons_succ]
            refine wpAnyH_take (i := 9) (oi := { dst := some 55, op := Op.fieldAddr 26 (Operand.tmp 5) 2, type := 0, pos := "order.go:22", after := #[{ on := 0, ground := Ground.phase }, { on := 1, ground := Ground.phase }, { on := 2, ground := Ground.phase }, { on := 3, ground := Ground.phase }, { on := 4, ground := Ground.phase }, { on := 5, ground := Ground.phase }, { on := 6, ground := Ground.phase }, { on := 7, ground := Ground.phase }, { on := 8, ground := Ground.phase }], guard := none }) (v := ?_) rfl (by kernel_rfl) (by kernel_rfl) (by kernel_rfl) (fun _ _ _ h => h) (Or.inl ⟨by rfl, ?_⟩) (by assumption) ?_
            rotate_left
            · intro w hSw; (try dsimp only at hSw); go_simp <;> with_reducible rfl
            simp only [Act.put, List.setIfInBounds_toArray, List.set_cons_zero, List.set_cons_succ]
            refine wpAnyH_ready (rs := [10]) (by kernel_rfl) (by simp) ?_
            refine AllReadyH.cons (o := { dst := none, op := Op.store 23 (Operand.tmp 55) (Operand.tmp 54), type := 0, pos := "order.go:22", after := #[{ on := 9, ground := Ground.data }, { on := 8, ground := Ground.data }, { on := 8, ground := Ground.chain }, { on := 0, ground := Ground.phase }, { on := 1, ground := Ground.phase }, { on := 2, ground := Ground.phase }, { on := 3, ground := Ground.phase }, { on := 4, ground := Ground.phase }, { on := 5, ground := Ground.phase }, { on := 6, ground := Ground.phase }, { on := 7, ground := Ground.phase }, { on := 8, ground := Ground.phase }], guard := none }) rfl (fun K hK => ?_) AllReadyH.nil
            go_simp
            refine hK.out _ _ ?_ (fun hHeld => ?_)
            · exact ⟨(hR3dx.put (hR3dx.qb.s2 (.slice o6 n6 c6))).pb.c2, c2.out _ (hR3dx.put (hR3dx.qb.s2 (.slice o6 n6 c6))).be⟩
            clear hK K
            try simp only [Act.put, List.setIfInBounds_toArray, List.set_cons_zero, List.set_cons_succ]
            refine wpAnyH_done (by kernel_rfl) ?_ _
            skip
            have hR9 : Hid (Tq w P (.slice (some ⟨g1, o1, none⟩) P.who.length cw) (.slice (some ⟨g2, o2, none⟩) P.fixed.length cf) (.slice or P.rules.length cr) O gq (w4.setCell ⟨gq, 2, none⟩ (.slice o6 n6 c6)) P.users (.slice o5 n5 c5) (.slice o6 n6 c6) (.slice none 0 0) (.slice o5 n5 c5) (.slice o6 n6 c6) (.slice none 0 0) (reW P (O.take (j + 1))) (reF P (O.take (j + 1))) []) := by
              have h9 := hR3dx.put (hR3dx.qb.s2 (.slice o6 n6 c6))
              rw [hLa2.out, hLb2.out] at h9
              exact h9
            clear hR3dx hR3d hLa2 hLb2
            go_wp2
            exact ⟨⟨j + 1, _, _, by omega, by go_num, hR9⟩, by simp [intOf]; omega⟩
          refine AllReadyH.cons (o := { dst := some 53, op := Op.buildSlice 23 1 #[(0, Operand.tmp 52)], type := 23, pos := "order.go:22", after := #[{ on := 6, ground := Ground.data }], guard := none }) rfl (fun K hK => ?_) AllReadyH.nil
          go_simp
          refine hK.out _ _ ?_ (fun hHeld => ?_)
          · exact ⟨(hR3d.out.over ((Below.refl _ _).alloc (Nat.le_refl _) _)).pb.c2, c2.out _ (hR3d.out.over ((Below.refl _ _).alloc (Nat.le_refl _) _)).be⟩
          clear hK K
          try simp only [Act.put, List.setIfInBounds_toArray, List.set_cons_zero, List.set_cons_succ]
          refine wpAnyH_ready (rs := [1]) (by kernel_rfl) (by simp) ?_
          refine AllReadyH.cons (o := { dst := some 47, op := Op.load 23 (Operand.tmp 46), type := 23, pos := "order.go:22", after := #[{ on := 0, ground := Ground.data }], guard := none }) rfl (fun K hK => ?_) AllReadyH.nil
          go_simp
          refine hK.out _ _ ?_ (fun hHeld => ?_)
          · exact ⟨(hR3d.out.over ((Below.refl _ _).alloc (Nat.le_refl _) _)).pb.c2, c2.out _ (hR3d.out.over ((Below.refl _ _).alloc (Nat.le_refl _) _)).be⟩
          clear hK K
          try simp only [Act.put, List.setIfInBounds_toArray, List.set_cons_zero, List.set_cons_succ]
          refine wpAnyH_ready (rs := [8]) (by kernel_rfl) (by simp) ?_
          refine AllReadyH.cons (o := { dst := some 54, op := Op.call { callee := Callee.builtin Builtin.append, args := #[Operand.tmp 47, Operand.tmp 53], argTypes := #[23, 23] }, type := 23, pos := "order.go:22", after := #[{ on := 1, ground := Ground.data }, { on := 7, ground := Ground.data }], guard := none }) rfl (fun K hK => ?_) AllReadyH.nil
          rw [if_pos (by rfl)]
          refine Tq.wapp2 _ _ hR3d.out y rfl rfl rfl (by omega) ?_; intro o6 n6 c6 w4 hR3dx; have q2 := hR3dx.qb.c2; have f2 := hR3dx.qb.frz 2; (try dsimp only)
          refine hK.out _ _ ?_ (fun hHeld => ?_)
          · exact ⟨hR3dx.pb.c2, c2.out _ hR3dx.be⟩
          clear hK K
          try simp only [Act.put, List.setIfInBounds_toArray, List.set_cons_zero, List.set_cons_succ]
          refine wpAnyH_take (i := 9) (oi := { dst := some 55, op := Op.fieldAddr 26 (Operand.tmp 5) 2, type := 0, pos := "order.go:22", after := #[{ on := 0, ground := Ground.phase }, { on := 1, ground := Ground.phase }, { on := 2, ground := Ground.phase }, { on := 3, ground := Ground.phase }, { on := 4, ground := Ground.phase }, { on := 5, ground := Ground.phase }, { on := 6, ground := Ground.phase }, { on := 7, ground := Ground.phase }, { on := 8, ground := Ground.phase }], guard := none }) (v := ?_) rfl (by kernel_rfl) (by kernel_rfl) (by kernel_rfl) (fun _ _ _ h => h) (Or.inl ⟨by rfl, ?_⟩) (by assumption) ?_
          rotate_left
          · intro w hSw; (try dsimp only at hSw); go_simp <;> with_reducible rfl
          simp only [Act.put, List.setIfInBounds_toArray, List.set_cons_zero, List.set_cons_succ]
          refine wpAnyH_ready (rs := [10]) (by kernel_rfl) (by simp) ?_
          refine AllReadyH.cons (o := { dst := none, op := Op.store 23 (Operand.tmp 55) (Operand.tmp 54), type := 0, pos := "order.go:22", after := #[{ on := 9, ground := Ground.data }, { on := 8, ground := Ground.data }, { on := 8, ground := Ground.chain }, { on := 0, ground := Ground.phase }, { on := 1, ground := Ground.phase }, { on := 2, ground := Ground.phase }, { on := 3, ground := Ground.phase }, { on := 4, ground := Ground.phase }, { on := 5, ground := Ground.phase }, { on := 6, ground := Ground.phase }, { on := 7, ground := Ground.phase }, { on := 8, ground := Ground.phase }], guard := none }) rfl (fun K hK => ?_) AllReadyH.nil
          go_simp
          refine hK.out _ _ ?_ (fun hHeld => ?_)
          · exact ⟨(hR3dx.put (hR3dx.qb.s2 (.slice o6 n6 c6))).pb.c2, c2.out _ (hR3dx.put (hR3dx.qb.s2 (.slice o6 n6 c6))).be⟩
          clear hK K
          try simp only [Act.put, List.setIfInBounds_toArray, List.set_cons_zero, List.set_cons_succ]
          refine wpAnyH_done (by kernel_rfl) ?_ _
          skip
          have hR9 : Hid (Tq w P (.slice (some ⟨g1, o1, none⟩) P.who.length cw) (.slice (some ⟨g2, o2, none⟩) P.fixed.length cf) (.slice or P.rules.length cr) O gq (w4.setCell ⟨gq, 2, none⟩ (.slice o6 n6 c6)) P.users (.slice o5 n5 c5) (.slice o6 n6 c6) (.slice none 0 0) (.slice o5 n5 c5) (.slice o6 n6 c6) (.slice none 0 0) (reW P (O.take (j + 1))) (reF P (O.take (j + 1))) []) := by
            have h9 := hR3dx.put (hR3dx.qb.s2 (.slice o6 n6 c6))
            rw [hLa2.out, hLb2.out] at h9
            exact h9
          clear hR3dx hR3d hLa2 hLb2
          go_wp2
          exact ⟨⟨j + 1, _, _, by omega, by go_num, hR9⟩, by simp [intOf]; omega⟩
        refine AllReadyH.cons (o := { dst := some 43, op := Op.buildSlice 22 1 #[(0, Operand.tmp 42)], type := 22, pos := "order.go:21", after := #[{ on := 6, ground := Ground.data }], guard := none }) rfl (fun K hK => ?_) AllReadyH.nil
        go_simp
        refine hK.out _ _ ?_ (fun hHeld => ?_)
        · exact ⟨(hRd.out.over ((Below.refl _ _).alloc (Nat.le_refl _) _)).pb.c1, c1'.out _ (hRd.out.over ((Below.refl _ _).alloc (Nat.le_refl _) _)).be⟩
        clear hK K
        try simp only [Act.put, List.setIfInBounds_toArray, List.set_cons_zero, List.set_cons_succ]
        refine wpAnyH_ready (rs := [1]) (by kernel_rfl) (by simp) ?_
        refine AllReadyH.cons (o := { dst := some 37, op := Op.load 22 (Operand.tmp 36), type := 22, pos := "order.go:21", after := #[{ on := 0, ground := Ground.data }], guard := none }) rfl (fun K hK => ?_) AllReadyH.nil
        go_simp
        refine hK.out _ _ ?_ (fun hHeld => ?_)
        · exact ⟨(hRd.out.over ((Below.refl _ _).alloc (Nat.le_refl _) _)).pb.c1, c1'.out _ (hRd.out.over ((Below.refl _ _).alloc (Nat.le_refl _) _)).be⟩
        clear hK K
        try simp only [Act.put, List.setIfInBounds_toArray, List.set_cons_zero, List.set_cons_succ]
        refine wpAnyH_ready (rs := [8]) (by kernel_rfl) (by simp) ?_
        refine AllReadyH.cons (o := { dst := some 44, op := Op.call { callee := Callee.builtin Builtin.append, args := #[Operand.tmp 37, Operand.tmp 43], argTypes := #[22, 22] }, type := 22, pos := "order.go:21", after := #[{ on := 1, ground := Ground.data }, { on := 7, ground := Ground.data }], guard := none }) rfl (fun K hK => ?_) AllReadyH.nil
        rw [if_pos (by rfl)]
        refine Tq.wapp1 _ _ hRd.out z rfl rfl rfl (by omega) ?_; intro o5 n5 c5 w2 hRdx; have q2 := hRdx.qb.c1; have f2 := hRdx.qb.frz 1; (try dsimp only)
        refine hK.out _ _ ?_ (fun hHeld => ?_)
        · exact ⟨hRdx.pb.c1, c1'.out _ hRdx.be⟩
        clear hK K
        try simp only [Act.put, List.setIfInBounds_toArray, List.set_cons_zero, List.set_cons_succ]
        refine wpAnyH_take (i := 9) (oi := { dst := some 45, op := Op.fieldAddr 26 (Operand.tmp 5) 1, type := 0, pos := "order.go:21", after := #[{ on := 0, ground := Ground.phase }, { on := 1, ground := Ground.phase }, { on := 2, ground := Ground.phase }, { on := 3, ground := Ground.phase }, { on := 4, ground := Ground.phase }, { on := 5, ground := Ground.phase }, { on := 6, ground := Ground.phase }, { on := 7, ground := Ground.phase }, { on := 8, ground := Ground.phase }], guard := none }) (v := ?_) rfl (by kernel_rfl) (by kernel_rfl) (by kernel_rfl) (fun _ _ _ h => h) (Or.inl ⟨by rfl, ?_⟩) (by assumption) ?_
        rotate_left
        · intro w hSw; (try dsimp only at hSw); go_simp <;> with_reducible rfl
        simp only [Act.put, List.setIfInBounds_toArray, List.set_cons_zero, List.set_cons_succ]
        refine wpAnyH_ready (rs := [10]) (by kernel_rfl) (by simp) ?_
        refine AllReadyH.cons (o := { dst := none, op := Op.store 22 (Operand.tmp 45) (Operand.tmp 44), type := 0, pos := "order.go:21", after := #[{ on := 9, ground := Ground.data }, { on := 8, ground := Ground.data }, { on := 8, ground := Ground.chain }, { on := 0, ground := Ground.phase }, { on := 1, ground := Ground.phase }, { on := 2, ground := Ground.phase }, { on := 3, ground := Ground.phase }, { on := 4, ground := Ground.phase }, { on := 5, ground := Ground.phase }, { on := 6, ground := Ground.phase }, { on := 7, ground := Ground.phase }, { on := 8, ground := Ground.phase }], guard := none }) rfl (fun K hK => ?_) AllReadyH.nil
        go_simp
        refine hK.out _ _ ?_ (fun hHeld => ?_)
        · exact ⟨(hRdx.put (hRdx.qb.s1 (.slice o5 n5 c5))).pb.c1, c1'.out _ (hRdx.put (hRdx.qb.s1 (.slice o5 n5 c5))).be⟩
        clear hK K
        try simp only [Act.put, List.setIfInBounds_toArray, List.set_cons_zero, List.set_cons_succ]
        refine wpAnyH_done (by kernel_rfl) ?_ _
        skip
        have hR3d := hide' ((hRdx.put (hRdx.qb.s1 (.slice o5 n5 c5))).over (Below.refl _ _).drew)
        clear hRdx hRd q2 f2 hq1 hq2
        generalize w2.setCell ⟨gq, 1, none⟩ (.slice o5 n5 c5) = w3 at *
        have hq1 := hR3d.out.qb.c2
        have hq2 : ∀ o, (w3.alloc o).cell? ⟨gq, 2, none⟩ = some (.slice ob Lb.length cb) := fun o => (hR3d.out.over ((Below.refl _ w3.drew).alloc (Nat.le_refl _) o)).qb.c2
        go_upto_region 13 with fail
        refine wp_region_held_drew (S := (fun V => V.cell? ⟨w.heap.size, 2, none⟩ = some (.slice (some ⟨g2, o2, none⟩) P.fixed.length cf) ∧ V.cell? ⟨g2, o2 + t, none⟩ = some (.int .i64 y))) (by kernel_rfl) ?_ (fun hHeld => ?_)
        · exact ⟨hR3d.out.pb.c2, c2.out _ hR3d.out.be⟩
        refine wpAnyH_take (i := 0) (oi := { dst := some 46, op := Op.fieldAddr 26 (Operand.tmp 5) 2, type := 0, pos := "order.go:22", after := #[], guard := none }) (v := ?_) rfl (by kernel_rfl) (by kernel_rfl) (by kernel_rfl) (fun _ _ _ h => h) (Or.inl ⟨by rfl, ?_⟩) (by assumption) ?_
        rotate_left
        · intro w hSw; (try dsimp only at hSw); go_simp <;> with_reducible rfl
        simp only [Act.put, List.setIfInBounds_toArray, List.set_cons_zero, List.set_cons_succ]
        refine wpAnyH_take (i := 2) (oi := { dst := some 48, op := Op.fieldAddr 26 (Operand.tmp 1) 2, type := 0, pos := "order.go:22", after := #[], guard := none }) (v := ?_) rfl (by kernel_rfl) (by kernel_rfl) (by kernel_rfl) (fun _ _ _ h => h) (Or.inl ⟨by rfl, ?_⟩) (by assumption) ?_
        rotate_left
        · intro w hSw; (try dsimp only at hSw); go_simp <;> with_reducible rfl
        simp only [Act.put, List.setIfInBounds_toArray, List.set_cons_zero, List.set_cons_succ]
        refine wpAnyH_take (i := 3) (oi := { dst := some 49, op := Op.load 23 (Operand.tmp 48), type := 23, pos := "order.go:22", after := #[{ on := 2, ground := Ground.data }], guard := none }) (v := ?_) rfl (by kernel_rfl) (by kernel_rfl) (by kernel_rfl) (fun _ _ _ h => h) (Or.inl ⟨by rfl, ?_⟩) (by assumption) ?_
        rotate_left
        · intro w hSw; (try dsimp only at hSw); go_simp <;> with_reducible rfl
        simp only [Act.put, List.setIfInBounds_toArray, List.set_cons_zero, List.set_cons_succ]
        refine wpAnyH_take (i := 4) (oi := { dst := some 50, op := Op.move (Operand.tmp 7), type := 3, pos := "order.go:22", after := #[], guard := none }) (v := ?_) rfl (by kernel_rfl) (by kernel_rfl) (by kernel_rfl) (fun _ _ _ h => h) (Or.inl ⟨by rfl, ?_⟩) (by assumption) ?_
        rotate_left
        · intro w hSw; (try dsimp only at hSw); go_simp <;> with_reducible rfl
        simp only [Act.put, List.setIfInBounds_toArray, List.set_cons_zero, List.set_cons_succ]
        refine wpAnyH_take (i := 5) (oi := { dst := some 51, op := Op.indexAddr 23 (Operand.tmp 49) (Operand.tmp 50), type := 0, pos := "order.go:22", after := #[{ on := 3, ground := Ground.data }, { on := 4, ground := Ground.data }], guard := none }) (v := ?_) rfl (by kernel_rfl) (by kernel_rfl) (by kernel_rfl) (fun _ _ _ h => h) (Or.inl ⟨by rfl, ?_⟩) (by assumption) ?_
        rotate_left
        · intro w hSw; (try dsimp only at hSw); go_simp <;> with_reducible rfl
        simp only [Act.put, List.setIfInBounds_toArray, List.set_cons_zero, List.set_cons_succ]
        refine wpAnyH_take (i := 6) (oi := { dst := some 52, op := Op.load 3 (Operand.tmp 51), type := 3, pos := "order.go:22", after := #[{ on := 5, ground := Ground.data }], guard := none }) (v := ?_) rfl (by kernel_rfl) (by kernel_rfl) (by kernel_rfl) (fun _ _ _ h => h) (Or.inl ⟨by rfl, ?_⟩) (by assumption) ?_
        rotate_left
        · intro w hSw; (try dsimp only at hSw); go_simp <;> with_reducible rfl
        simp only [Act.put, List.setIfInBounds_toArray, List.set_cons_zero, List.set_cons_succ]
        refine wpAnyH_ready (rs := [1, 7]) (by kernel_rfl) (by simp) ?_
        refine AllReadyH.cons (o := { dst := some 47, op := Op.load 23 (Operand.tmp 46), type := 23, pos := "order.go:22", after := #[{ on := 0, ground := Ground.data }], guard := none }) rfl (fun K hK => ?_) ?_
        · skip
          go_simp
          refine hK.out _ _ ?_ (fun hHeld => ?_)
          · exact ⟨hR3d.out.pb.c2, c2.out _ hR3d.out.be⟩
          clear hK K
          try simp only [Act.put, List.setIfInBounds_toArray, List.set_cons_zero, List.set_cons_succ]
          refine wpAnyH_ready (rs := [7]) (by kernel_rfl) (by simp) ?_
          refine AllReadyH.cons (o := { dst := some 53, op := Op.buildSlice 23 1 #[(0, Operand.tmp 52)], type := 23, pos := "order.go:22", after := #[{ on := 6, ground := Ground.data }], guard := none }) rfl (fun K hK => ?_) AllReadyH.nil
          go_simp
          refine hK.out _ _ ?_ (fun hHeld => ?_)
          · exact ⟨(hR3d.out.over ((Below.refl _ _).alloc (Nat.le_refl _) _)).pb.c2, c2.out _ (hR3d.out.over ((Below.refl _ _).alloc (Nat.le_refl _) _)).be⟩
          clear hK K
          try simp only [Act.put, List.setIfInBounds_toArray, List.set_cons_zero, List.set_cons_succ]
          refine wpAnyH_ready (rs := [8]) (by kernel_rfl) (by simp) ?_
          refine AllReadyH.cons (o := { dst := some 54, op := Op.call { callee := Callee.builtin Builtin.append, args := #[Operand.tmp 47, Operand.tmp 53], argTypes := #[23, 23] }, type := 23, pos := "order.go:22", after := #[{ on := 1, ground := Ground.data }, { on := 7, ground := Ground.data }], guard := none }) rfl (fun K hK => ?_) AllReadyH.nil
          rw [if_pos (by rfl)]
          refine Tq.wapp2 _ _ hR3d.out y rfl rfl rfl (by omega) ?_; intro o6 n6 c6 w4 hR3dx; have q2 := hR3dx.qb.c2; have f2 := hR3dx.qb.frz 2; (try dsimp only)
          refine hK.out _ _ ?_ (fun hHeld => ?_)
          · exact ⟨hR3dx.pb.c2, c2.out _ hR3dx.be⟩
          clear hK K
          try simp only [Act.put, List.setIfInBounds_toArray, List.set_cons_zero, List.set_cons_succ]
          refine wpAnyH_take (i := 9) (oi := { dst := some 55, op := Op.fieldAddr 26 (Operand.tmp 5) 2, type := 0, pos := "order.go:22", after := #[{ on := 0, ground := Ground.phase }, { on := 1, ground := Ground.phase }, { on := 2, ground := Ground.phase }, { on := 3, ground := Ground.phase }, { on := 4, ground := Ground.phase }, { on := 5, ground := Ground.phase }, { on := 6, ground := Ground.phase }, { on := 7, ground := Ground.phase }, { on := 8, ground := Ground.phase }], guard := none }) (v := ?_) rfl (by kernel_rfl) (by kernel_rfl) (by kernel_rfl) (fun _ _ _ h => h) (Or.inl ⟨by rfl, ?_⟩) (by assumption) ?_
          rotate_left
          · intro w hSw; (try dsimp only at hSw); go_simp <;> with_reducible rfl
          simp only [Act.put, List.setIfInBounds_toArray, List.set_cons_zero, List.set_cons_succ]
          refine wpAnyH_ready (rs := [10]) (by kernel_rfl) (by simp) ?_
          refine AllReadyH.cons (o := { dst := none, op := Op.store 23 (Operand.tmp 55) (Operand.tmp 54), type := 0, pos := "order.go:22", after := #[{ on := 9, ground := Ground.data }, { on := 8, ground := Ground.data }, { on := 8, ground := Ground.chain }, { on := 0, ground := Ground.phase }, { on := 1, ground := Ground.phase }, { on := 2, ground := Ground.phase }, { on := 3, ground := Ground.phase }, { on := 4, ground := Ground.phase }, { on := 5, ground := Ground.phase }, { on := 6, ground := Ground.phase }, { on := 7, ground := Ground.phase }, { on := 8, ground := Ground.phase }], guard := none }) rfl (fun K hK => ?_) AllReadyH.nil
          go_simp
          refine hK.out _ _ ?_ (fun hHeld => ?_)
          · exact ⟨(hR3dx.put (hR3dx.qb.s2 (.slice o6 n6 c6))).pb.c2, c2.out _ (hR3dx.put (hR3dx.qb.s2 (.slice o6 n6 c6))).be⟩
          clear hK K
          try simp only [Act.put, List.setIfInBounds_toArray, List.set_cons_zero, List.set_cons_succ]
          refine wpAnyH_done (by kernel_rfl) ?_ _
          skip
          have hR9 : Hid (Tq w P (.slice (some ⟨g1, o1, none⟩) P.who.length cw) (.slice (some ⟨g2, o2, none⟩) P.fixed.length cf) (.slice or P.rules.length cr) O gq (w4.setCell ⟨gq, 2, none⟩ (.slice o6 n6 c6)) P.users (.slice o5 n5 c5) (.slice o6 n6 c6) (.slice none 0 0) (.slice o5 n5 c5) (.slice o6 n6 c6) (.slice none 0 0) (reW P (O.take (j + 1))) (reF P (O.take (j + 1))) []) := by
            have h9 := hR3dx.put (hR3dx.qb.s2 (.slice o6 n6 c6))
            rw [hLa2.out, hLb2.out] at h9
            exact h9
          clear hR3dx hR3d hLa2 hLb2
          go_wp2
          exact ⟨⟨j + 1, _, _, by omega, by go_num, hR9⟩, by simp [intOf]; omega⟩
        refine AllReadyH.cons (o := { dst := some 53, op := Op.buildSlice 23 1 #[(0, Operand.tmp 52)], type := 23, pos := "order.go:22", after := #[{ on := 6, ground := Ground.data }], guard := none }) rfl (fun K hK => ?_) AllReadyH.nil
        go_simp
        refine hK.out _ _ ?_ (fun hHeld => ?_)
        · exact ⟨(hR3d.out.over ((Below.refl _ _).alloc (Nat.le_refl _) _)).pb.c2, c2.out _ (hR3d.out.over ((Below.refl _ _).alloc (Nat.le_refl _) _)).be⟩
        clear hK K
        try simp only [Act.put, List.setIfInBounds_toArray, List.set_cons_zero, List.set_cons_succ]
        refine wpAnyH_ready (rs := [1]) (by kernel_rfl) (by simp) ?_
        refine AllReadyH.cons (o := { dst := some 47, op := Op.load 23 (Operand.tmp 46), type := 23, pos := "order.go:22", after := #[{ on := 0, ground := Ground.data }], guard := none }) rfl (fun K hK => ?_) AllReadyH.nil
        go_simp
        refine hK.out _ _ ?_ (fun hHeld => ?_)
        · exact ⟨(hR3d.out.over ((Below.refl _ _).alloc (Nat.le_refl _) _)).pb.c2, c2.out _ (hR3d.out.over ((Below.refl _ _).alloc (Nat.le_refl _) _)).be⟩
        clear hK K
        try simp only [Act.put, List.setIfInBounds_toArray, List.set_cons_zero, List.set_cons_succ]
        refine wpAnyH_ready (rs := [8]) (by kernel_rfl) (by simp) ?_
        refine AllReadyH.cons (o := { dst := some 54, op := Op.call { callee := Callee.builtin Builtin.append, args := #[Operand.tmp 47, Operand.tmp 53], argTypes := #[23, 23] }, type := 23, pos := "order.go:22", after := #[{ on := 1, ground := Ground.data }, { on := 7, ground := Ground.data }], guard := none }) rfl (fun K hK => ?_) AllReadyH.nil
        rw [if_pos (by rfl)]
        refine Tq.wapp2 _ _ hR3d.out y rfl rfl rfl (by omega) ?_; intro o6 n6 c6 w4 hR3dx; have q2 := hR3dx.qb.c2; have f2 := hR3dx.qb.frz 2; (try dsimp only)
        refine hK.out _ _ ?_ (fun hHeld => ?_)
        · exact ⟨hR3dx.pb.c2, c2.out _ hR3dx.be⟩
        clear hK K
        try simp only [Act.put, List.setIfInBounds_toArray, List.set_cons_zero, List.set_cons_succ]
        refine wpAnyH_take (i := 9) (oi := { dst := some 55, op := Op.fieldAddr 26 (Operand.tmp 5) 2, type := 0, pos := "order.go:22", after := #[{ on := 0, ground := Ground.phase }, { on := 1, ground := Ground.phase }, { on := 2, ground := Ground.phase }, { on := 3, ground := Ground.phase }, { on := 4, ground := Ground.phase }, { on := 5, ground := Ground.phase }, { on := 6, ground := Ground.phase }, { on := 7, ground := Ground.phase }, { on := 8, ground := Ground.phase }], guard := none }) (v := ?_) rfl (by kernel_rfl) (by kernel_rfl) (by kernel_rfl) (fun _ _ _ h => h) (Or.inl ⟨by rfl, ?_⟩) (by assumption) ?_
        rotate_left
        · intro w hSw; (try dsimp only at hSw); go_simp <;> with_reducible rfl
        simp only [Act.put, List.setIfInBounds_toArray, List.set_cons_zero, List.set_cons_succ]
        refine wpAnyH_ready (rs := [10]) (by kernel_rfl) (by simp) ?_
        refine AllReadyH.cons (o := { dst := none, op := Op.store 23 (Operand.tmp 55) (Operand.tmp 54), type := 0, pos := "order.go:22", after := #[{ on := 9, ground := Ground.data }, { on := 8, ground := Ground.data }, { on := 8, ground := Ground.chain }, { on := 0, ground := Ground.phase }, { on := 1, ground := Ground.phase }, { on := 2, ground := Ground.phase }, { on := 3, ground := Ground.phase }, { on := 4, ground := Ground.phase }, { on := 5, ground := Ground.phase }, { on := 6, ground := Ground.phase }, { on := 7, ground := Ground.phase }, { on := 8, ground := Ground.phase }], guard := none }) rfl (fun K hK => ?_) AllReadyH.nil
        go_simp
        refine hK.out _ _ ?_ (fun hHeld => ?_)
        · exact ⟨(hR3dx.put (hR3dx.qb.s2 (.slice o6 n6 c6))).pb.c2, c2.out _ (hR3dx.put (hR3dx.qb.s2 (.slice o6 n6 c6))).be⟩
        clear hK K
        try simp only [Act.put, List.setIfInBounds_toArray, List.set_cons_zero, List.set_cons_succ]
        refine wpAnyH_done (by kernel_rfl) ?_ _
        skip
        have hR9 : Hid (Tq w P (.slice (some ⟨g1, o1, none⟩) P.who.length cw) (.slice (some ⟨g2, o2, none⟩) P.fixed.length cf) (.slice or P.rules.length cr) O gq (w4.setCell ⟨gq, 2, none⟩ (.slice o6 n6 c6)) P.users (.slice o5 n5 c5) (.slice o6 n6 c6) (.slice none 0 0) (.slice o5 n5 c5) (.slice o6 n6 c6) (.slice none 0 0) (reW P (O.take (j + 1))) (reF P (O.take (j + 1))) []) := by
          have h9 := hR3dx.put (hR3dx.qb.s2 (.slice o6 n6 c6))
          rw [hLa2.out, hLb2.out] at h9
          exact h9
        clear hR3dx hR3d hLa2 hLb2
        go_wp2
        exact ⟨⟨j + 1, _, _, by omega, by go_num, hR9⟩, by simp [intOf]; omega⟩
      · as_aux_lemma =>
        obtain rfl : j = O.length := by omega
        rw [List.take_length] at hR
        go_wp2
        go_meet
        exact ⟨va, vb, hR⟩
  case rest =>
  clear hQ hwt
  obtain ⟨va, vb, hQ⟩ := hcut
  have p3 := hQ.out.pb.c3
  have hsr : Hid (∀ r ∈ P.rules, r.steps.length ≤ 1000) := hk'.out.s
  have hrl : P.rules.length ≤ 1000 := hk'.out.r
  have hw1 := hide' h'.out.rules
  clear hk' h'
  go_upto_block 4 with fail
  clear p3
  go_cut [60, 9] from 61 to 76 (fun _ _ wx => ∃ (oc : Option Addr) (nc cc : Nat) (E : List (Rl × Value)), Hid (E.map Prod.fst = P.rules.map (reR O)) ∧ Hid (Tq w P (.slice ow P.who.length cw) (.slice of P.fixed.length cf) (.slice or P.rules.length cr) O gq wx P.users va vb (.slice oc nc cc) va vb (.slice oc nc cc) (reW P O) (reF P O) E))
  case first =>
    as_aux_lemma =>
    go_wp2
    go_loopw [60, 9] (fun p _ wr => ∃ (j : Nat) (oc : Option Addr) (nc cc : Nat) (E : List (Rl × Value)), j ≤ P.rules.length ∧ p = .int .i64 (j : Int) ∧ Hid (E.map Prod.fst = (P.rules.take j).map (reR O)) ∧ Hid (Tq w P (.slice ow P.who.length cw) (.slice of P.fixed.length cf) (.slice or P.rules.length cr) O gq wr P.users va vb (.slice oc nc cc) va vb (.slice oc nc cc) (reW P O) (reF P O) E)) (fun p _ _ => ((P.rules.length : Int) - intOf p).toNat)
    case atStart => exact ⟨0, none, 0, 0, [], Nat.zero_le _, rfl, rfl, hQ⟩
    case round =>
      clear hQ
      obtain ⟨j, oc, nc, cc, E, hj, rfl, hE, hQ⟩ := hrel
      by_cases hlt : j < P.rules.length
      · as_aux_lemma =>
        have hlt' : (j : Int) < (P.rules.length : Int) := by omega
        obtain ⟨r, hr⟩ : ∃ r, P.rules[j]? = some r := ⟨_, List.getElem?_eq_getElem hlt⟩
        obtain ⟨oa3, ca3, e3, _, hcr⟩ := hw1.out
        obtain ⟨g, o, sv, r3, d1, d2, d3, d4⟩ := hcr j r hr
        injection e3 with e3a e3b e3c
        subst e3a
        subst r3
        have a1 := M.cell_over d1 hQ.out.be
        have a2 := M.cell_over d2 hQ.out.be
        have a3 := M.cell_over d3 hQ.out.be
        have hst := hsr.out r (List.mem_of_getElem? hr)
        obtain ⟨Wg, rfl⟩ : ∃ W, W = wr := ⟨_, rfl⟩
        have d4' := hide' (d4.below hQ.out.be (Nat.le_refl _))
        obtain ⟨os, cs, rfl, _, _⟩ := d4
        have hE2 : Hid (∀ v : Value, (E ++ [(reR O r, v)]).map Prod.fst = (P.rules.take (j + 1)).map (reR O)) := fun v => by rw [List.map_append, hE.out, List.take_add_one, hr]; simp
        have hEl : Hid (E.length ≤ 1000000) := by
          have := congrArg List.length hE.out
          rw [List.length_map, List.length_map, List.length_take] at this
          show E.length ≤ 1000000
          omega
        have hbA : Hid (Below Wg.heap.size Wg (Wg.alloc (.cells #[.int .i64 r.kind, .int .i64 r.k, .slice os r.steps.length cs] 46))) := (Below.refl _ Wg).alloc (Nat.le_refl _) _
        have hbx : Hid ((Wg.alloc (.cells #[.int .i64 r.kind, .int .i64 r.k, .slice os r.steps.length cs] 46)).rowIs Wg.heap.size 46 3 (ruW r.kind r.k (.slice os r.steps.length cs))) := World.rowIs_alloc Wg #[.int .i64 r.kind, .int .i64 r.k, .slice os r.steps.length cs] _ _ fun i hi => by
          have hi : i < 3 := hi
          rcases (show i = 0 ∨ i = 1 ∨ i = 2 by omega) with rfl | rfl | rfl <;> rfl
        have hor : Hid (RowI Wg (.slice (some ⟨w.heap.size + 1 + 1, 0, none⟩) P.who.length P.who.length) (ints O)) := hQ.out.bl.row (by omega)
        clear d1 d2 d3 hr hcr e3b e3c
        go_upto_region 18 with fail
        clear a1 a2 a3
        have hs5 := hide' (World.rowIs.lt hbx.out)
        have KR := hide' (placesF r.steps (ints O) (.slice os r.steps.length cs) (.slice (some ⟨w.heap.size + 1 + 1, 0, none⟩) P.who.length P.who.length) (Wg.alloc (.cells #[.int .i64 r.kind, .int .i64 r.k, .slice os r.steps.length cs] 46)) (d4'.out.below hbA.out (Nat.le_refl _)) (hor.out.below hbA.out (Nat.le_refl _)) (by rw [ints_len]; omega) hst)
        generalize Wg.alloc (.cells #[.int .i64 r.kind, .int .i64 r.k, .slice os r.steps.length cs] 46) = w5 at *
        have x2' := World.rowIs.cell hbx.out (i := 2) (by decide)
        simp [ruW] at x2'
        go_wp2_with fail
        clear x2'
        refine KR.out.mono ?_
        rintro e w7 ⟨v7, rfl, hO7, hb7⟩
        obtain ⟨o7, c7, rfl⟩ := own_shp hO7
        obtain ⟨nm, hnm⟩ : ∃ nm, nm = (movN r.steps (ints O)).length := ⟨_, rfl⟩
        rw [← hnm] at hO7 ⊢
        have hb7' : Hid (Below Wg.heap.size Wg w7) := hbA.out.trans (hb7.mono hbA.out.size)
        have hbx7 := hide' (World.rowIs.of_block hbx.out (hb7.block _ hs5.out))
        have f2 := World.rowIs.frozen hbx7.out 2
        have y2 := World.rowIs.cell hbx7.out (i := 2) (by decide)
        have hbx8 := World.rowIs.set hbx7.out 2 (.slice o7 nm c7)
        have x0 := World.rowIs.cell hbx8 (i := 0) (by decide)
        have x1 := World.rowIs.cell hbx8 (i := 1) (by decide)
        have x2 := World.rowIs.cell hbx8 (i := 2) (by decide)
        simp [ruW] at y2 x0 x1 x2
        have hb8 : Hid (Below Wg.heap.size Wg (w7.setCell ⟨Wg.heap.size, 2, none⟩ (.slice o7 nm c7))) := hb7'.out.setCell (p := ⟨Wg.heap.size, 2, none⟩) (Nat.le_refl _) _
        have hQ8 := hide' (hQ.out.over hb8.out)
        have hq3 := hQ8.out.qb.c3
        have hO8 : Hid ((w7.setCell ⟨Wg.heap.size, 2, none⟩ (.slice o7 nm c7)).ownsRow w5.heap.size 3 1 (.slice o7 nm c7) nm (cellsI (movN r.steps (ints O)))) := own_same hO7 fun g hg e => Below.heap_setCell _ _ _ _ (by have := own_ge' hO7 e; have := hs5.out; show g ≠ Wg.heap.size; omega)
        have hp8 : Hid ((w7.setCell ⟨Wg.heap.size, 2, none⟩ (.slice o7 nm c7)).ownsRow (w.heap.size + 3) 3 1 ((reR O r, .slice o7 nm c7) : Rl × Value).2 ((reR O r, .slice o7 nm c7) : Rl × Value).1.steps.length (cellsI ((reR O r, .slice o7 nm c7) : Rl × Value).1.steps)) := by
          have := own_down (C := w.heap.size + 3) hO8.out (by have := hQ.out.sz; have := hs5.out; omega)
          rw [hnm] at this
          rw [hnm]
          exact this
        clear hO7 hb7 hb7' hbx7 hbx8 hbx hs5 KR hQ hb8 hO8 d4' hbA hnm hor
        go_upto_region 19 with fail
        clear f2 y2
        generalize w7.setCell ⟨Wg.heap.size, 2, none⟩ (.slice o7 nm c7) = W8 at *
        go_wp2_with (at_builtin; refine wpList_plain rfl fun _ hK => Tq.wapp3 (.tmp 70) (.tmp 72) hQ8.out (reR O r, .slice o7 nm c7) hp8.out rfl rfl rfl hEl.out fun oD nD cD wD hD => hK _ _ ?_; have hD' := hide' hD; have fD := hD.qb.frz 3; have dD := hD.qb.c3; clear hD)
        have hE9 := hide' (hD'.out.put (hD'.out.qb.s3 (.slice oD nD cD)))
        exact ⟨⟨j + 1, oD, nD, cD, _, by omega, by go_num, hE2.out _, hE9⟩, by simp [intOf]; omega⟩
      · as_aux_lemma =>
        obtain rfl : j = P.rules.length := by omega
        rw [List.take_length] at hE
        go_wp2
        go_meet
        exact ⟨oc, nc, cc, E, hE, hQ⟩
  case rest =>
  clear hQ hw1
  obtain ⟨oc, nc, cc, E, hE, hQ⟩ := hcut
  obtain ⟨oa, ca, ea⟩ := own_shp hQ.out.r1
  obtain ⟨ob, cb, eb⟩ := own_shp hQ.out.r2
  generalize (reW P O).length = na at *
  generalize (reF P O).length = nb at *
  subst ea
  subst eb
  have p0 := hQ.out.qb.c0
  have p1 := hQ.out.qb.c1
  have p2 := hQ.out.qb.c2
  have p3 := hQ.out.qb.c3
  have f0 := hQ.out.z.frz 0
  have y0 := hQ.out.z.c0
  have f1 := (hQ.out.z.s0C P.users).frz 1
  have y1 := (hQ.out.z.s0C P.users).c1
  have f2 := ((hQ.out.z.s0C P.users).s1 (.slice oa na ca)).frz 2
  have y2 := ((hQ.out.z.s0C P.users).s1 (.slice oa na ca)).c2
  have f3 := (((hQ.out.z.s0C P.users).s1 (.slice oa na ca)).s2 (.slice ob nb cb)).frz 3
  have y3 := (((hQ.out.z.s0C P.users).s1 (.slice oa na ca)).s2 (.slice ob nb cb)).c3
  have x0 := ((((hQ.out.z.s0C P.users).s1 (.slice oa na ca)).s2 (.slice ob nb cb)).s3 (.slice oc nc cc)).c0
  have x1 := ((((hQ.out.z.s0C P.users).s1 (.slice oa na ca)).s2 (.slice ob nb cb)).s3 (.slice oc nc cc)).c1
  have x2 := ((((hQ.out.z.s0C P.users).s1 (.slice oa na ca)).s2 (.slice ob nb cb)).s3 (.slice oc nc cc)).c2
  have x3 := ((((hQ.out.z.s0C P.users).s1 (.slice oa na ca)).s2 (.slice ob nb cb)).s3 (.slice oc nc cc)).c3
  have hUp : Hid (∀ ad n c, Value.slice oa na ca = .slice (some ad) n c → ad.block < ((((wc.setCell ⟨w.heap.size + 1, 0, none⟩ (.int .i64 P.users)).setCell ⟨w.heap.size + 1, 1, none⟩ (.slice oa na ca)).setCell ⟨w.heap.size + 1, 2, none⟩ (.slice ob nb cb)).setCell ⟨w.heap.size + 1, 3, none⟩ (.slice oc nc cc)).heap.size) := fun ad n c e => by
    have := own_lt' hQ.out.r1 (g := ad.block) (by rw [e]; rfl)
    simpa [World.setCell] using this
  have hF := hide' (hQ.out.fin (.int .i64 P.users) (.slice oa na ca) (.slice ob nb cb) (.slice oc nc cc))
  rw [hE.out] at hF
  clear hQ
  go_wp2
  refine bodyPost_ret (v := .agg #[.int .i64 P.users, .slice oa na ca, .slice ob nb cb, .slice oc nc cc]) (by simp [results, Tryz.results42, go_sem, x0, x1, x2, x3]) rfl ?_
  refine ⟨O, hP, ?_⟩
  unfold TfP
  exact ⟨_, _, _, _, _, _, _, _, _, rfl, hF.out.1, hF.out.2.1, hUp⟩
end Go.Proofs.YtmbdnhgmpmnhmaaGreatDoor.S
namespace Go.Proofs.YtmbdnhgmpmnhmaaGreatDoor.S
open Go.RowKit Go.Shelf
set_option maxRecDepth 100000 in
set_option maxHeartbeats 2000000 in
theorem doingF (gt : Nat) (F L : List Int) (fv v : Value) (w : World) (hc : w.cell? ⟨gt, 2, none⟩ = some fv) (hF : RowI w fv F) (hL : RowI w v L) (hl : L.length = F.length) (hn : L.length ≤ 1000) (hu : ∀ z ∈ L, 0 ≤ z ∧ z < 64) :
    Calls Tryz.prog 49 #[.pointer (some ⟨gt, 0, none⟩), v] w fun e w' => e = .returned (.agg #[.int .u64 ((dng F L L.length : Nat) : Int)]) ∧ Below w.heap.size w w' := by
  have hF' := hide' hF
  have hL' := hide' hL
  have hc' := hide' hc
  obtain ⟨of, cf, rfl, _, _⟩ := hF
  obtain ⟨ol, cl, rfl, _, _⟩ := hL
  have hB2 : Hid (Below w.heap.size w ((w.alloc (.cells #[.int .u64 0] 50)).alloc (.cells #[.int .u64 0] 50))) := ((Below.refl _ w).alloc (Nat.le_refl _) _).alloc (by simp) _
  have hBd : Hid (Bo ((w.alloc (.cells #[.int .u64 0] 50)).alloc (.cells #[.int .u64 0] 50)) (w.heap.size + 1) (.int .u64 0)) := by
    have := Bo.new (w.alloc (.cells #[.int .u64 0] 50)) (.int .u64 0) 50
    rw [World.size_alloc] at this
    exact this
  have hBz : Hid (Bo ((w.alloc (.cells #[.int .u64 0] 50)).alloc (.cells #[.int .u64 0] 50)) w.heap.size (.int .u64 0)) := (Bo.new w (.int .u64 0) 50).over ((Below.refl _ _).alloc (Nat.le_refl _) _)
  have hl' := hide' hl
  clear hc hl
  go_enter Tryz.func49, Tryz.ntmps49
  go_upto_block 0 with fail
  generalize (w.alloc (.cells #[.int .u64 0] 50)).alloc (.cells #[.int .u64 0] 50) = w2 at *
  go_wp2
  go_loopw [10, 6, 7] (fun kv _ _ wr => ∃ j : Nat, j ≤ L.length ∧ kv = .int .i64 (j : Int) ∧ Hid (Bo wr (w.heap.size + 1) (.int .u64 ((dng F L j : Nat) : Int))) ∧ Hid (Bo wr w.heap.size (.int .u64 0)) ∧ Hid (Below w.heap.size w wr)) (fun kv _ _ _ => ((L.length : Int) - intOf kv).toNat)
  case atStart => exact ⟨0, Nat.zero_le _, rfl, hBd, hBz, hB2⟩
  case round =>
    clear hBd hBz hB2
    obtain ⟨j, hj, rfl, hD, hZ, hB⟩ := hrel
    by_cases hlt : j < L.length
    · have hlt' : (j : Int) < (L.length : Int) := by omega
      have hltF : (j : Int) < (F.length : Int) := by have := hl'.out; omega
      have hj0 : ¬ (j : Int) < 0 := by omega
      obtain ⟨y, hy⟩ : ∃ y, L[j]? = some y := ⟨_, List.getElem?_eq_getElem hlt⟩
      obtain ⟨f, hf⟩ : ∃ f, F[j]? = some f := ⟨_, List.getElem?_eq_getElem (by have := hl'.out; omega)⟩
      obtain ⟨gl, pl, e1, cy⟩ : ∃ g o, ol = some ⟨g, o, none⟩ ∧ wr.cell? ⟨g, o + j, none⟩ = some (.int .i64 y) := by
        obtain ⟨a, b, e, _, hc⟩ := hL'.out.below hB.out (Nat.le_refl _)
        obtain ⟨g, o, e2, e3⟩ := hc j y hy
        injection e with e4
        subst e4
        exact ⟨g, o, e2, e3⟩
      obtain ⟨gf, pf, e2, cfj⟩ : ∃ g o, of = some ⟨g, o, none⟩ ∧ wr.cell? ⟨g, o + j, none⟩ = some (.int .i64 f) := by
        obtain ⟨a, b, e, _, hc⟩ := hF'.out.below hB.out (Nat.le_refl _)
        obtain ⟨g, o, e2, e3⟩ := hc j f hf
        injection e with e4
        subst e4
        exact ⟨g, o, e2, e3⟩
      subst e1 e2
      have ct := M.cell_over hc'.out hB.out
      obtain ⟨hy0, hy1⟩ := hu y (List.mem_of_getElem? hy)
      obtain ⟨u, rfl⟩ := Int.eq_ofNat_of_zero_le hy0
      have hu64 : u < 64 := by omega
      have hgD : F.getD j (-1) = f := by rw [List.getD_eq_getElem?_getD, hf]; rfl
      have hgL : L.getD j 0 = (u : Int) := by rw [List.getD_eq_getElem?_getD, hy]; rfl
      by_cases hfe : f = -1
      · have hS : Hid (dng F L (j + 1) = dng F L j ||| 2 ^ u) := by
          show (if F.getD j (-1) = -1 then dng F L j ||| 2 ^ (L.getD j 0).toNat else dng F L j) = _
          rw [if_pos (by rw [hgD]; exact hfe), hgL, Int.toNat_natCast]
        have hfe' : (f == -1) = true := by rw [hfe]; rfl
        have hdl : dng F L j < 18446744073709551616 := dng_lt (F := F) (fun t z hz => by have := hu z (List.mem_of_getElem? hz); omega) j (by omega)
        have hul : 2 ^ u < 18446744073709551616 := Nat.lt_of_lt_of_le (Nat.pow_lt_pow_right (by decide) hu64) (Nat.le_refl (2 ^ 64))
        have KOn : Hid (∀ V, Calls Tryz.prog 30 #[.int .i64 (u : Int)] V fun e w' => e = .returned (.agg #[.int .u64 ((2 ^ u : Nat) : Int)]) ∧ Below V.heap.size V w') := fun V => onlyH u hu64 V
        have KOr : Hid (∀ V, Calls Tryz.prog 31 #[.agg #[.int .u64 ((dng F L j : Nat) : Int)], .agg #[.int .u64 ((2 ^ u : Nat) : Int)]] V fun e w' => e = .returned (.agg #[.int .u64 ((dng F L j ||| 2 ^ u : Nat) : Int)]) ∧ Below V.heap.size V w') := fun V => M.or64 _ _ hdl hul V
        generalize dng F L j ||| 2 ^ u = d2 at *
        generalize dng F L j = d1 at *
        generalize (2 : Nat) ^ u = p2 at *
        have dd := hD.out.c
        clear hy hf hgD hgL hy0 hy1 hdl hul
        go_upto_region 6 with fail
        have hDd := hide' (hD.out.over (Below.refl _ wr).drew)
        have hZd := hide' (hZ.out.over (Below.refl _ wr).drew)
        have hBd : Hid (Below w.heap.size w wr.drew) := hB.out.drew
        have ddd := hDd.out.c
        clear cy cfj ct dd hD hZ hB
        refine wp_region_held_drew (S := (fun _ => True)) (by kernel_rfl) ?_ (fun hHeld => ?_)
        · trivial
        refine wpAnyH_take (i := 1) (oi := { dst := some 25, op := Op.move (Operand.tmp 7), type := 3, pos := "trial.go:43", after := #[], guard := none }) (v := ?_) rfl (by kernel_rfl) (by kernel_rfl) (by kernel_rfl) (fun _ _ _ h => h) (Or.inl ⟨by rfl, ?_⟩) (by assumption) ?_
        rotate_left
        · intro w hSw; (try dsimp only at hSw); go_simp <;> with_reducible rfl
        simp only [Act.put, List.setIfInBounds_toArray, List.set_cons_zero, List.set_cons_succ]
        refine wpAnyH_ready (rs := [0, 2]) (by kernel_rfl) (by simp) ?_
        refine AllReadyH.cons (o := { dst := some 24, op := Op.load 50 (Operand.tmp 5), type := 50, pos := "trial.go:43", after := #[], guard := none }) rfl (fun K hK => ?_) ?_
        · skip
          go_simp
          refine hK.out _ _ ?_ (fun hHeld => ?_)
          · trivial
          clear hK K
          try simp only [Act.put, List.setIfInBounds_toArray, List.set_cons_zero, List.set_cons_succ]
          refine wpAnyH_ready (rs := [2]) (by kernel_rfl) (by simp) ?_
          refine AllReadyH.cons (o := { dst := some 26, op := Op.call { callee := Callee.value (Operand.func 30), args := #[Operand.tmp 25], argTypes := #[3] }, type := 50, pos := "trial.go:43", after := #[{ on := 1, ground := Ground.data }], guard := none }) rfl (fun K hK => ?_) AllReadyH.nil
          go_simp
          go_at_call 30; refine (KOn.out _).mono ?_; rintro e v2 ⟨rfl, hb2⟩; have hD2 := hide' (hDd.out.over hb2); have hZ2 := hide' (hZd.out.over hb2); have hB2 := hide' (hBd.out.trans (hb2.mono hBd.out.size)); have d2' := hD2.out.c; (try dsimp only)
          refine hK.out _ _ ?_ (fun hHeld => ?_)
          · trivial
          clear hK K
          try simp only [Act.put, List.setIfInBounds_toArray, List.set_cons_zero, List.set_cons_succ]
          refine wpAnyH_ready (rs := [3]) (by kernel_rfl) (by simp) ?_
          refine AllReadyH.cons (o := { dst := some 27, op := Op.call { callee := Callee.value (Operand.func 31), args := #[Operand.tmp 24, Operand.tmp 26], argTypes := #[50, 50] }, type := 50, pos := "trial.go:43", after := #[{ on := 0, ground := Ground.data }, { on := 2, ground := Ground.data }, { on := 2, ground := Ground.chain }], guard := none }) rfl (fun K hK => ?_) AllReadyH.nil
          go_simp
          go_at_call 31; refine (KOr.out _).mono ?_; rintro e v3 ⟨rfl, hb3⟩; have hD3 := hide' (hD2.out.over hb3); have hZ3 := hide' (hZ2.out.over hb3); have hB3 := hide' (hB2.out.trans (hb3.mono hB2.out.size)); have d3' := hD3.out.c; have f3' := hD3.out.fz; (try dsimp only)
          refine hK.out _ _ ?_ (fun hHeld => ?_)
          · trivial
          clear hK K
          try simp only [Act.put, List.setIfInBounds_toArray, List.set_cons_zero, List.set_cons_succ]
          refine wpAnyH_ready (rs := [4]) (by kernel_rfl) (by simp) ?_
          refine AllReadyH.cons (o := { dst := none, op := Op.store 50 (Operand.tmp 5) (Operand.tmp 27), type := 0, pos := "trial.go:43", after := #[{ on := 3, ground := Ground.data }, { on := 3, ground := Ground.chain }, { on := 0, ground := Ground.phase }, { on := 1, ground := Ground.phase }, { on := 2, ground := Ground.phase }, { on := 3, ground := Ground.phase }], guard := none }) rfl (fun K hK => ?_) AllReadyH.nil
          go_simp
          refine hK.out _ _ ?_ (fun hHeld => ?_)
          · trivial
          clear hK K
          try simp only [Act.put, List.setIfInBounds_toArray, List.set_cons_zero, List.set_cons_succ]
          refine wpAnyH_done (by kernel_rfl) ?_ _
          skip
          have hD4 := hide' (hD3.out.set (.int .u64 (d2 : Int)))
          have hZ4 := hide' (hZ3.out.of (Below.heap_setCell v3 ⟨w.heap.size + 1, 0, none⟩ (.int .u64 (d2 : Int)) w.heap.size (by show w.heap.size ≠ w.heap.size + 1; omega)))
          have hB4 := hide' (hB3.out.setCell (p := ⟨w.heap.size + 1, 0, none⟩) (Nat.le_succ _) (.int .u64 (d2 : Int)))
          clear hD3 hZ3 hB3 d3' f3'
          go_wp2
          exact ⟨⟨j + 1, by omega, by go_num, by rw [hS.out]; exact hD4, hZ4, hB4⟩, by simp [intOf]; omega⟩
        refine AllReadyH.cons (o := { dst := some 26, op := Op.call { callee := Callee.value (Operand.func 30), args := #[Operand.tmp 25], argTypes := #[3] }, type := 50, pos := "trial.go:43", after := #[{ on := 1, ground := Ground.data }], guard := none }) rfl (fun K hK => ?_) AllReadyH.nil
        go_simp
        go_at_call 30; refine (KOn.out _).mono ?_; rintro e v2 ⟨rfl, hb2⟩; have hD2 := hide' (hDd.out.over hb2); have hZ2 := hide' (hZd.out.over hb2); have hB2 := hide' (hBd.out.trans (hb2.mono hBd.out.size)); have d2' := hD2.out.c; (try dsimp only)
        refine hK.out _ _ ?_ (fun hHeld => ?_)
        · trivial
        clear hK K
        try simp only [Act.put, List.setIfInBounds_toArray, List.set_cons_zero, List.set_cons_succ]
        refine wpAnyH_ready (rs := [0]) (by kernel_rfl) (by simp) ?_
        refine AllReadyH.cons (o := { dst := some 24, op := Op.load 50 (Operand.tmp 5), type := 50, pos := "trial.go:43", after := #[], guard := none }) rfl (fun K hK => ?_) AllReadyH.nil
        go_simp
        refine hK.out _ _ ?_ (fun hHeld => ?_)
        · trivial
        clear hK K
        try simp only [Act.put, List.setIfInBounds_toArray, List.set_cons_zero, List.set_cons_succ]
        refine wpAnyH_ready (rs := [3]) (by kernel_rfl) (by simp) ?_
        refine AllReadyH.cons (o := { dst := some 27, op := Op.call { callee := Callee.value (Operand.func 31), args := #[Operand.tmp 24, Operand.tmp 26], argTypes := #[50, 50] }, type := 50, pos := "trial.go:43", after := #[{ on := 0, ground := Ground.data }, { on := 2, ground := Ground.data }, { on := 2, ground := Ground.chain }], guard := none }) rfl (fun K hK => ?_) AllReadyH.nil
        go_simp
        go_at_call 31; refine (KOr.out _).mono ?_; rintro e v3 ⟨rfl, hb3⟩; have hD3 := hide' (hD2.out.over hb3); have hZ3 := hide' (hZ2.out.over hb3); have hB3 := hide' (hB2.out.trans (hb3.mono hB2.out.size)); have d3' := hD3.out.c; have f3' := hD3.out.fz; (try dsimp only)
        refine hK.out _ _ ?_ (fun hHeld => ?_)
        · trivial
        clear hK K
        try simp only [Act.put, List.setIfInBounds_toArray, List.set_cons_zero, List.set_cons_succ]
        refine wpAnyH_ready (rs := [4]) (by kernel_rfl) (by simp) ?_
        refine AllReadyH.cons (o := { dst := none, op := Op.store 50 (Operand.tmp 5) (Operand.tmp 27), type := 0, pos := "trial.go:43", after := #[{ on := 3, ground := Ground.data }, { on := 3, ground := Ground.chain }, { on := 0, ground := Ground.phase }, { on := 1, ground := Ground.phase }, { on := 2, ground := Ground.phase }, { on := 3, ground := Ground.phase }], guard := none }) rfl (fun K hK => ?_) AllReadyH.nil
        go_simp
        refine hK.out _ _ ?_ (fun hHeld => ?_)
        · trivial
        clear hK K
        try simp only [Act.put, List.setIfInBounds_toArray, List.set_cons_zero, List.set_cons_succ]
        refine wpAnyH_done (by kernel_rfl) ?_ _
        skip
        have hD4 := hide' (hD3.out.set (.int .u64 (d2 : Int)))
        have hZ4 := hide' (hZ3.out.of (Below.heap_setCell v3 ⟨w.heap.size + 1, 0, none⟩ (.int .u64 (d2 : Int)) w.heap.size (by show w.heap.size ≠ w.heap.size + 1; omega)))
        have hB4 := hide' (hB3.out.setCell (p := ⟨w.heap.size + 1, 0, none⟩) (Nat.le_succ _) (.int .u64 (d2 : Int)))
        clear hD3 hZ3 hB3 d3' f3'
        go_wp2
        exact ⟨⟨j + 1, by omega, by go_num, by rw [hS.out]; exact hD4, hZ4, hB4⟩, by simp [intOf]; omega⟩
      · have hS : Hid (dng F L (j + 1) = dng F L j) := by
          show (if F.getD j (-1) = -1 then dng F L j ||| 2 ^ (L.getD j 0).toNat else dng F L j) = _
          rw [if_neg (by rw [hgD]; exact hfe)]
        have hfe' : (f == -1) = false := by simpa using hfe
        clear hy hf hgD hgL hy0 hy1
        go_wp2
        exact ⟨⟨j + 1, by omega, by go_num, by rw [hS.out]; exact hD, hZ, hB⟩, by simp [intOf]; omega⟩
    · obtain rfl : j = L.length := by omega
      have dd := hD.out.c
      have zz := hZ.out.c
      have fz := hZ.out.fz
      have xx := (hZ.out.set (.int .u64 ((dng F L L.length : Nat) : Int))).c
      have hBe := hide' (hB.out.setCell (p := ⟨w.heap.size, 0, none⟩) (Nat.le_refl _) (.int .u64 ((dng F L L.length : Nat) : Int)))
      go_wp2
      refine bodyPost_ret (v := .agg #[.int .u64 ((dng F L L.length : Nat) : Int)]) (by simp [results, Tryz.results49, go_sem, xx]) rfl ?_
      exact ⟨rfl, hBe.out⟩
end Go.Proofs.YtmbdnhgmpmnhmaaGreatDoor.S
namespace Go.Proofs.YtmbdnhgmpmnhmaaGreatDoor.S
open Go.RowKit Go.Shelf
/-- Words of doers, each of a plan that was found. -/
def DoG (P : Pb) (d : Nat) : Prop := d < 18446744073709551616 ∧ ∃ x L, x < 18446744073709551616 ∧ holP (lesP P x) L = true ∧ d = dng P.fixed L P.who.length
theorem doG_can {P : Pb} (hC : chkN P = 0) {d y : Nat} (h : DoG P d) (hy : y < 18446744073709551616) (hd : d &&& y = 0) : canB (lesP P y) = true := by
  obtain ⟨_, x, L, h1, h2, h3⟩ := h
  rw [h3] at hd
  exact les_doers hC h1 hy h2 hd
def trF (P : Pb) (wv fv rv : Value) (gs : Nat) (dv : Value) : Nat → Value := fun i => if i = 0 then .int .i64 P.users else if i = 1 then wv else if i = 2 then fv else if i = 3 then rv else if i = 4 then .pointer (some ⟨gs, 0, none⟩) else dv
def TrB (V : World) (gt : Nat) (P : Pb) (wv fv rv : Value) (gs : Nat) (dv : Value) : Prop := V.rowIs gt 69 6 (trF P wv fv rv gs dv)
section
variable {V V' : World} {gt gs : Nat} {P : Pb} {wv fv rv dv : Value}
theorem TrB.lt (h : TrB V gt P wv fv rv gs dv) : gt < V.heap.size := World.rowIs.lt h
theorem TrB.of (h : TrB V gt P wv fv rv gs dv) (e : V'.heap[gt]? = V.heap[gt]?) : TrB V' gt P wv fv rv gs dv := World.rowIs.of_block h e
theorem TrB.c0 (h : TrB V gt P wv fv rv gs dv) : V.cell? ⟨gt, 0, none⟩ = some (.int .i64 P.users) := World.rowIs.cell h (i := 0) (by decide)
theorem TrB.c1 (h : TrB V gt P wv fv rv gs dv) : V.cell? ⟨gt, 1, none⟩ = some wv := World.rowIs.cell h (i := 1) (by decide)
theorem TrB.c2 (h : TrB V gt P wv fv rv gs dv) : V.cell? ⟨gt, 2, none⟩ = some fv := World.rowIs.cell h (i := 2) (by decide)
theorem TrB.c3 (h : TrB V gt P wv fv rv gs dv) : V.cell? ⟨gt, 3, none⟩ = some rv := World.rowIs.cell h (i := 3) (by decide)
theorem TrB.c4 (h : TrB V gt P wv fv rv gs dv) : V.cell? ⟨gt, 4, none⟩ = some (.pointer (some ⟨gs, 0, none⟩)) := World.rowIs.cell h (i := 4) (by decide)
theorem TrB.c5 (h : TrB V gt P wv fv rv gs dv) : V.cell? ⟨gt, 5, none⟩ = some dv := World.rowIs.cell h (i := 5) (by decide)
theorem TrB.frz (h : TrB V gt P wv fv rv gs dv) (i : Nat) : V.frozen? ⟨gt, i, none⟩ = false := World.rowIs.frozen h i
theorem TrB.s5 (h : TrB V gt P wv fv rv gs dv) (v : Value) : TrB (V.setCell ⟨gt, 5, none⟩ v) gt P wv fv rv gs v :=
  World.rowIs.congr (World.rowIs.set h 5 v) fun i hi => by
    match i, hi with
    | 0, _ => rfl
    | 1, _ => rfl
    | 2, _ => rfl
    | 3, _ => rfl
    | 4, _ => rfl
    | 5, _ => rfl
end
theorem own_ne_gs {W : World} {B e sz : Nat} {v : Value} {n : Nat} {xs : List Value} {gs a b c : Nat} (h : W.ownsRow B e sz v n xs) (hq : GgAt W gs a b c) (he : e ≠ 86) {g : Nat} (hg : v.ownBlock = some g) : g ≠ gs := fun q => by
  subst q
  obtain ⟨c1, f1, h1⟩ := Go.Lib.ownsRow_kind h g hg
  obtain ⟨c2, h2, _⟩ := hq
  rw [h1] at h2
  injection h2 with h2
  injection h2 with _ h2
  exact he h2
/-- What stands: V0 is the world ahead of the trial's own block. -/
structure Tr (V0 : World) (gs : Nat) (P : Pb) (wv fv rv dv : Value) (D : List Nat) (a b c : Nat) (V : World) : Prop where
  tb : TrB V V0.heap.size P wv fv rv gs dv
  p0 : PbV V0 P wv fv rv
  g0 : ∃ a b c, GgAt V0 gs a b c
  t0 : M.Tab V0
  fr : M.Fr2 V0 V gs gs
  gg : GgAt V gs a b c
  dr : V.ownsRow (V0.heap.size + 1) 50 1 dv D.length (cellsW D)
  inv : ∀ d ∈ D, DoG P d
  hG : 1 ≤ gs
  nwv : ∀ ad n c, wv = .slice (some ad) n c → ad.block ≠ gs
section
variable {V0 : World} {gs : Nat} {P : Pb} {wv fv rv dv : Value} {D : List Nat} {a b c a' b' c' : Nat} {V V' : World}
theorem Tr.gl (h : Tr V0 gs P wv fv rv dv D a b c V) : gs < V0.heap.size := by obtain ⟨_, _, _, q⟩ := h.g0; exact q.lt
theorem Tr.pv (h : Tr V0 gs P wv fv rv dv D a b c V) : PbV V P wv fv rv := by obtain ⟨_, _, _, q⟩ := h.g0; exact pbV_frame h.p0 q h.nwv h.fr
theorem Tr.tab (h : Tr V0 gs P wv fv rv dv D a b c V) : M.Tab V := tab_frame h.t0 h.hG h.fr
theorem Tr.sz (h : Tr V0 gs P wv fv rv dv D a b c V) : V0.heap.size + 1 ≤ V.heap.size := h.tb.lt
theorem Tr.frr (h : Tr V0 gs P wv fv rv dv D a b c V) (hf : M.Fr2 V V' gs gs) (hg : GgAt V' gs a' b' c') : Tr V0 gs P wv fv rv dv D a' b' c' V' := by
  have hl := h.gl
  exact ⟨h.tb.of (hf.block _ h.tb.lt (by omega) (by omega)), h.p0, h.g0, h.t0, h.fr.trans hf, hg, own_same h.dr fun g h1 h2 => (by have := own_ge' h.dr h2; exact hf.block g h1 (by omega) (by omega)), h.inv, h.hG, h.nwv⟩
theorem Tr.over (h : Tr V0 gs P wv fv rv dv D a b c V) (hb : Below V.heap.size V V') : Tr V0 gs P wv fv rv dv D a b c V' := h.frr (.below hb) (h.gg.below hb)
/-- A word of doers more. -/
theorem Tr.wapp {W : World} {o : Oper} {ac : Act} {Q : Exit → Act → World → Prop} {K : Act → World → Prop} (s y : Operand) (T : TypeId) (h : Tr V0 gs P wv fv rv dv D a b c W) (z : Nat) (hz : DoG P z) (ho : o.op = .call { callee := .builtin .append, args := #[s, y], argTypes := #[T, T] }) (hT : Tryz.prog.underlying T = some (.slice 50)) (hI : (Tryz.prog.info? 50).map (fun i => (i.zero, i.size, i.bytes)) = some (some (.agg #[.int .u64 0]), 1, 8))
    (es : ac.eval s = dv) (ex : ac.eval y = .slice (some ⟨W.heap.size, 0, none⟩) 1 1) (hn : D.length ≤ 1000000)
    (hK : ∀ g5 n5 c5 w2, Hid (TrB w2 V0.heap.size P wv fv rv gs dv) → Hid (Tr V0 gs P wv fv rv (.slice (some ⟨g5, 0, none⟩) n5 c5) (D ++ [z]) a b c (w2.setCell ⟨V0.heap.size, 5, none⟩ (.slice (some ⟨g5, 0, none⟩) n5 c5))) → Hid (W.heap.size ≤ w2.heap.size ∧ ∀ k, k < W.heap.size → dv.ownBlock ≠ some k → w2.heap[k]? = W.heap[k]?) → Hid (dv.ownBlock = some g5 ∨ W.heap.size ≤ g5) → K (ac.put o.dst (.slice (some ⟨g5, 0, none⟩) n5 c5)) w2) : o.wp Tryz.prog ac (W.alloc (.cells #[.int .u64 (z : Int)] 50)) K Q := by
  obtain ⟨i0, hi, hz0, hz1, hz2⟩ := info_parts hI
  have hs := h.sz
  have hl := h.gl
  have hA := h.over ((Below.refl _ W).alloc (Nat.le_refl _) (.cells #[.int .u64 (z : Int)] 50))
  refine wp_append_lies _ s y T ho (V0.heap.size + 1) 50 i0 (.agg #[.int .u64 0]) 1 8 hT hi hz0 hz1 hz2 rfl (by decide) dv D.length (cellsW D) es hA.dr ⟨W.heap.size, 0, none⟩ 1 1 [.int .u64 (z : Int)] ex rfl (World.news_of_block (cs := #[.int .u64 (z : Int)]) (heap_new _ _)) (by simp [Value.oneCell']) (by decide) (by unfold maxLen; omega) (by omega) (by simp; omega) _ rfl ?_
  intro g5 c5 w2 hown hgrow hat _
  have hb : Below (V0.heap.size + 1) W w2 := ((Below.refl _ W).alloc hs _).grown hgrow (by simp; omega) (fun j ej => own_ge' h.dr ej)
  have htb : TrB w2 V0.heap.size P wv fv rv gs dv := h.tb.of (hb.block _ (by omega))
  have hset : ∀ k, k ≠ V0.heap.size → (w2.setCell ⟨V0.heap.size, 5, none⟩ (.slice (some ⟨g5, 0, none⟩) (D.length + 1) c5)).heap[k]? = w2.heap[k]? := fun k e => Below.heap_setCell _ _ _ _ e
  refine hK g5 _ c5 w2 htb ⟨htb.s5 _, h.p0, h.g0, h.t0, ⟨hb.os.trans h.fr.os, hb.tape.trans h.fr.tape, hb.output.trans h.fr.output, ?_, fun k h1 h2 h3 => ?_⟩, World.rowIs.of_block h.gg (by rw [hset _ (by omega), hb.block _ (by omega)]), ?_, fun d hd => ?_, h.hG, h.nwv⟩ ⟨hb.size, fun k h1 h2 => ?_⟩ (hat.imp id fun e => by rw [e, World.size_alloc]; omega)
  · have := hb.size; have := h.fr.size; simp [World.setCell]; omega
  · rw [hset k (by omega), hb.block k (by omega)]; exact h.fr.block k h1 h2 h3
  · rw [List.length_append]
    have e : cellsW (D ++ [z]) = cellsW D ++ [.int .u64 (z : Int)] := by unfold cellsW; rw [List.map_append]; rfl
    rw [e]
    exact own_set hown (Nat.lt_succ_self _) _
  · rcases List.mem_append.1 hd with q | q
    · exact h.inv d q
    · rw [List.mem_singleton] at q; rw [q]; exact hz
  · rw [hgrow.block k (by simp; omega) (fun e => h2 e.symm), ((Below.refl W.heap.size W).alloc (Nat.le_refl _) _).block k h1]
end
end Go.Proofs.YtmbdnhgmpmnhmaaGreatDoor.S
namespace Go.Proofs.YtmbdnhgmpmnhmaaGreatDoor.S
open Go.RowKit Go.Shelf
/-- Least, with one way out. -/
def Le1 (V : World) (X : Pb) (gs a b c : Nat) (e : Ending) (w' : World) : Prop :=
  ∃ o n k, e = .returned (.tuple #[.slice o n k, .bool (canB X)]) ∧ Hid (canB X = true → ∃ L, holP X L = true ∧ RowI w' (.slice o n k) L) ∧ (∃ a' b' c', Hid (GgAt w' gs a' b' c') ∧ Hid (a' ≤ a + 4000000000000 ∧ b' ≤ b + 4000000000000 ∧ c' ≤ c + 4000000000000)) ∧ Hid (M.Fr2 V w' gs gs)
theorem le1_of {V : World} {X : Pb} {gs a b c : Nat} {e : Ending} {w' : World} (h : LeP V X gs a b c e w') : Le1 V X gs a b c e w' := by
  obtain ⟨⟨a', b', c', h1, h2⟩, h3, ⟨rfl, h5⟩ | ⟨v, l, rfl, h5, h6⟩⟩ := h
  · have hc : canB X = false := by
      cases q : canB X with
      | false => rfl
      | true => obtain ⟨L, hL⟩ := (canB_iff _).1 q; rw [h5.out L] at hL; cases hL
    have hle := h2.out.le (by decide)
    exact ⟨none, 0, 0, by rw [hc], (fun q => by rw [hc] at q; cases q), ⟨a', b', c', h1, ⟨by omega, by omega, by omega⟩⟩, h3⟩
  · have hc : canB X = true := (canB_iff _).2 ⟨l, h5.out.1⟩
    obtain ⟨o, k, rfl⟩ := own_shp h6.out
    have hle := h2.out.le (by decide)
    exact ⟨o, _, k, by rw [hc], (fun _ => ⟨l, h5.out.1, RowI.of_owns h6.out⟩), ⟨a', b', c', h1, ⟨by omega, by omega, by omega⟩⟩, h3⟩
/-- What bears answers. -/
def BeP (V0 : World) (gs : Nat) (P : Pb) (wv fv rv dv : Value) (D : List Nat) (a b c x : Nat) (V : World) (e : Ending) (w' : World) : Prop :=
  e = .returned (.bool (canB (lesP P x))) ∧ ∃ dv' D' a' b' c', Hid (Tr V0 gs P wv fv rv dv' D' a' b' c' w') ∧ Hid (a' ≤ a + 4000000000000 ∧ b' ≤ b + 4000000000000 ∧ c' ≤ c + 4000000000000 ∧ D'.length ≤ D.length + 1) ∧ Hid (V.heap.size ≤ w'.heap.size ∧ (∀ k, k < V.heap.size → k ≠ V0.heap.size → k ≠ gs → dv.ownBlock ≠ some k → w'.heap[k]? = V.heap[k]?) ∧ (∀ k, dv'.ownBlock = some k → dv.ownBlock = some k ∨ V.heap.size ≤ k))
set_option maxRecDepth 100000 in
set_option maxHeartbeats 8000000 in
theorem bearsF (V0 : World) (gs : Nat) (P : Pb) (wv fv rv dv : Value) (D : List Nat) (a b c x : Nat) (V : World) (h : Tr V0 gs P wv fv rv dv D a b c V) (hk : Pok P) (hC : chkN P = 0) (hx : x < 18446744073709551616) (hD : D.length ≤ 1000000) (ha : a ≤ 1152921504606846976) (hb : b ≤ 1152921504606846976) (hc : c ≤ 1152921504606846976) :
    Calls Tryz.prog 29 #[.pointer (some ⟨V0.heap.size, 0, none⟩), .agg #[.int .u64 (x : Int)]] V (BeP V0 gs P wv fv rv dv D a b c x V) := by
  have hB0 : Hid (Below V.heap.size V (V.alloc (.cells #[.int .u64 (x : Int)] 50))) := (Below.refl _ V).alloc (Nat.le_refl _) _
  have hT0 := hide' (h.over hB0.out)
  have hL0 : Hid (Bo (V.alloc (.cells #[.int .u64 (x : Int)] 50)) V.heap.size (.int .u64 (x : Int))) := Bo.new V _ _
  have hC' := hide' hC
  have hk' := hide' hk
  obtain ⟨od, cd, rfl⟩ := own_shp h.dr
  obtain ⟨ow, cw, of, cf, or, cr, rfl, rfl, rfl⟩ := h.pv.shape
  have hbd : Hid (a ≤ 1152921504606846976 ∧ b ≤ 1152921504606846976 ∧ c ≤ 1152921504606846976) := ⟨ha, hb, hc⟩
  have hinv := hide' h.inv
  have hVl : Hid (V0.heap.size < V.heap.size) := h.tb.lt
  clear h hk hC ha hb hc
  have p5 := hT0.out.tb.c5
  go_enter Tryz.func29, Tryz.ntmps29
  go_upto_block 0 with fail
  generalize V.alloc (.cells #[.int .u64 (x : Int)] 50) = V1 at *
  clear p5
  go_wp2
  go_loopw [14, 6] (fun kv _ wr => ∃ j : Nat, j ≤ D.length ∧ kv = .int .i64 (j : Int) ∧ Hid (Tr V0 gs P (.slice ow P.who.length cw) (.slice of P.fixed.length cf) (.slice or P.rules.length cr) (.slice od D.length cd) D a b c wr) ∧ Hid (Bo wr V.heap.size (.int .u64 (x : Int))) ∧ Hid (Below V.heap.size V wr)) (fun kv _ _ => ((D.length : Int) - intOf kv).toNat)
  case atStart => exact ⟨0, Nat.zero_le _, rfl, hT0, hL0, hB0⟩
  case round =>
    clear hT0 hL0 hB0
    obtain ⟨j, hj, rfl, hT, hL, hB⟩ := hrel
    by_cases hlt : j < D.length
    · as_aux_lemma =>
      have hlt' : (j : Int) < (D.length : Int) := by omega
      obtain ⟨d, hd⟩ : ∃ d, D[j]? = some d := ⟨_, List.getElem?_eq_getElem hlt⟩
      obtain ⟨g2, hod⟩ : ∃ g2, od = some ⟨g2, 0, none⟩ := by
        rcases hT.out.dr.2 with ⟨e, e'⟩ | ⟨g2, cap, cur, e, _⟩
        · omega
        · injection e with e2; exact ⟨g2, e2⟩
      subst hod
      have dc : wr.cell? ⟨g2, j, none⟩ = some (.int .u64 (d : Int)) := by
        rw [hT.out.dr.cellAt j (by omega)]; unfold cellsW; rw [List.getElem?_map, hd]; rfl
      have hdg := hide' (hinv.out d (List.mem_of_getElem? hd))
      have hdl := hdg.out.1
      have hB1 : Hid (Below wr.heap.size wr (wr.alloc (.cells #[.int .u64 (d : Int)] 50))) := (Below.refl _ wr).alloc (Nat.le_refl _) _
      have lc := (hL.out.over hB1.out).c
      have KM := hide' (M.meets64 d x hdl hx (wr.alloc (.cells #[.int .u64 (d : Int)] 50)))
      obtain ⟨mb, hmb⟩ : ∃ q, q = ((d &&& x : Nat) != 0) := ⟨_, rfl⟩
      rw [← hmb] at KM
      have hmb' := hide' hmb
      clear hmb hd
      cases mb
      · have hcan : Hid (canB (lesP P x) = true) := doG_can hC'.out hdg.out hx (by have := hmb'.out.symm; simpa using this)
        go_wp2_with (go_at_call 47; refine KM.out.mono ?_; rintro e w5 ⟨rfl, hb5⟩)
        go_ret
        unfold BeP
        rw [hcan.out]
        have hb6 : Below wr.heap.size wr w5 := hB1.out.trans (hb5.mono hB1.out.size)
        have hb7 : Below V.heap.size V w5 := hB.out.trans (hb6.mono hB.out.size)
        exact ⟨rfl, _, D, a, b, c, hT.out.over hb6, ⟨by omega, by omega, by omega, by omega⟩, ⟨hb7.size, fun k h1 _ _ _ => hb7.block k h1, fun k e => .inl e⟩⟩
      · go_wp2_with (go_at_call 47; refine KM.out.mono ?_; rintro e w5 ⟨rfl, hb5⟩)
        have hb6 : Below wr.heap.size wr w5 := hB1.out.trans (hb5.mono hB1.out.size)
        exact ⟨⟨j + 1, by omega, by go_num, hT.out.over hb6, hL.out.over hb6, hB.out.trans (hb6.mono hB.out.size)⟩, by simp [intOf]; omega⟩
    · obtain rfl : j = D.length := by omega
      have KLs : Hid (∀ W, Tr V0 gs P (.slice ow P.who.length cw) (.slice of P.fixed.length cf) (.slice or P.rules.length cr) (.slice od D.length cd) D a b c W → Calls Tryz.prog 20 #[.agg #[.int .i64 P.users, .slice ow P.who.length cw, .slice of P.fixed.length cf, .slice or P.rules.length cr], .agg #[.int .u64 (x : Int)]] W (RsP W (lesP P x))) := fun W hW => lessF P _ _ _ x hx W hW.pv hk'.out
      have KLe : Hid (∀ W x1 x2 x3, Tr V0 gs P (.slice ow P.who.length cw) (.slice of P.fixed.length cf) (.slice or P.rules.length cr) (.slice od D.length cd) D a b c W → PbV W (lesP P x) x1 x2 x3 → (∀ ad n c, x1 = .slice (some ad) n c → ad.block ≠ gs) → Calls Tryz.prog 48 #[.pointer (some ⟨gs, 0, none⟩), .agg #[.int .i64 (lesP P x).users, x1, x2, x3]] W (Le1 W (lesP P x) gs a b c)) := fun W x1 x2 x3 hW hX hn => (leastPF (lesP P x) x1 x2 x3 gs a b c W hX (lesP_ok hk'.out x) hW.gg hW.hG hW.tab hn hbd.out.1 hbd.out.2.1 hbd.out.2.2).mono fun _ _ q => le1_of q
      unfold RsP at KLs
      unfold Le1 at KLe
      have hDo : Hid (∀ L, holP (lesP P x) L = true → DoG P (dng P.fixed L P.who.length) ∧ L.length = P.fixed.length ∧ L.length = P.who.length ∧ ∀ z ∈ L, 0 ≤ z ∧ z < 64) := fun L hL => by
        obtain ⟨g12, g0, g64, g32, gF, gW, gR⟩ := chkN_zero hC'.out
        obtain ⟨_, h2, h3, _⟩ := holP_of hL
        have h2' : L.length = P.who.length := h2.trans (List.length_map _)
        have hz : ∀ z ∈ L, 0 ≤ z ∧ z < 64 := fun z hz => by
          obtain ⟨t, ht⟩ := List.getElem?_of_mem hz
          have h4 := h3 t z ht
          unfold okU isU at h4
          simp only [Bool.and_eq_true, decide_eq_true_eq] at h4
          have h5 : z < P.users := h4.1.2
          omega
        refine ⟨⟨?_, x, L, hx, hL, rfl⟩, by rw [h2', (fixB_of gF g64).1], h2', hz⟩
        have := dng_lt (F := P.fixed) (L := L) (fun t z hz' => by have := hz z (List.mem_of_getElem? hz'); omega) P.who.length (by omega)
        exact this
      have hUs : Hid ((lesP P x).users = P.users) := rfl
      obtain ⟨X, hXq'⟩ : ∃ X, X = lesP P x := ⟨_, rfl⟩
      have hXq : Hid (lesP P x = X) := hXq'.symm
      rw [← hXq'] at KLs KLe hDo hUs
      clear hXq'
      go_upto_region 7 with fail
      have hTd := hide' (hT.out.over (Below.refl _ wr).drew)
      have hLd := hide' (hL.out.over (Below.refl _ wr).drew)
      have hBd : Hid (Below V.heap.size V wr.drew) := hB.out.drew
      clear hT hL hB
      have hcl : Hid (∀ W a b c, Tr V0 gs P (.slice ow P.who.length cw) (.slice of P.fixed.length cf) (.slice or P.rules.length cr) (.slice od D.length cd) D a b c W → Bo W V.heap.size (.int .u64 (x : Int)) → W.cell? ⟨V0.heap.size, 0, none⟩ = some (.int .i64 P.users) ∧ W.cell? ⟨V0.heap.size, 1, none⟩ = some (.slice ow P.who.length cw) ∧ W.cell? ⟨V0.heap.size, 2, none⟩ = some (.slice of P.fixed.length cf) ∧ W.cell? ⟨V0.heap.size, 3, none⟩ = some (.slice or P.rules.length cr) ∧ W.cell? ⟨V0.heap.size, 4, none⟩ = some (.pointer (some ⟨gs, 0, none⟩)) ∧ W.cell? ⟨V.heap.size, 0, none⟩ = some (.int .u64 (x : Int))) := fun W a b c hW hl => ⟨hW.tb.c0, hW.tb.c1, hW.tb.c2, hW.tb.c3, hW.tb.c4, hl.c⟩
      have hgl := hTd.out.gl
      have hgV : V0.heap.size < V.heap.size := hVl.out
      go_region_held3 (fun W => W.cell? ⟨V0.heap.size, 0, none⟩ = some (.int .i64 P.users) ∧ W.cell? ⟨V0.heap.size, 1, none⟩ = some (.slice ow P.who.length cw) ∧ W.cell? ⟨V0.heap.size, 2, none⟩ = some (.slice of P.fixed.length cf) ∧ W.cell? ⟨V0.heap.size, 3, none⟩ = some (.slice or P.rules.length cr) ∧ W.cell? ⟨V0.heap.size, 4, none⟩ = some (.pointer (some ⟨gs, 0, none⟩)) ∧ W.cell? ⟨V.heap.size, 0, none⟩ = some (.int .u64 (x : Int))) (first | (exact hcl.out _ _ _ _ hTd.out hLd.out) | (exact hcl.out _ _ _ _ hT6.out hL6.out) | (exact hcl.out _ _ _ _ hT7.out hL7.out)) (first | (go_at_call 48; refine (KLe.out _ _ _ _ hT6.out hV6.out hn6'.out).mono ?_; rintro e w7 ⟨o7, n7, k7, rfl, hL7w, ⟨a7, b7, c7, hg7, hle7⟩, hf7⟩; have hT7 := hide' (hT6.out.frr hf7.out hg7.out); have hL7 := hide' (hL6.out.of (hf7.out.block _ hL6.out.lt (by omega) (by omega)))) | (go_at_call 20; refine (KLs.out _ hTd.out).mono ?_; rintro e w6 ⟨p1, m1, d1, p2, m2, d2, p3, m3, d3, rfl, hV6, hb6, hn6, _⟩; have hT6 := hide' (hTd.out.over hb6.out); have hL6 := hide' (hLd.out.over hb6.out); have hn6' : Hid (∀ ad n c, Value.slice p1 m1 d1 = .slice (some ad) n c → ad.block ≠ gs) := (fun ad n c e => by have := hn6.out ad n c e; have := hTd.out.sz; omega)))
      have hbV6 : Hid (Below V.heap.size V w6) := hBd.out.trans (hb6.out.mono hBd.out.size)
      have hfrV : Hid (V.heap.size ≤ w7.heap.size ∧ ∀ k, k < V.heap.size → k ≠ gs → w7.heap[k]? = V.heap[k]?) := ⟨Nat.le_trans hbV6.out.size hf7.out.size, fun k h1 h2 => (hf7.out.block k (Nat.lt_of_lt_of_le h1 hbV6.out.size) h2 h2).trans (hbV6.out.block k h1)⟩
      generalize hcb : canB X = cb at *
      clear KLs KLe hcl hTd hLd hBd hT6 hL6 hV6 hb6 hn6 hn6' hbV6 hf7 hg7
      cases cb
      · as_aux_lemma =>
        go_wp2
        go_ret
        unfold BeP
        rw [hXq.out, hcb]
        exact ⟨rfl, _, D, a7, b7, c7, hT7, ⟨hle7.out.1, hle7.out.2.1, hle7.out.2.2, by omega⟩, ⟨hfrV.out.1, fun k h1 _ h3 _ => hfrV.out.2 k h1 h3, fun k e => .inl e⟩⟩
      · as_aux_lemma =>
        obtain ⟨L, hLh, hLr⟩ := hL7w.out rfl
        obtain ⟨hdo, hl1, hl2, hl3⟩ := hDo.out L hLh
        have hwl := hk'.out.w
        have KDo : Hid (∀ W, Tr V0 gs P (.slice ow P.who.length cw) (.slice of P.fixed.length cf) (.slice or P.rules.length cr) (.slice od D.length cd) D a7 b7 c7 W → RowI W (.slice o7 n7 k7) L → Calls Tryz.prog 49 #[.pointer (some ⟨V0.heap.size, 0, none⟩), .slice o7 n7 k7] W fun e w' => e = .returned (.agg #[.int .u64 ((dng P.fixed L P.who.length : Nat) : Int)]) ∧ Below W.heap.size W w') := fun W hW hR => by
          have := doingF V0.heap.size P.fixed L _ _ W hW.tb.c2 hW.pv.fixed hR hl1 (by omega) hl3
          rw [hl2] at this
          exact this
        have hdo' := hide' hdo
        have hLr' := hide' hLr
        generalize dng P.fixed L P.who.length = d9 at *
        clear hdo hLh hLr hl1 hl2 hl3 hwl hDo hL7w hL7
        go_upto_region 9 with fail
        have hTd := hide' (hT7.out.over (Below.refl _ w7).drew)
        have hRd := hide' (hLr'.out.below (Below.refl _ w7).drew (Nat.le_refl _))
        have c5d := hTd.out.tb.c5
        clear hT7 hLr'
        refine wp_region_held_drew (S := (fun _ => True)) (by kernel_rfl) ?_ (fun hHeld => ?_)
        · trivial
        refine wpAnyH_take (i := 0) (oi := { dst := some 38, op := Op.move (Operand.tmp 0), type := 54, pos := "trial.go:33", after := #[], guard := none }) (v := ?_) rfl (by kernel_rfl) (by kernel_rfl) (by kernel_rfl) (fun _ _ _ h => h) (Or.inl ⟨by rfl, ?_⟩) (by assumption) ?_
        rotate_left
        · intro w hSw; (try dsimp only at hSw); go_simp <;> with_reducible rfl
        simp only [Act.put, List.setIfInBounds_toArray, List.set_cons_zero, List.set_cons_succ]
        refine wpAnyH_take (i := 1) (oi := { dst := some 39, op := Op.move (Operand.tmp 0), type := 54, pos := "trial.go:33", after := #[], guard := none }) (v := ?_) rfl (by kernel_rfl) (by kernel_rfl) (by kernel_rfl) (fun _ _ _ h => h) (Or.inl ⟨by rfl, ?_⟩) (by assumption) ?_
        rotate_left
        · intro w hSw; (try dsimp only at hSw); go_simp <;> with_reducible rfl
        simp only [Act.put, List.setIfInBounds_toArray, List.set_cons_zero, List.set_cons_succ]
        refine wpAnyH_take (i := 2) (oi := { dst := some 40, op := Op.nilCheck (Operand.tmp 39), type := 0, pos := "trial.go:33", after := #[{ on := 1, ground := Ground.data }], guard := none }) (v := ?_) rfl (by kernel_rfl) (by kernel_rfl) (by kernel_rfl) (fun _ _ _ h => h) (Or.inl ⟨by rfl, ?_⟩) (by assumption) ?_
        rotate_left
        · intro w hSw; (try dsimp only at hSw); go_simp <;> with_reducible rfl
        simp only [Act.put, List.setIfInBounds_toArray, List.set_cons_zero, List.set_cons_succ]
        refine wpAnyH_take (i := 3) (oi := { dst := some 41, op := Op.fieldAddr 69 (Operand.tmp 40) 2, type := 0, pos := "trial.go:33", after := #[{ on := 2, ground := Ground.data }], guard := none }) (v := ?_) rfl (by kernel_rfl) (by kernel_rfl) (by kernel_rfl) (fun _ _ _ h => h) (Or.inl ⟨by rfl, ?_⟩) (by assumption) ?_
        rotate_left
        · intro w hSw; (try dsimp only at hSw); go_simp <;> with_reducible rfl
        simp only [Act.put, List.setIfInBounds_toArray, List.set_cons_zero, List.set_cons_succ]
        refine wpAnyH_take (i := 5) (oi := { dst := some 43, op := Op.move (Operand.tmp 0), type := 54, pos := "trial.go:33", after := #[], guard := none }) (v := ?_) rfl (by kernel_rfl) (by kernel_rfl) (by kernel_rfl) (fun _ _ _ h => h) (Or.inl ⟨by rfl, ?_⟩) (by assumption) ?_
        rotate_left
        · intro w hSw; (try dsimp only at hSw); go_simp <;> with_reducible rfl
        simp only [Act.put, List.setIfInBounds_toArray, List.set_cons_zero, List.set_cons_succ]
        refine wpAnyH_take (i := 6) (oi := { dst := some 44, op := Op.move (Operand.tmp 7), type := 23, pos := "trial.go:33", after := #[], guard := none }) (v := ?_) rfl (by kernel_rfl) (by kernel_rfl) (by kernel_rfl) (fun _ _ _ h => h) (Or.inl ⟨by rfl, ?_⟩) (by assumption) ?_
        rotate_left
        · intro w hSw; (try dsimp only at hSw); go_simp <;> with_reducible rfl
        simp only [Act.put, List.setIfInBounds_toArray, List.set_cons_zero, List.set_cons_succ]
        refine wpAnyH_ready (rs := [4, 7]) (by kernel_rfl) (by simp) ?_
        refine AllReadyH.cons (o := { dst := some 42, op := Op.load 67 (Operand.tmp 41), type := 67, pos := "trial.go:33", after := #[{ on := 3, ground := Ground.data }], guard := none }) rfl (fun K hK => ?_) ?_
        · skip
          go_simp
          refine hK.out _ _ ?_ (fun hHeld => ?_)
          · trivial
          clear hK K
          try simp only [Act.put, List.setIfInBounds_toArray, List.set_cons_zero, List.set_cons_succ]
          refine wpAnyH_ready (rs := [7]) (by kernel_rfl) (by simp) ?_
          refine AllReadyH.cons (o := { dst := some 45, op := Op.call { callee := Callee.value (Operand.func 49), args := #[Operand.tmp 43, Operand.tmp 44], argTypes := #[54, 23] }, type := 50, pos := "trial.go:33", after := #[{ on := 5, ground := Ground.data }, { on := 6, ground := Ground.data }], guard := none }) rfl (fun K hK => ?_) AllReadyH.nil
          go_simp
          go_at_call 49; refine (KDo.out _ hTd.out hRd.out).mono ?_; rintro e v7 ⟨rfl, hb7⟩; have hT8 := hide' (hTd.out.over hb7); have c5b := hT8.out.tb.c5; (try dsimp only)
          refine hK.out _ _ ?_ (fun hHeld => ?_)
          · trivial
          clear hK K
          try simp only [Act.put, List.setIfInBounds_toArray, List.set_cons_zero, List.set_cons_succ]
          refine wpAnyH_ready (rs := [8]) (by kernel_rfl) (by simp) ?_
          refine AllReadyH.cons (o := { dst := some 46, op := Op.buildSlice 67 1 #[(0, Operand.tmp 45)], type := 67, pos := "trial.go:33", after := #[{ on := 7, ground := Ground.data }], guard := none }) rfl (fun K hK => ?_) AllReadyH.nil
          go_simp
          have c5c := (hT8.out.over ((Below.refl _ v7).alloc (Nat.le_refl _) (.cells #[.int .u64 (d9 : Int)] 50))).tb.c5; (try dsimp only)
          refine hK.out _ _ ?_ (fun hHeld => ?_)
          · trivial
          clear hK K
          try simp only [Act.put, List.setIfInBounds_toArray, List.set_cons_zero, List.set_cons_succ]
          refine wpAnyH_ready (rs := [9]) (by kernel_rfl) (by simp) ?_
          refine AllReadyH.cons (o := { dst := some 47, op := Op.call { callee := Callee.builtin Builtin.append, args := #[Operand.tmp 42, Operand.tmp 46], argTypes := #[67, 67] }, type := 67, pos := "trial.go:33", after := #[{ on := 4, ground := Ground.data }, { on := 8, ground := Ground.data }, { on := 7, ground := Ground.chain }], guard := none }) rfl (fun K hK => ?_) AllReadyH.nil
          rw [if_pos (by rfl)]
          refine Tr.wapp _ _ _ hT8.out d9 hdo'.out rfl (by kernel_rfl) (by kernel_rfl) rfl rfl hD ?_; intro g5 n5 c5 v9 hq9 hT9 hf9 hat9; have f9 := hq9.out.frz 5; have e9 := hq9.out.c5; (try dsimp only)
          refine hK.out _ _ ?_ (fun hHeld => ?_)
          · trivial
          clear hK K
          try simp only [Act.put, List.setIfInBounds_toArray, List.set_cons_zero, List.set_cons_succ]
          refine wpAnyH_take (i := 10) (oi := { dst := some 48, op := Op.nilCheck (Operand.tmp 38), type := 0, pos := "trial.go:33", after := #[{ on := 0, ground := Ground.data }, { on := 0, ground := Ground.phase }, { on := 1, ground := Ground.phase }, { on := 2, ground := Ground.phase }, { on := 3, ground := Ground.phase }, { on := 4, ground := Ground.phase }, { on := 5, ground := Ground.phase }, { on := 6, ground := Ground.phase }, { on := 7, ground := Ground.phase }, { on := 8, ground := Ground.phase }, { on := 9, ground := Ground.phase }], guard := none }) (v := ?_) rfl (by kernel_rfl) (by kernel_rfl) (by kernel_rfl) (fun _ _ _ h => h) (Or.inl ⟨by rfl, ?_⟩) (by assumption) ?_
          rotate_left
          · intro w hSw; (try dsimp only at hSw); go_simp <;> with_reducible rfl
          simp only [Act.put, List.setIfInBounds_toArray, List.set_cons_zero, List.set_cons_succ]
          refine wpAnyH_take (i := 11) (oi := { dst := some 49, op := Op.fieldAddr 69 (Operand.tmp 48) 2, type := 0, pos := "trial.go:33", after := #[{ on := 10, ground := Ground.data }, { on := 0, ground := Ground.phase }, { on := 1, ground := Ground.phase }, { on := 2, ground := Ground.phase }, { on := 3, ground := Ground.phase }, { on := 4, ground := Ground.phase }, { on := 5, ground := Ground.phase }, { on := 6, ground := Ground.phase }, { on := 7, ground := Ground.phase }, { on := 8, ground := Ground.phase }, { on := 9, ground := Ground.phase }], guard := none }) (v := ?_) rfl (by kernel_rfl) (by kernel_rfl) (by kernel_rfl) (fun _ _ _ h => h) (Or.inl ⟨by rfl, ?_⟩) (by assumption) ?_
          rotate_left
          · intro w hSw; (try dsimp only at hSw); go_simp <;> with_reducible rfl
          simp only [Act.put, List.setIfInBounds_toArray, List.set_cons_zero, List.set_cons_succ]
          refine wpAnyH_ready (rs := [12]) (by kernel_rfl) (by simp) ?_
          refine AllReadyH.cons (o := { dst := none, op := Op.store 67 (Operand.tmp 49) (Operand.tmp 47), type := 0, pos := "trial.go:33", after := #[{ on := 11, ground := Ground.data }, { on := 9, ground := Ground.data }, { on := 9, ground := Ground.chain }, { on := 0, ground := Ground.phase }, { on := 1, ground := Ground.phase }, { on := 2, ground := Ground.phase }, { on := 3, ground := Ground.phase }, { on := 4, ground := Ground.phase }, { on := 5, ground := Ground.phase }, { on := 6, ground := Ground.phase }, { on := 7, ground := Ground.phase }, { on := 8, ground := Ground.phase }, { on := 9, ground := Ground.phase }], guard := none }) rfl (fun K hK => ?_) AllReadyH.nil
          go_simp
          refine hK.out _ _ ?_ (fun hHeld => ?_)
          · trivial
          clear hK K
          try simp only [Act.put, List.setIfInBounds_toArray, List.set_cons_zero, List.set_cons_succ]
          refine wpAnyH_done (by kernel_rfl) ?_ _
          skip
          go_wp2
          go_ret
          unfold BeP
          rw [hXq.out, hcb]
          have hs1 : V.heap.size ≤ v7.heap.size := Nat.le_trans hfrV.out.1 hb7.size
          refine ⟨rfl, _, D ++ [d9], a7, b7, c7, hT9, ⟨hle7.out.1, hle7.out.2.1, hle7.out.2.2, by simp⟩, ⟨?_, fun k h1 h2 h3 h4 => ?_, fun k e => ?_⟩⟩
          · have := hf9.out.1; simp [World.setCell]; omega
          · exact (Below.heap_setCell _ _ _ _ h2).trans ((hf9.out.2 k (Nat.lt_of_lt_of_le h1 hs1) h4).trans ((hb7.block k (Nat.lt_of_lt_of_le h1 hfrV.out.1)).trans (hfrV.out.2 k h1 h3)))
          · have e' : some g5 = some k := e
            injection e' with e'
            subst e'
            exact hat9.out.imp id fun q => Nat.le_trans hs1 q
        refine AllReadyH.cons (o := { dst := some 45, op := Op.call { callee := Callee.value (Operand.func 49), args := #[Operand.tmp 43, Operand.tmp 44], argTypes := #[54, 23] }, type := 50, pos := "trial.go:33", after := #[{ on := 5, ground := Ground.data }, { on := 6, ground := Ground.data }], guard := none }) rfl (fun K hK => ?_) AllReadyH.nil
        go_simp
        go_at_call 49; refine (KDo.out _ hTd.out hRd.out).mono ?_; rintro e v7 ⟨rfl, hb7⟩; have hT8 := hide' (hTd.out.over hb7); have c5b := hT8.out.tb.c5; (try dsimp only)
        refine hK.out _ _ ?_ (fun hHeld => ?_)
        · trivial
        clear hK K
        try simp only [Act.put, List.setIfInBounds_toArray, List.set_cons_zero, List.set_cons_succ]
        refine wpAnyH_ready (rs := [4, 8]) (by kernel_rfl) (by simp) ?_
        refine AllReadyH.cons (o := { dst := some 42, op := Op.load 67 (Operand.tmp 41), type := 67, pos := "trial.go:33", after := #[{ on := 3, ground := Ground.data }], guard := none }) rfl (fun K hK => ?_) ?_
        · skip
          go_simp
          refine hK.out _ _ ?_ (fun hHeld => ?_)
          · trivial
          clear hK K
          try simp only [Act.put, List.setIfInBounds_toArray, List.set_cons_zero, List.set_cons_succ]
          refine wpAnyH_ready (rs := [8]) (by kernel_rfl) (by simp) ?_
          refine AllReadyH.cons (o := { dst := some 46, op := Op.buildSlice 67 1 #[(0, Operand.tmp 45)], type := 67, pos := "trial.go:33", after := #[{ on := 7, ground := Ground.data }], guard := none }) rfl (fun K hK => ?_) AllReadyH.nil
          go_simp
          have c5c := (hT8.out.over ((Below.refl _ v7).alloc (Nat.le_refl _) (.cells #[.int .u64 (d9 : Int)] 50))).tb.c5; (try dsimp only)
          refine hK.out _ _ ?_ (fun hHeld => ?_)
          · trivial
          clear hK K
          try simp only [Act.put, List.setIfInBounds_toArray, List.set_cons_zero, List.set_cons_succ]
          refine wpAnyH_ready (rs := [9]) (by kernel_rfl) (by simp) ?_
          refine AllReadyH.cons (o := { dst := some 47, op := Op.call { callee := Callee.builtin Builtin.append, args := #[Operand.tmp 42, Operand.tmp 46], argTypes := #[67, 67] }, type := 67, pos := "trial.go:33", after := #[{ on := 4, ground := Ground.data }, { on := 8, ground := Ground.data }, { on := 7, ground := Ground.chain }], guard := none }) rfl (fun K hK => ?_) AllReadyH.nil
          rw [if_pos (by rfl)]
          refine Tr.wapp _ _ _ hT8.out d9 hdo'.out rfl (by kernel_rfl) (by kernel_rfl) rfl rfl hD ?_; intro g5 n5 c5 v9 hq9 hT9 hf9 hat9; have f9 := hq9.out.frz 5; have e9 := hq9.out.c5; (try dsimp only)
          refine hK.out _ _ ?_ (fun hHeld => ?_)
          · trivial
          clear hK K
          try simp only [Act.put, List.setIfInBounds_toArray, List.set_cons_zero, List.set_cons_succ]
          refine wpAnyH_take (i := 10) (oi := { dst := some 48, op := Op.nilCheck (Operand.tmp 38), type := 0, pos := "trial.go:33", after := #[{ on := 0, ground := Ground.data }, { on := 0, ground := Ground.phase }, { on := 1, ground := Ground.phase }, { on := 2, ground := Ground.phase }, { on := 3, ground := Ground.phase }, { on := 4, ground := Ground.phase }, { on := 5, ground := Ground.phase }, { on := 6, ground := Ground.phase }, { on := 7, ground := Ground.phase }, { on := 8, ground := Ground.phase }, { on := 9, ground := Ground.phase }], guard := none }) (v := ?_) rfl (by kernel_rfl) (by kernel_rfl) (by kernel_rfl) (fun _ _ _ h => h) (Or.inl ⟨by rfl, ?_⟩) (by assumption) ?_
          rotate_left
          · intro w hSw; (try dsimp only at hSw); go_simp <;> with_reducible rfl
          simp only [Act.put, List.setIfInBounds_toArray, List.set_cons_zero, List.set_cons_succ]
          refine wpAnyH_take (i := 11) (oi := { dst := some 49, op := Op.fieldAddr 69 (Operand.tmp 48) 2, type := 0, pos := "trial.go:33", after := #[{ on := 10, ground := Ground.data }, { on := 0, ground := Ground.phase }, { on := 1, ground := Ground.phase }, { on := 2, ground := Ground.phase }, { on := 3, ground := Ground.phase }, { on := 4, ground := Ground.phase }, { on := 5, ground := Ground.phase }, { on := 6, ground := Ground.phase }, { on := 7, ground := Ground.phase }, { on := 8, ground := Ground.phase }, { on := 9, ground := Ground.phase }], guard := none }) (v := ?_) rfl (by kernel_rfl) (by kernel_rfl) (by kernel_rfl) (fun _ _ _ h => h) (Or.inl ⟨by rfl, ?_⟩) (by assumption) ?_
          rotate_left
          · intro w hSw; (try dsimp only at hSw); go_simp <;> with_reducible rfl
          simp only [Act.put, List.setIfInBounds_toArray, List.set_cons_zero, List.set_cons_succ]
          refine wpAnyH_ready (rs := [12]) (by kernel_rfl) (by simp) ?_
          refine AllReadyH.cons (o := { dst := none, op := Op.store 67 (Operand.tmp 49) (Operand.tmp 47), type := 0, pos := "trial.go:33", after := #[{ on := 11, ground := Ground.data }, { on := 9, ground := Ground.data }, { on := 9, ground := Ground.chain }, { on := 0, ground := Ground.phase }, { on := 1, ground := Ground.phase }, { on := 2, ground := Ground.phase }, { on := 3, ground := Ground.phase }, { on := 4, ground := Ground.phase }, { on := 5, ground := Ground.phase }, { on := 6, ground := Ground.phase }, { on := 7, ground := Ground.phase }, { on := 8, ground := Ground.phase }, { on := 9, ground := Ground.phase }], guard := none }) rfl (fun K hK => ?_) AllReadyH.nil
          go_simp
          refine hK.out _ _ ?_ (fun hHeld => ?_)
          · trivial
          clear hK K
          try simp only [Act.put, List.setIfInBounds_toArray, List.set_cons_zero, List.set_cons_succ]
          refine wpAnyH_done (by kernel_rfl) ?_ _
          skip
          go_wp2
          go_ret
          unfold BeP
          rw [hXq.out, hcb]
          have hs1 : V.heap.size ≤ v7.heap.size := Nat.le_trans hfrV.out.1 hb7.size
          refine ⟨rfl, _, D ++ [d9], a7, b7, c7, hT9, ⟨hle7.out.1, hle7.out.2.1, hle7.out.2.2, by simp⟩, ⟨?_, fun k h1 h2 h3 h4 => ?_, fun k e => ?_⟩⟩
          · have := hf9.out.1; simp [World.setCell]; omega
          · exact (Below.heap_setCell _ _ _ _ h2).trans ((hf9.out.2 k (Nat.lt_of_lt_of_le h1 hs1) h4).trans ((hb7.block k (Nat.lt_of_lt_of_le h1 hfrV.out.1)).trans (hfrV.out.2 k h1 h3)))
          · have e' : some g5 = some k := e
            injection e' with e'
            subst e'
            exact hat9.out.imp id fun q => Nat.le_trans hs1 q
        refine AllReadyH.cons (o := { dst := some 46, op := Op.buildSlice 67 1 #[(0, Operand.tmp 45)], type := 67, pos := "trial.go:33", after := #[{ on := 7, ground := Ground.data }], guard := none }) rfl (fun K hK => ?_) AllReadyH.nil
        go_simp
        have c5c := (hT8.out.over ((Below.refl _ v7).alloc (Nat.le_refl _) (.cells #[.int .u64 (d9 : Int)] 50))).tb.c5; (try dsimp only)
        refine hK.out _ _ ?_ (fun hHeld => ?_)
        · trivial
        clear hK K
        try simp only [Act.put, List.setIfInBounds_toArray, List.set_cons_zero, List.set_cons_succ]
        refine wpAnyH_ready (rs := [4]) (by kernel_rfl) (by simp) ?_
        refine AllReadyH.cons (o := { dst := some 42, op := Op.load 67 (Operand.tmp 41), type := 67, pos := "trial.go:33", after := #[{ on := 3, ground := Ground.data }], guard := none }) rfl (fun K hK => ?_) AllReadyH.nil
        go_simp
        refine hK.out _ _ ?_ (fun hHeld => ?_)
        · trivial
        clear hK K
        try simp only [Act.put, List.setIfInBounds_toArray, List.set_cons_zero, List.set_cons_succ]
        refine wpAnyH_ready (rs := [9]) (by kernel_rfl) (by simp) ?_
        refine AllReadyH.cons (o := { dst := some 47, op := Op.call { callee := Callee.builtin Builtin.append, args := #[Operand.tmp 42, Operand.tmp 46], argTypes := #[67, 67] }, type := 67, pos := "trial.go:33", after := #[{ on := 4, ground := Ground.data }, { on := 8, ground := Ground.data }, { on := 7, ground := Ground.chain }], guard := none }) rfl (fun K hK => ?_) AllReadyH.nil
        rw [if_pos (by rfl)]
        refine Tr.wapp _ _ _ hT8.out d9 hdo'.out rfl (by kernel_rfl) (by kernel_rfl) rfl rfl hD ?_; intro g5 n5 c5 v9 hq9 hT9 hf9 hat9; have f9 := hq9.out.frz 5; have e9 := hq9.out.c5; (try dsimp only)
        refine hK.out _ _ ?_ (fun hHeld => ?_)
        · trivial
        clear hK K
        try simp only [Act.put, List.setIfInBounds_toArray, List.set_cons_zero, List.set_cons_succ]
        refine wpAnyH_take (i := 10) (oi := { dst := some 48, op := Op.nilCheck (Operand.tmp 38), type := 0, pos := "trial.go:33", after := #[{ on := 0, ground := Ground.data }, { on := 0, ground := Ground.phase }, { on := 1, ground := Ground.phase }, { on := 2, ground := Ground.phase }, { on := 3, ground := Ground.phase }, { on := 4, ground := Ground.phase }, { on := 5, ground := Ground.phase }, { on := 6, ground := Ground.phase }, { on := 7, ground := Ground.phase }, { on := 8, ground := Ground.phase }, { on := 9, ground := Ground.phase }], guard := none }) (v := ?_) rfl (by kernel_rfl) (by kernel_rfl) (by kernel_rfl) (fun _ _ _ h => h) (Or.inl ⟨by rfl, ?_⟩) (by assumption) ?_
        rotate_left
        · intro w hSw; (try dsimp only at hSw); go_simp <;> with_reducible rfl
        simp only [Act.put, List.setIfInBounds_toArray, List.set_cons_zero, List.set_cons_succ]
        refine wpAnyH_take (i := 11) (oi := { dst := some 49, op := Op.fieldAddr 69 (Operand.tmp 48) 2, type := 0, pos := "trial.go:33", after := #[{ on := 10, ground := Ground.data }, { on := 0, ground := Ground.phase }, { on := 1, ground := Ground.phase }, { on := 2, ground := Ground.phase }, { on := 3, ground := Ground.phase }, { on := 4, ground := Ground.phase }, { on := 5, ground := Ground.phase }, { on := 6, ground := Ground.phase }, { on := 7, ground := Ground.phase }, { on := 8, ground := Ground.phase }, { on := 9, ground := Ground.phase }], guard := none }) (v := ?_) rfl (by kernel_rfl) (by kernel_rfl) (by kernel_rfl) (fun _ _ _ h => h) (Or.inl ⟨by rfl, ?_⟩) (by assumption) ?_
        rotate_left
        · intro w hSw; (try dsimp only at hSw); go_simp <;> with_reducible rfl
        simp only [Act.put, List.setIfInBounds_toArray, List.set_cons_zero, List.set_cons_succ]
        refine wpAnyH_ready (rs := [12]) (by kernel_rfl) (by simp) ?_
        refine AllReadyH.cons (o := { dst := none, op := Op.store 67 (Operand.tmp 49) (Operand.tmp 47), type := 0, pos := "trial.go:33", after := #[{ on := 11, ground := Ground.data }, { on := 9, ground := Ground.data }, { on := 9, ground := Ground.chain }, { on := 0, ground := Ground.phase }, { on := 1, ground := Ground.phase }, { on := 2, ground := Ground.phase }, { on := 3, ground := Ground.phase }, { on := 4, ground := Ground.phase }, { on := 5, ground := Ground.phase }, { on := 6, ground := Ground.phase }, { on := 7, ground := Ground.phase }, { on := 8, ground := Ground.phase }, { on := 9, ground := Ground.phase }], guard := none }) rfl (fun K hK => ?_) AllReadyH.nil
        go_simp
        refine hK.out _ _ ?_ (fun hHeld => ?_)
        · trivial
        clear hK K
        try simp only [Act.put, List.setIfInBounds_toArray, List.set_cons_zero, List.set_cons_succ]
        refine wpAnyH_done (by kernel_rfl) ?_ _
        skip
        go_wp2
        go_ret
        unfold BeP
        rw [hXq.out, hcb]
        have hs1 : V.heap.size ≤ v7.heap.size := Nat.le_trans hfrV.out.1 hb7.size
        refine ⟨rfl, _, D ++ [d9], a7, b7, c7, hT9, ⟨hle7.out.1, hle7.out.2.1, hle7.out.2.2, by simp⟩, ⟨?_, fun k h1 h2 h3 h4 => ?_, fun k e => ?_⟩⟩
        · have := hf9.out.1; simp [World.setCell]; omega
        · exact (Below.heap_setCell _ _ _ _ h2).trans ((hf9.out.2 k (Nat.lt_of_lt_of_le h1 hs1) h4).trans ((hb7.block k (Nat.lt_of_lt_of_le h1 hfrV.out.1)).trans (hfrV.out.2 k h1 h3)))
        · have e' : some g5 = some k := e
          injection e' with e'
          subst e'
          exact hat9.out.imp id fun q => Nat.le_trans hs1 q
end Go.Proofs.YtmbdnhgmpmnhmaaGreatDoor.S
namespace Go.Proofs.YtmbdnhgmpmnhmaaGreatDoor.S
open Go.RowKit Go.Shelf
/-- The first set of those lost (x) and so many more, none below f. -/
noncomputable def wekP (P : Pb) : Nat → Nat → Nat → Option Nat
  | 0, x, _ => if canB (lesP P x) then none else some x
  | m + 1, x, f => (List.range (P.users.toNat - f)).findSome? (fun a => wekP P m (x ||| 2 ^ (f + a)) (f + a + 1))
theorem findR_none {α : Type} {F : Nat → Option α} : ∀ {n : Nat}, (∀ i, i < n → F i = none) → (List.range n).findSome? F = none
  | _, h => List.findSome?_eq_none_iff.2 fun i hi => h i (List.mem_range.1 hi)
theorem findR_some {α : Type} {F : Nat → Option α} {y : α} : ∀ {n j : Nat}, j < n → (∀ i, i < j → F i = none) → F j = some y → (List.range n).findSome? F = some y
  | n, j, hj, h, hy => by
    obtain ⟨k, rfl⟩ : ∃ k, n = j + (k + 1) := ⟨n - j - 1, by omega⟩
    rw [List.range_add, List.findSome?_append, findR_none h, List.range_succ_eq_map]
    simp [hy]
/-- What is found is not borne, and holds those lost. -/
theorem wekP_some {P : Pb} : ∀ {m x f y : Nat}, wekP P m x f = some y → canB (lesP P y) = false
  | 0, x, f, y, h => by
    unfold wekP at h
    split at h
    · cases h
    · injection h with h; subst h; exact Bool.eq_false_iff.2 ‹_›
  | m + 1, x, f, y, h => by
    unfold wekP at h
    obtain ⟨a, _, h2⟩ := List.exists_of_findSome?_eq_some h
    exact wekP_some h2
/-- Nothing found: every one more of them is borne on. -/
theorem wekP_none {P : Pb} {m x f : Nat} (h : wekP P (m + 1) x f = none) {u : Nat} (h1 : f ≤ u) (h2 : u < P.users.toNat) : wekP P m (x ||| 2 ^ u) (u + 1) = none := by
  unfold wekP at h
  have := List.findSome?_eq_none_iff.1 h (u - f) (List.mem_range.2 (by omega))
  rwa [show f + (u - f) = u by omega] at this
theorem wekP_lt {P : Pb} (hu : P.users.toNat ≤ 64) : ∀ {m x f y : Nat}, x < 18446744073709551616 → wekP P m x f = some y → y < 18446744073709551616
  | 0, x, f, y, hx, h => by
    unfold wekP at h
    split at h
    · cases h
    · injection h with h; subst h; exact hx
  | m + 1, x, f, y, hx, h => by
    unfold wekP at h
    obtain ⟨a, h1, h2⟩ := List.exists_of_findSome?_eq_some h
    have h3 := List.mem_range.1 h1
    exact wekP_lt hu (Nat.or_lt_two_pow (n := 64) hx (Nat.pow_lt_pow_right (by decide) (by omega))) h2
end Go.Proofs.YtmbdnhgmpmnhmaaGreatDoor.S
namespace Go.Proofs.YtmbdnhgmpmnhmaaGreatDoor.S
open Go.RowKit Go.Shelf
/-- What weakWith answers, k calls of bears later. -/
def WkP (V0 : World) (gs : Nat) (P : Pb) (wv fv rv dv : Value) (D : List Nat) (a b c k : Nat) (r : Option Nat) (V : World) (e : Ending) (w' : World) : Prop :=
  e = .returned (.tuple #[.agg #[.int .u64 ((r.getD 0 : Nat) : Int)], .bool r.isSome]) ∧ ∃ dv' D' a' b' c', Hid (Tr V0 gs P wv fv rv dv' D' a' b' c' w') ∧ Hid (a' ≤ a + k * 4000000000000 ∧ b' ≤ b + k * 4000000000000 ∧ c' ≤ c + k * 4000000000000 ∧ D'.length ≤ D.length + k) ∧ Hid (V.heap.size ≤ w'.heap.size ∧ (∀ k, k < V.heap.size → k ≠ V0.heap.size → k ≠ gs → dv.ownBlock ≠ some k → w'.heap[k]? = V.heap[k]?) ∧ (∀ k, dv'.ownBlock = some k → dv.ownBlock = some k ∨ V.heap.size ≤ k))
set_option maxRecDepth 100000 in
set_option maxHeartbeats 4000000 in
theorem wek0F (V0 : World) (gs : Nat) (P : Pb) (wv fv rv dv : Value) (D : List Nat) (a b c x f : Nat) (V : World) (h : Tr V0 gs P wv fv rv dv D a b c V) (hk : Pok P) (hC : chkN P = 0) (hx : x < 18446744073709551616) (hD : D.length ≤ 1000000) (ha : a ≤ 1152921504606846976) (hb : b ≤ 1152921504606846976) (hc : c ≤ 1152921504606846976) :
    Calls Tryz.prog 44 #[.pointer (some ⟨V0.heap.size, 0, none⟩), .agg #[.int .u64 (x : Int)], .int .i64 (f : Int), .int .i64 0] V (WkP V0 gs P wv fv rv dv D a b c 1 (wekP P 0 x f) V) := by
  have KB := hide' (fun W hW => bearsF V0 gs P wv fv rv dv D a b c x W hW hk hC hx hD ha hb hc)
  unfold WkP wekP
  unfold BeP at KB
  generalize canB (lesP P x) = cb at *
  have h' := hide' h
  have hlt : ∀ g, dv.ownBlock = some g → g < V.heap.size := fun g e => own_lt' h.dr e
  have hgV : V0.heap.size < V.heap.size := h.tb.lt
  have hgl := h.gl
  have hlt' := hide' hlt
  have hB : Hid (Below V.heap.size V ((V.alloc (.cells #[.int .u64 (x : Int)] 50)).alloc (.cells #[.int .u64 0] 50))) := ((Below.refl _ V).alloc (Nat.le_refl _) _).alloc (by rw [World.size_alloc]; omega) _
  have hX0 : Hid (Bo ((V.alloc (.cells #[.int .u64 (x : Int)] 50)).alloc (.cells #[.int .u64 0] 50)) V.heap.size (.int .u64 (x : Int))) := (Bo.new V _ _).over ((Below.refl _ _).alloc (Nat.le_refl _) _)
  have hR0 : Hid (Bo ((V.alloc (.cells #[.int .u64 (x : Int)] 50)).alloc (.cells #[.int .u64 0] 50)) (V.heap.size + 1) (.int .u64 0)) := by
    have := Bo.new (V.alloc (.cells #[.int .u64 (x : Int)] 50)) (.int .u64 0) 50
    rwa [World.size_alloc] at this
  have hz : ((V.alloc (.cells #[.int .u64 (x : Int)] 50)).alloc (.cells #[.int .u64 0] 50)).heap.size = V.heap.size + 2 := by rw [World.size_alloc, World.size_alloc]
  clear h hk hC hlt
  have hfin : Hid (∀ w5 dv' D' a' b' c' (y : Value), Tr V0 gs P wv fv rv dv' D' a' b' c' w5 → (a' ≤ a + 4000000000000 ∧ b' ≤ b + 4000000000000 ∧ c' ≤ c + 4000000000000 ∧ D'.length ≤ D.length + 1) → (((V.alloc (.cells #[.int .u64 (x : Int)] 50)).alloc (.cells #[.int .u64 0] 50)).heap.size ≤ w5.heap.size ∧ (∀ k, k < ((V.alloc (.cells #[.int .u64 (x : Int)] 50)).alloc (.cells #[.int .u64 0] 50)).heap.size → k ≠ V0.heap.size → k ≠ gs → dv.ownBlock ≠ some k → w5.heap[k]? = ((V.alloc (.cells #[.int .u64 (x : Int)] 50)).alloc (.cells #[.int .u64 0] 50)).heap[k]?) ∧ (∀ k, dv'.ownBlock = some k → dv.ownBlock = some k ∨ ((V.alloc (.cells #[.int .u64 (x : Int)] 50)).alloc (.cells #[.int .u64 0] 50)).heap.size ≤ k)) → ∃ dv' D' a' b' c', Hid (Tr V0 gs P wv fv rv dv' D' a' b' c' (w5.setCell ⟨V.heap.size + 1, 0, none⟩ y)) ∧ Hid (a' ≤ a + 1 * 4000000000000 ∧ b' ≤ b + 1 * 4000000000000 ∧ c' ≤ c + 1 * 4000000000000 ∧ D'.length ≤ D.length + 1) ∧ Hid (V.heap.size ≤ (w5.setCell ⟨V.heap.size + 1, 0, none⟩ y).heap.size ∧ (∀ k, k < V.heap.size → k ≠ V0.heap.size → k ≠ gs → dv.ownBlock ≠ some k → (w5.setCell ⟨V.heap.size + 1, 0, none⟩ y).heap[k]? = V.heap[k]?) ∧ (∀ k, dv'.ownBlock = some k → dv.ownBlock = some k ∨ V.heap.size ≤ k))) := fun w5 dv' D' a' b' c' y h1 h2 h3 => by
    rw [hz] at h3
    obtain ⟨h4, h5, h6⟩ := h3
    have hs : ∀ k, k ≠ V.heap.size + 1 → (w5.setCell ⟨V.heap.size + 1, 0, none⟩ y).heap[k]? = w5.heap[k]? := fun k e => Below.heap_setCell _ _ _ _ e
    have hzz : (w5.setCell ⟨V.heap.size + 1, 0, none⟩ y).heap.size = w5.heap.size := by simp [World.setCell]
    refine ⟨dv', D', a', b', c', ?_, ⟨by omega, by omega, by omega, h2.2.2.2⟩, ⟨by rw [hzz]; omega, fun k q1 q2 q3 q4 => ?_, fun k e => (h6 k e).imp id (by omega)⟩⟩
    · refine ⟨h1.tb.of (hs _ (by omega)), h1.p0, h1.g0, h1.t0, ⟨h1.fr.os, h1.fr.tape, h1.fr.output, by rw [hzz]; exact h1.fr.size, fun k q1 q2 q3 => (hs k (by omega)).trans (h1.fr.block k q1 q2 q3)⟩, World.rowIs.of_block h1.gg (hs _ (by omega)), own_same h1.dr fun g q1 q2 => hs g ?_, h1.inv, h1.hG, h1.nwv⟩
      rcases h6 g q2 with e | e
      · have := hlt'.out g e; omega
      · omega
    · exact (hs k (by omega)).trans ((h5 k (by omega) q2 q3 q4).trans (hB.out.block k q1))
  have hcl : Hid (∀ w5 : World, (∀ k, k < ((V.alloc (.cells #[.int .u64 (x : Int)] 50)).alloc (.cells #[.int .u64 0] 50)).heap.size → k ≠ V0.heap.size → k ≠ gs → dv.ownBlock ≠ some k → w5.heap[k]? = ((V.alloc (.cells #[.int .u64 (x : Int)] 50)).alloc (.cells #[.int .u64 0] 50)).heap[k]?) → Bo w5 V.heap.size (.int .u64 (x : Int)) ∧ Bo w5 (V.heap.size + 1) (.int .u64 0)) := fun w5 h5 => ⟨hX0.out.of (h5 _ (by omega) (by omega) (by omega) fun e => by have := hlt'.out _ e; omega), hR0.out.of (h5 _ (by omega) (by omega) (by omega) fun e => by have := hlt'.out _ e; omega)⟩
  clear hz
  cases cb
  all_goals
    go_enter Tryz.func44, Tryz.ntmps44
    go_wp2_with (go_at_call 29; refine (KB.out _ (h'.out.over hB.out)).mono ?_; rintro e w5 ⟨rfl, dv', D', a', b', c', hT5, hle5, hf5⟩; obtain ⟨hX5, hR5⟩ := hcl.out _ hf5.out.2.1; have x5 := hX5.c; have r5 := hR5.c; have z5 := hR5.fz)
  · refine bodyPost_ret (v := .tuple #[.agg #[.int .u64 (x : Int)], .bool true]) ?_ rfl ⟨rfl, hfin.out _ _ _ _ _ _ _ hT5.out hle5.out hf5.out⟩
    simp [results, Tryz.results44, go_sem, r5]
  · refine bodyPost_ret (v := .tuple #[.agg #[.int .u64 0], .bool false]) ?_ rfl ⟨rfl, hfin.out _ _ _ _ _ _ _ hT5.out hle5.out hf5.out⟩
    simp [results, Tryz.results44, go_sem, r5]
end Go.Proofs.YtmbdnhgmpmnhmaaGreatDoor.S
namespace Go.Proofs.YtmbdnhgmpmnhmaaGreatDoor.S
open Go.RowKit Go.Shelf
/-- What stands between the rounds: V is the world at weakWith's start, its boxes the two behind it. -/
structure Wl (V0 : World) (gs : Nat) (P : Pb) (wv fv rv dv : Value) (D : List Nat) (a b c x : Nat) (V : World) (k : Nat) (dv' : Value) (D' : List Nat) (a' b' c' : Nat) (W : World) : Prop where
  t : Tr V0 gs P wv fv rv dv' D' a' b' c' W
  le : a' ≤ a + k * 4000000000000 ∧ b' ≤ b + k * 4000000000000 ∧ c' ≤ c + k * 4000000000000 ∧ D'.length ≤ D.length + k
  sz : V.heap.size + 2 ≤ W.heap.size
  fr : ∀ g, g < V.heap.size → g ≠ V0.heap.size → g ≠ gs → dv.ownBlock ≠ some g → W.heap[g]? = V.heap[g]?
  ob : ∀ g, dv'.ownBlock = some g → (dv.ownBlock = some g ∧ g < V.heap.size) ∨ V.heap.size + 2 ≤ g
  bx : Bo W V.heap.size (.int .u64 (x : Int))
  br : Bo W (V.heap.size + 1) (.int .u64 0)
  lo : V0.heap.size < V.heap.size ∧ gs < V.heap.size
section
variable {V0 : World} {gs : Nat} {P : Pb} {wv fv rv dv dv' : Value} {D D' : List Nat} {a b c a' b' c' x k : Nat} {V W W' : World}
theorem Wl.start (h : Tr V0 gs P wv fv rv dv D a b c V) (x : Nat) : Wl V0 gs P wv fv rv dv D a b c x V 0 dv D a b c ((V.alloc (.cells #[.int .u64 (x : Int)] 50)).alloc (.cells #[.int .u64 0] 50)) := by
  have hB : Below V.heap.size V ((V.alloc (.cells #[.int .u64 (x : Int)] 50)).alloc (.cells #[.int .u64 0] 50)) := ((Below.refl _ V).alloc (Nat.le_refl _) _).alloc (by rw [World.size_alloc]; omega) _
  have hgl := h.gl
  have hgV : V0.heap.size < V.heap.size := h.tb.lt
  refine ⟨h.over hB, ⟨by omega, by omega, by omega, by omega⟩, by rw [World.size_alloc, World.size_alloc]; omega, fun g h1 _ _ _ => hB.block g h1, fun g e => .inl ⟨e, own_lt' h.dr e⟩, (Bo.new V _ _).over ((Below.refl _ _).alloc (Nat.le_refl _) _), ?_, hgV, by omega⟩
  have := Bo.new (V.alloc (.cells #[.int .u64 (x : Int)] 50)) (.int .u64 0) 50
  rwa [World.size_alloc] at this
theorem Wl.over (h : Wl V0 gs P wv fv rv dv D a b c x V k dv' D' a' b' c' W) (hb : Below W.heap.size W W') : Wl V0 gs P wv fv rv dv D a b c x V k dv' D' a' b' c' W' := by
  have hs := h.sz
  exact ⟨h.t.over hb, h.le, Nat.le_trans hs hb.size, fun g h1 h2 h3 h4 => (hb.block g (by omega)).trans (h.fr g h1 h2 h3 h4), h.ob, h.bx.over hb, h.br.over hb, h.lo⟩
/-- What a call of weakWith leaves. -/
theorem Wl.call (h : Wl V0 gs P wv fv rv dv D a b c x V k dv' D' a' b' c' W) {q : Nat} {r : Option Nat} {e : Ending} (hc : WkP V0 gs P wv fv rv dv' D' a' b' c' q r W e W') : e = .returned (.tuple #[.agg #[.int .u64 ((r.getD 0 : Nat) : Int)], .bool r.isSome]) ∧ (∃ dv2 D2 a2 b2 c2, Hid (Wl V0 gs P wv fv rv dv D a b c x V (k + q) dv2 D2 a2 b2 c2 W') ∧ Hid (∀ g, dv2.ownBlock = some g → dv'.ownBlock = some g ∨ W.heap.size ≤ g)) ∧ Hid (∀ g v, Bo W g v → g ≠ V0.heap.size → V.heap.size ≤ g → dv'.ownBlock ≠ some g → Bo W' g v) := by
  obtain ⟨rfl, dv2, D2, a2, b2, c2, h1, h2, h3⟩ := hc
  obtain ⟨h4, h5, h6⟩ := h3.out
  obtain ⟨l1, l2⟩ := h.lo
  have hs := h.sz
  have ho : ∀ g, V.heap.size ≤ g → g < V.heap.size + 2 → dv'.ownBlock ≠ some g := fun g q1 q2 e => by
    rcases h.ob g e with e | e <;> omega
  refine ⟨rfl, ⟨dv2, D2, a2, b2, c2, ⟨h1.out, ?_, Nat.le_trans hs h4, fun g q1 q2 q3 q4 => ?_, fun g e => ?_, h.bx.of (h5 _ (by omega) (by omega) (by omega) (ho _ (by omega) (by omega))), h.br.of (h5 _ (by omega) (by omega) (by omega) (ho _ (by omega) (by omega))), h.lo⟩, h6⟩, fun g v hb q1 q2 q3 => hb.of (h5 g hb.lt q1 (by omega) q3)⟩
  · obtain ⟨e1, e2, e3, e4⟩ := h.le
    obtain ⟨d1, d2, d3, d4⟩ := h2.out
    refine ⟨by omega, by omega, by omega, by omega⟩
  · refine (h5 g (by omega) q2 q3 fun e => ?_).trans (h.fr g q1 q2 q3 q4)
    rcases h.ob g e with e | e
    · exact q4 e.1
    · omega
  · rcases h6 g e with e | e
    · exact h.ob g e
    · exact .inr (by omega)
/-- A box of one's own is written. -/
theorem Wl.box (h : Wl V0 gs P wv fv rv dv D a b c x V k dv' D' a' b' c' W) {g : Nat} (h1 : V.heap.size + 2 ≤ g) (h2 : dv'.ownBlock ≠ some g) (u : Value) : Wl V0 gs P wv fv rv dv D a b c x V k dv' D' a' b' c' (W.setCell ⟨g, 0, none⟩ u) := by
  obtain ⟨l1, l2⟩ := h.lo
  have hs : ∀ y, y ≠ g → (W.setCell ⟨g, 0, none⟩ u).heap[y]? = W.heap[y]? := fun y e => Below.heap_setCell _ _ _ _ e
  have hzz : (W.setCell ⟨g, 0, none⟩ u).heap.size = W.heap.size := by simp [World.setCell]
  exact ⟨⟨h.t.tb.of (hs _ (by omega)), h.t.p0, h.t.g0, h.t.t0, ⟨h.t.fr.os, h.t.fr.tape, h.t.fr.output, by rw [hzz]; exact h.t.fr.size, fun y q1 q2 q3 => (hs y (by omega)).trans (h.t.fr.block y q1 q2 q3)⟩, World.rowIs.of_block h.t.gg (hs _ (by omega)), own_same h.t.dr fun y q1 q2 => hs y (fun e => h2 (e ▸ q2)), h.t.inv, h.t.hG, h.t.nwv⟩, h.le, by rw [hzz]; exact h.sz, fun y q1 q2 q3 q4 => (hs y (by omega)).trans (h.fr y q1 q2 q3 q4), h.ob, h.bx.of (hs _ (by omega)), h.br.of (hs _ (by omega)), h.lo⟩
set_option maxRecDepth 100000 in
/-- The answer is written: what weakWith leaves. -/
theorem Wl.fin (h : Wl V0 gs P wv fv rv dv D a b c x V k dv' D' a' b' c' W) {m : Nat} (hk : k ≤ m) (u : Value) : ∃ dv' D' a' b' c', Hid (Tr V0 gs P wv fv rv dv' D' a' b' c' (W.setCell ⟨V.heap.size + 1, 0, none⟩ u)) ∧ Hid (a' ≤ a + m * 4000000000000 ∧ b' ≤ b + m * 4000000000000 ∧ c' ≤ c + m * 4000000000000 ∧ D'.length ≤ D.length + m) ∧ Hid (V.heap.size ≤ (W.setCell ⟨V.heap.size + 1, 0, none⟩ u).heap.size ∧ (∀ g, g < V.heap.size → g ≠ V0.heap.size → g ≠ gs → dv.ownBlock ≠ some g → (W.setCell ⟨V.heap.size + 1, 0, none⟩ u).heap[g]? = V.heap[g]?) ∧ (∀ g, dv'.ownBlock = some g → dv.ownBlock = some g ∨ V.heap.size ≤ g)) := by
  obtain ⟨l1, l2⟩ := h.lo
  obtain ⟨e1, e2, e3, e4⟩ := h.le
  have hsz := h.sz
  have hmk : k * 4000000000000 ≤ m * 4000000000000 := Nat.mul_le_mul_right _ hk
  have hs : ∀ y, y ≠ V.heap.size + 1 → (W.setCell ⟨V.heap.size + 1, 0, none⟩ u).heap[y]? = W.heap[y]? := fun y e => Below.heap_setCell _ _ _ _ e
  have hzz : (W.setCell ⟨V.heap.size + 1, 0, none⟩ u).heap.size = W.heap.size := by simp [World.setCell]
  refine ⟨dv', D', a', b', c', ⟨h.t.tb.of (hs _ (by omega)), h.t.p0, h.t.g0, h.t.t0, ⟨h.t.fr.os, h.t.fr.tape, h.t.fr.output, by rw [hzz]; exact h.t.fr.size, fun y q1 q2 q3 => (hs y (by omega)).trans (h.t.fr.block y q1 q2 q3)⟩, World.rowIs.of_block h.t.gg (hs _ (by omega)), own_same h.t.dr fun y q1 q2 => hs y (fun e => ?_), h.t.inv, h.t.hG, h.t.nwv⟩, ⟨Nat.le_trans e1 (Nat.add_le_add_left hmk _), Nat.le_trans e2 (Nat.add_le_add_left hmk _), Nat.le_trans e3 (Nat.add_le_add_left hmk _), Nat.le_trans e4 (Nat.add_le_add_left hk _)⟩, ⟨by rw [hzz]; omega, fun y q1 q2 q3 q4 => (hs y (by omega)).trans (h.fr y q1 q2 q3 q4), fun g e => ?_⟩⟩
  · rw [e] at q2
    rcases h.ob _ q2 with q | q <;> omega
  · rcases h.ob g e with q | q
    · exact .inl q.1
    · exact .inr (by omega)
theorem Wl.ne (h : Wl V0 gs P wv fv rv dv D a b c x V k dv' D' a' b' c' W) : dv'.ownBlock ≠ some W.heap.size := fun e => Nat.lt_irrefl _ (own_lt' h.t.dr e)
end
set_option maxRecDepth 100000 in
set_option maxHeartbeats 8000000 in
theorem wekSF (V0 : World) (gs : Nat) (P : Pb) (wv fv rv : Value) (_ : Pok P) (hC : chkN P = 0) (m q : Nat) (hm : m ≤ 10)
    (IH : ∀ (dv : Value) (D : List Nat) (a b c x f : Nat) (V : World) (zf zm : Int), Tr V0 gs P wv fv rv dv D a b c V → x < 18446744073709551616 → f ≤ 64 → zf = f → zm = m → D.length + q ≤ 1000000 → a + q * 4000000000000 ≤ 1152921504606846976 → b + q * 4000000000000 ≤ 1152921504606846976 → c + q * 4000000000000 ≤ 1152921504606846976 →
      Calls Tryz.prog 44 #[.pointer (some ⟨V0.heap.size, 0, none⟩), .agg #[.int .u64 (x : Int)], .int .i64 zf, .int .i64 zm] V (WkP V0 gs P wv fv rv dv D a b c q (wekP P m x f) V))
    (dv : Value) (D : List Nat) (a b c x f : Nat) (V : World) (h : Tr V0 gs P wv fv rv dv D a b c V) (hx : x < 18446744073709551616) (hf : f ≤ 64) (hD : D.length + 64 * q ≤ 1000000) (ha : a + 64 * q * 4000000000000 ≤ 1152921504606846976) (hb : b + 64 * q * 4000000000000 ≤ 1152921504606846976) (hc : c + 64 * q * 4000000000000 ≤ 1152921504606846976) :
    Calls Tryz.prog 44 #[.pointer (some ⟨V0.heap.size, 0, none⟩), .agg #[.int .u64 (x : Int)], .int .i64 (f : Int), .int .i64 ((m : Int) + 1)] V (WkP V0 gs P wv fv rv dv D a b c (64 * q) (wekP P (m + 1) x f) V) := by
  obtain ⟨g12, g0, g64, g32, gF, gW, gR⟩ := chkN_zero hC
  clear g12 g32 gF gW gR hC
  obtain ⟨U, hU⟩ : ∃ U : Nat, P.users = (U : Int) := ⟨P.users.toNat, by omega⟩
  have hU64 : U ≤ 64 := by omega
  have hUt : P.users.toNat = U := by omega
  have hW0 := hide' (Wl.start h x)
  have c0 := hW0.out.t.tb.c0
  have hnone : Hid ((∀ i, f + i < U → wekP P m (x ||| 2 ^ (f + i)) (f + i + 1) = none) → wekP P (m + 1) x f = none) := fun h0 => by
    unfold wekP
    exact findR_none fun i hi => h0 i (by omega)
  have hsome : Hid (∀ j y, f + j < U → (∀ i, i < j → wekP P m (x ||| 2 ^ (f + i)) (f + i + 1) = none) → wekP P m (x ||| 2 ^ (f + j)) (f + j + 1) = some y → wekP P (m + 1) x f = some y) := fun j y h0 h1 h2 => by
    unfold wekP
    exact findR_some (by omega) h1 h2
  have hbd : Hid (a + 64 * q * 4000000000000 ≤ 1152921504606846976 ∧ b + 64 * q * 4000000000000 ≤ 1152921504606846976 ∧ c + 64 * q * 4000000000000 ≤ 1152921504606846976 ∧ D.length + 64 * q ≤ 1000000) := ⟨ha, hb, hc, hD⟩
  have IH' := hide' IH
  generalize hrr : wekP P (m + 1) x f = rr at *
  clear h ha hb hc hD g0 g64 hUt IH hrr
  rw [hU] at c0
  have hm1 : ¬ ((m : Int) + 1 = 0) := by omega
  go_enter Tryz.func44, Tryz.ntmps44
  go_upto_block 0 with fail
  generalize (V.alloc (.cells #[.int .u64 (x : Int)] 50)).alloc (.cells #[.int .u64 0] 50) = W0 at *
  clear c0 hm1
  go_wp2
  go_loopw [28] (fun kv wr => ∃ j : Nat, (j = 0 ∨ f + j ≤ U) ∧ kv = .int .i64 (j : Int) ∧ Hid (∀ i, i < j → wekP P m (x ||| 2 ^ (f + i)) (f + i + 1) = none) ∧ ∃ dv' D' a' b' c', Hid (Wl V0 gs P wv fv rv dv D a b c x V (j * q) dv' D' a' b' c' wr)) (fun kv _ => ((U : Int) - (f : Int) - intOf kv).toNat)
  case atStart => exact ⟨0, .inl rfl, rfl, fun i hi => absurd hi (Nat.not_lt_zero _), dv, D, a, b, c, by rw [Nat.zero_mul]; exact hW0⟩
  case round =>
    clear hW0
    obtain ⟨j, hj, rfl, hno, dv', D', a', b', c', hW⟩ := hrel
    by_cases hlt : f + j < U
    · have hlt' : (j : Int) < (U : Int) - (f : Int) := by omega
      have hjq : j * q + q ≤ 64 * q := by rw [← Nat.succ_mul]; exact Nat.mul_le_mul_right _ (by omega)
      have hu64 : f + j < 64 := by omega
      have hxu : x ||| 2 ^ (f + j) < 18446744073709551616 := Nat.or_lt_two_pow (n := 64) hx (Nat.pow_lt_pow_right (by decide) hu64)
      have hpl : (2 : Nat) ^ (f + j) < 18446744073709551616 := Nat.lt_of_lt_of_le (Nat.pow_lt_pow_right (by decide) hu64) (Nat.le_refl (2 ^ 64))
      have KOn : Hid (∀ W (z : Int), z = ((f + j : Nat) : Int) → Calls Tryz.prog 30 #[.int .i64 z] W fun e w' => e = .returned (.agg #[.int .u64 ((2 ^ (f + j) : Nat) : Int)]) ∧ Below W.heap.size W w') := fun W z hz => by rw [hz]; exact onlyH (f + j) hu64 W
      have KOr : Hid (∀ W, Calls Tryz.prog 31 #[.agg #[.int .u64 (x : Int)], .agg #[.int .u64 ((2 ^ (f + j) : Nat) : Int)]] W fun e w' => e = .returned (.agg #[.int .u64 ((x ||| 2 ^ (f + j) : Nat) : Int)]) ∧ Below W.heap.size W w') := fun W => M.or64 _ _ hx hpl W
      obtain ⟨r, hr⟩ : ∃ r, r = wekP P m (x ||| 2 ^ (f + j)) (f + j + 1) := ⟨_, rfl⟩
      have KW : Hid (∀ W (zf zm : Int), Wl V0 gs P wv fv rv dv D a b c x V (j * q) dv' D' a' b' c' W → zf = ((f + j + 1 : Nat) : Int) → zm = m → Calls Tryz.prog 44 #[.pointer (some ⟨V0.heap.size, 0, none⟩), .agg #[.int .u64 ((x ||| 2 ^ (f + j) : Nat) : Int)], .int .i64 zf, .int .i64 zm] W fun e w' => e = .returned (.tuple #[.agg #[.int .u64 ((r.getD 0 : Nat) : Int)], .bool r.isSome]) ∧ (∃ dv2 D2 a2 b2 c2, Hid (Wl V0 gs P wv fv rv dv D a b c x V (j * q + q) dv2 D2 a2 b2 c2 w') ∧ Hid (∀ g, dv2.ownBlock = some g → dv'.ownBlock = some g ∨ W.heap.size ≤ g)) ∧ Hid (∀ g v, Bo W g v → g ≠ V0.heap.size → V.heap.size ≤ g → dv'.ownBlock ≠ some g → Bo w' g v)) := fun W zf zm hW hzf hzm => by
        obtain ⟨e1, e2, e3, e4⟩ := hW.le
        obtain ⟨d1, d2, d3, d4⟩ := hbd.out
        have hq4 : j * q * 4000000000000 + q * 4000000000000 ≤ 64 * q * 4000000000000 := by rw [← Nat.add_mul]; exact Nat.mul_le_mul_right _ hjq
        refine (IH'.out dv' D' a' b' c' _ (f + j + 1) W zf zm hW.t hxu (by omega) hzf hzm (by omega) (by omega) (by omega) (by omega)).mono fun e w' hc => ?_
        rw [← hr] at hc
        exact hW.call hc
      have hrN : Hid (r.isSome = false → ∀ i, i < j + 1 → wekP P m (x ||| 2 ^ (f + i)) (f + i + 1) = none) := fun h0 i hi => by
        by_cases e : i = j
        · subst e
          rw [← hr]
          cases r with
          | none => rfl
          | some y => cases h0
        · exact hno.out i (by omega)
      have hrS : Hid (r.isSome = true → rr = some (r.getD 0)) := fun h0 => by
        cases hq : r with
        | none => rw [hq] at h0; cases h0
        | some y => exact hsome.out j y hlt hno.out (by rw [← hr]; exact hq)
      have hend : Hid (∀ dv2 D2 a2 b2 c2 W, Wl V0 gs P wv fv rv dv D a b c x V (j * q + q) dv2 D2 a2 b2 c2 W → rr = some (r.getD 0) → WkP V0 gs P wv fv rv dv D a b c (64 * q) rr V (.returned (.tuple #[.agg #[.int .u64 ((r.getD 0 : Nat) : Int)], .bool true])) (W.setCell ⟨V.heap.size + 1, 0, none⟩ (.int .u64 ((r.getD 0 : Nat) : Int)))) := fun dv2 D2 a2 b2 c2 W hW h0 => by
        unfold WkP
        rw [h0]
        exact ⟨rfl, hW.fin hjq _⟩
      have hlo : Hid (V0.heap.size < V.heap.size ∧ gs < V.heap.size) := hW.out.lo
      generalize r.isSome = bs at *
      generalize r.getD 0 = y at *
      generalize x ||| 2 ^ (f + j) = xo at *
      generalize (2 : Nat) ^ (f + j) = po at *
      clear hr hno hsome hnone hbd IH' hxu hpl
      go_upto_region 9 with fail
      have hWd := hide' (hW.out.over (Below.refl _ wr).drew)
      have cxd := hWd.out.bx.c
      clear hW
      refine wp_region_held_drew (S := (fun W => W.cell? ⟨V.heap.size, 0, none⟩ = some (.int .u64 (x : Int)))) (by kernel_rfl) ?_ (fun hHeld => ?_)
      · exact cxd
      refine wpAnyH_take (i := 0) (oi := { dst := some 35, op := Op.move (Operand.tmp 0), type := 54, pos := "trial.go:63", after := #[], guard := none }) (v := ?_) rfl (by kernel_rfl) (by kernel_rfl) (by kernel_rfl) (fun _ _ _ h => h) (Or.inl ⟨by rfl, ?_⟩) (by assumption) ?_
      rotate_left
      · intro w hSw; (try dsimp only at hSw); go_simp <;> with_reducible rfl
      simp only [Act.put, List.setIfInBounds_toArray, List.set_cons_zero, List.set_cons_succ]
      refine wpAnyH_take (i := 1) (oi := { dst := some 36, op := Op.load 50 (Operand.tmp 5), type := 50, pos := "trial.go:63", after := #[], guard := none }) (v := ?_) rfl (by kernel_rfl) (by kernel_rfl) (by kernel_rfl) (fun _ _ _ h => h) (Or.inl ⟨by rfl, ?_⟩) (by assumption) ?_
      rotate_left
      · intro w hSw; (try dsimp only at hSw); go_simp <;> with_reducible rfl
      simp only [Act.put, List.setIfInBounds_toArray, List.set_cons_zero, List.set_cons_succ]
      refine wpAnyH_take (i := 2) (oi := { dst := some 37, op := Op.move (Operand.tmp 11), type := 3, pos := "trial.go:63", after := #[], guard := none }) (v := ?_) rfl (by kernel_rfl) (by kernel_rfl) (by kernel_rfl) (fun _ _ _ h => h) (Or.inl ⟨by rfl, ?_⟩) (by assumption) ?_
      rotate_left
      · intro w hSw; (try dsimp only at hSw); go_simp <;> with_reducible rfl
      simp only [Act.put, List.setIfInBounds_toArray, List.set_cons_zero, List.set_cons_succ]
      refine wpAnyH_take (i := 5) (oi := { dst := some 40, op := Op.move (Operand.tmp 11), type := 3, pos := "trial.go:63", after := #[], guard := none }) (v := ?_) rfl (by kernel_rfl) (by kernel_rfl) (by kernel_rfl) (fun _ _ _ h => h) (Or.inl ⟨by rfl, ?_⟩) (by assumption) ?_
      rotate_left
      · intro w hSw; (try dsimp only at hSw); go_simp <;> with_reducible rfl
      simp only [Act.put, List.setIfInBounds_toArray, List.set_cons_zero, List.set_cons_succ]
      refine wpAnyH_take (i := 6) (oi := { dst := some 41, op := Op.binOp BinOp.add 3 (Operand.tmp 40) (Operand.const (Value.int IntKind.i64 1)) 3, type := 3, pos := "trial.go:63", after := #[{ on := 5, ground := Ground.data }], guard := none }) (v := ?_) rfl (by kernel_rfl) (by kernel_rfl) (by kernel_rfl) (fun _ _ _ h => h) (Or.inl ⟨by rfl, ?_⟩) (by assumption) ?_
      rotate_left
      · intro w hSw; (try dsimp only at hSw); go_simp <;> with_reducible rfl
      simp only [Act.put, List.setIfInBounds_toArray, List.set_cons_zero, List.set_cons_succ]
      refine wpAnyH_take (i := 7) (oi := { dst := some 42, op := Op.move (Operand.tmp 3), type := 3, pos := "trial.go:63", after := #[], guard := none }) (v := ?_) rfl (by kernel_rfl) (by kernel_rfl) (by kernel_rfl) (fun _ _ _ h => h) (Or.inl ⟨by rfl, ?_⟩) (by assumption) ?_
      rotate_left
      · intro w hSw; (try dsimp only at hSw); go_simp <;> with_reducible rfl
      simp only [Act.put, List.setIfInBounds_toArray, List.set_cons_zero, List.set_cons_succ]
      refine wpAnyH_take (i := 8) (oi := { dst := some 43, op := Op.binOp BinOp.sub 3 (Operand.tmp 42) (Operand.const (Value.int IntKind.i64 1)) 3, type := 3, pos := "trial.go:63", after := #[{ on := 7, ground := Ground.data }], guard := none }) (v := ?_) rfl (by kernel_rfl) (by kernel_rfl) (by kernel_rfl) (fun _ _ _ h => h) (Or.inl ⟨by rfl, ?_⟩) (by assumption) ?_
      rotate_left
      · intro w hSw; (try dsimp only at hSw); go_simp <;> with_reducible rfl
      simp only [Act.put, List.setIfInBounds_toArray, List.set_cons_zero, List.set_cons_succ]
      refine wpAnyH_ready (rs := [3, 13]) (by kernel_rfl) (by simp) ?_
      refine AllReadyH.cons (o := { dst := some 38, op := Op.call { callee := Callee.value (Operand.func 30), args := #[Operand.tmp 37], argTypes := #[3] }, type := 50, pos := "trial.go:63", after := #[{ on := 2, ground := Ground.data }], guard := none }) rfl (fun K hK => ?_) ?_
      · skip
        go_simp
        go_at_call 30; refine (KOn.out _ _ (by omega)).mono ?_; rintro e w3 ⟨rfl, hb3⟩; have hW3 := hide' (hWd.out.over hb3); have cx3 := hW3.out.bx.c; (try dsimp only)
        refine hK.out _ _ ?_ (fun hHeld => ?_)
        · assumption
        clear hK K
        try simp only [Act.put, List.setIfInBounds_toArray, List.set_cons_zero, List.set_cons_succ]
        refine wpAnyH_ready (rs := [4, 13]) (by kernel_rfl) (by simp) ?_
        refine AllReadyH.cons (o := { dst := some 39, op := Op.call { callee := Callee.value (Operand.func 31), args := #[Operand.tmp 36, Operand.tmp 38], argTypes := #[50, 50] }, type := 50, pos := "trial.go:63", after := #[{ on := 1, ground := Ground.data }, { on := 3, ground := Ground.data }, { on := 3, ground := Ground.chain }], guard := none }) rfl (fun K hK => ?_) ?_
        · skip
          go_simp
          go_at_call 31; refine (KOr.out _).mono ?_; rintro e w4 ⟨rfl, hb4⟩; have hW4 := hide' (hW3.out.over hb4); have cx4 := hW4.out.bx.c; (try dsimp only)
          refine hK.out _ _ ?_ (fun hHeld => ?_)
          · assumption
          clear hK K
          try simp only [Act.put, List.setIfInBounds_toArray, List.set_cons_zero, List.set_cons_succ]
          refine wpAnyH_ready (rs := [9, 13]) (by kernel_rfl) (by simp) ?_
          refine AllReadyH.cons (o := { dst := some 44, op := Op.call { callee := Callee.value (Operand.func 44), args := #[Operand.tmp 35, Operand.tmp 39, Operand.tmp 41, Operand.tmp 43], argTypes := #[54, 50, 3, 3] }, type := 53, pos := "trial.go:63", after := #[{ on := 0, ground := Ground.data }, { on := 4, ground := Ground.data }, { on := 6, ground := Ground.data }, { on := 8, ground := Ground.data }, { on := 4, ground := Ground.chain }], guard := none }) rfl (fun K hK => ?_) ?_
          · skip
            go_simp
            go_at_call 44; refine (KW.out _ _ _ hW4.out (by first | omega | (rw [IntKind.wrap_i64]; omega)) (by first | omega | (rw [IntKind.wrap_i64]; omega))).mono ?_; rintro e w9 ⟨rfl, ⟨dv2, D2, a2, b2, c2, hW9, hd9⟩, hk9⟩; have cx9 := hW9.out.bx.c; (try dsimp only)
            refine hK.out _ _ ?_ (fun hHeld => ?_)
            · assumption
            clear hK K
            try simp only [Act.put, List.setIfInBounds_toArray, List.set_cons_zero, List.set_cons_succ]
            refine wpAnyH_take (i := 10) (oi := { dst := some 34, op := Op.move (Operand.tmp 44), type := 53, pos := "trial.go:63", after := #[{ on := 9, ground := Ground.data }], guard := none }) (v := ?_) rfl (by kernel_rfl) (by kernel_rfl) (by kernel_rfl) (fun _ _ _ h => h) (Or.inl ⟨by rfl, ?_⟩) (by assumption) ?_
            rotate_left
            · intro w hSw; (try dsimp only at hSw); go_simp <;> with_reducible rfl
            simp only [Act.put, List.setIfInBounds_toArray, List.set_cons_zero, List.set_cons_succ]
            refine wpAnyH_take (i := 11) (oi := { dst := some 45, op := Op.extract (Operand.tmp 34) 0, type := 50, pos := "trial.go:63", after := #[{ on := 10, ground := Ground.data }], guard := none }) (v := ?_) rfl (by kernel_rfl) (by kernel_rfl) (by kernel_rfl) (fun _ _ _ h => h) (Or.inl ⟨by rfl, ?_⟩) (by assumption) ?_
            rotate_left
            · intro w hSw; (try dsimp only at hSw); go_simp <;> with_reducible rfl
            simp only [Act.put, List.setIfInBounds_toArray, List.set_cons_zero, List.set_cons_succ]
            refine wpAnyH_take (i := 12) (oi := { dst := some 46, op := Op.extract (Operand.tmp 34) 1, type := 4, pos := "trial.go:63", after := #[{ on := 10, ground := Ground.data }, { on := 14, ground := Ground.gcOnly Departure.lateStores }], guard := none }) (v := ?_) rfl (by kernel_rfl) (by kernel_rfl) (by kernel_rfl) (fun _ _ _ h => h) (Or.inl ⟨by rfl, ?_⟩) (by assumption) ?_
            rotate_left
            · intro w hSw; (try dsimp only at hSw); go_simp <;> with_reducible rfl
            simp only [Act.put, List.setIfInBounds_toArray, List.set_cons_zero, List.set_cons_succ]
            refine wpAnyH_ready (rs := [13]) (by kernel_rfl) (by simp) ?_
            refine AllReadyH.cons (o := { dst := some 12, op := Op.alloc 50, type := 0, pos := "trial.go:63", after := #[], guard := none }) rfl (fun K hK => ?_) AllReadyH.nil
            go_simp
            have hWa := hide' (hW9.out.over ((Below.refl _ w9).alloc (Nat.le_refl _) (.cells #[.int .u64 0] 50))); have hNa : Hid (Bo (w9.alloc (.cells #[.int .u64 0] 50)) w9.heap.size (.int .u64 0)) := (Bo.new w9 (.int .u64 0) 50); have hgn : V.heap.size + 2 ≤ w9.heap.size := hW9.out.sz; have hne2 := hide' hW9.out.ne; have cxa := hWa.out.bx.c; (try dsimp only)
            refine hK.out _ _ ?_ (fun hHeld => ?_)
            · assumption
            clear hK K
            try simp only [Act.put, List.setIfInBounds_toArray, List.set_cons_zero, List.set_cons_succ]
            refine wpAnyH_ready (rs := [14]) (by kernel_rfl) (by simp) ?_
            refine AllReadyH.cons (o := { dst := none, op := Op.store 50 (Operand.tmp 12) (Operand.tmp 45), type := 0, pos := "trial.go:63", after := #[{ on := 13, ground := Ground.data }, { on := 11, ground := Ground.data }, { on := 9, ground := Ground.chain }, { on := 0, ground := Ground.phase }, { on := 1, ground := Ground.phase }, { on := 2, ground := Ground.phase }, { on := 3, ground := Ground.phase }, { on := 4, ground := Ground.phase }, { on := 5, ground := Ground.phase }, { on := 6, ground := Ground.phase }, { on := 7, ground := Ground.phase }, { on := 8, ground := Ground.phase }, { on := 9, ground := Ground.phase }, { on := 10, ground := Ground.phase }, { on := 11, ground := Ground.phase }, { on := 12, ground := Ground.textOnly Departure.lateStores }, { on := 13, ground := Ground.phase }], guard := none }) rfl (fun K hK => ?_) AllReadyH.nil
            (try have n9c := hN9.out.c); (try have n9f := hN9.out.fz); go_simp
            refine hK.out _ _ ?_ (fun hHeld => ?_)
            · exact (hW9.out.over ((Below.refl _ w9).alloc (Nat.le_refl _) (.cells #[.int .u64 (y : Int)] 50))).bx.c
            clear hK K
            try simp only [Act.put, List.setIfInBounds_toArray, List.set_cons_zero, List.set_cons_succ]
            refine wpAnyH_take (i := 15) (oi := { dst := some 13, op := Op.assign (Operand.tmp 46), type := 4, pos := "trial.go:63", after := #[{ on := 12, ground := Ground.data }, { on := 14, ground := Ground.chain }, { on := 0, ground := Ground.phase }, { on := 1, ground := Ground.phase }, { on := 2, ground := Ground.phase }, { on := 3, ground := Ground.phase }, { on := 4, ground := Ground.phase }, { on := 5, ground := Ground.phase }, { on := 6, ground := Ground.phase }, { on := 7, ground := Ground.phase }, { on := 8, ground := Ground.phase }, { on := 9, ground := Ground.phase }, { on := 10, ground := Ground.phase }, { on := 11, ground := Ground.phase }, { on := 12, ground := Ground.phase }, { on := 13, ground := Ground.phase }, { on := 14, ground := Ground.phase }], guard := none }) (v := ?_) rfl (by kernel_rfl) (by kernel_rfl) (by kernel_rfl) (fun _ _ _ h => h) (Or.inl ⟨by rfl, ?_⟩) (by assumption) ?_
            rotate_left
            · intro w hSw; (try dsimp only at hSw); go_simp <;> with_reducible rfl
            simp only [Act.put, List.setIfInBounds_toArray, List.set_cons_zero, List.set_cons_succ]
            refine wpAnyH_done (by kernel_rfl) ?_ _
            skip
            have hWz := hide' (hW9.out.over ((Below.refl _ w9).alloc (Nat.le_refl _) (.cells #[.int .u64 (y : Int)] 50)))
            have nz := (Bo.new w9 (.int .u64 (y : Int)) 50).c
            have rzc := hWz.out.br.c
            have rzf := hWz.out.br.fz
            have rz2 := (hWz.out.br.set (.int .u64 (y : Int))).c
            (try clear n9c n9f)
            cases bs
            · have hnn := hide' (hrN.out rfl)
              clear hrN hrS hend rz2 nz
              go_wp2
              have hmul := hWz
              rw [show j * q + q = (j + 1) * q from (Nat.succ_mul j q).symm] at hmul
              refine ⟨?_, by simp [intOf]; omega⟩
              (repeat apply Exists.intro)
              exact ⟨⟨j + 1, .inr (by omega), by go_num, hnn, dv2, D2, a2, b2, c2, hmul⟩, rfl⟩
            · have hE := hide' (hend.out _ _ _ _ _ _ hWz.out (hrS.out rfl))
              clear hrN hrS hend
              go_wp2
              exact bodyPost_ret (v := .tuple #[.agg #[.int .u64 (y : Int)], .bool true]) (by simp [results, Tryz.results44, go_sem, rz2]) rfl hE.out
          refine AllReadyH.cons (o := { dst := some 12, op := Op.alloc 50, type := 0, pos := "trial.go:63", after := #[], guard := none }) rfl (fun K hK => ?_) AllReadyH.nil
          go_simp
          have hWa := hide' (hW4.out.over ((Below.refl _ w4).alloc (Nat.le_refl _) (.cells #[.int .u64 0] 50))); have hNa : Hid (Bo (w4.alloc (.cells #[.int .u64 0] 50)) w4.heap.size (.int .u64 0)) := (Bo.new w4 (.int .u64 0) 50); have hgn : V.heap.size + 2 ≤ w4.heap.size := hW4.out.sz; have hnd := hide' hW4.out.ne; have cxa := hWa.out.bx.c; (try dsimp only)
          refine hK.out _ _ ?_ (fun hHeld => ?_)
          · assumption
          clear hK K
          try simp only [Act.put, List.setIfInBounds_toArray, List.set_cons_zero, List.set_cons_succ]
          refine wpAnyH_ready (rs := [9]) (by kernel_rfl) (by simp) ?_
          refine AllReadyH.cons (o := { dst := some 44, op := Op.call { callee := Callee.value (Operand.func 44), args := #[Operand.tmp 35, Operand.tmp 39, Operand.tmp 41, Operand.tmp 43], argTypes := #[54, 50, 3, 3] }, type := 53, pos := "trial.go:63", after := #[{ on := 0, ground := Ground.data }, { on := 4, ground := Ground.data }, { on := 6, ground := Ground.data }, { on := 8, ground := Ground.data }, { on := 4, ground := Ground.chain }], guard := none }) rfl (fun K hK => ?_) AllReadyH.nil
          go_simp
          go_at_call 44; refine (KW.out _ _ _ hWa.out (by first | omega | (rw [IntKind.wrap_i64]; omega)) (by first | omega | (rw [IntKind.wrap_i64]; omega))).mono ?_; rintro e w9 ⟨rfl, ⟨dv2, D2, a2, b2, c2, hW9, hd9⟩, hk9⟩; have cx9 := hW9.out.bx.c; have hN9 := hide' (hk9.out _ _ hNa.out (by have := hlo.out; have := hgn; omega) (by have := hgn; omega) hnd.out); have hne2 : Hid (dv2.ownBlock ≠ some (w4.heap.size)) := (fun e => (hd9.out _ e).elim hnd.out (fun q => by have := hNa.out.lt; omega)); (try dsimp only)
          refine hK.out _ _ ?_ (fun hHeld => ?_)
          · assumption
          clear hK K
          try simp only [Act.put, List.setIfInBounds_toArray, List.set_cons_zero, List.set_cons_succ]
          refine wpAnyH_take (i := 10) (oi := { dst := some 34, op := Op.move (Operand.tmp 44), type := 53, pos := "trial.go:63", after := #[{ on := 9, ground := Ground.data }], guard := none }) (v := ?_) rfl (by kernel_rfl) (by kernel_rfl) (by kernel_rfl) (fun _ _ _ h => h) (Or.inl ⟨by rfl, ?_⟩) (by assumption) ?_
          rotate_left
          · intro w hSw; (try dsimp only at hSw); go_simp <;> with_reducible rfl
          simp only [Act.put, List.setIfInBounds_toArray, List.set_cons_zero, List.set_cons_succ]
          refine wpAnyH_take (i := 11) (oi := { dst := some 45, op := Op.extract (Operand.tmp 34) 0, type := 50, pos := "trial.go:63", after := #[{ on := 10, ground := Ground.data }], guard := none }) (v := ?_) rfl (by kernel_rfl) (by kernel_rfl) (by kernel_rfl) (fun _ _ _ h => h) (Or.inl ⟨by rfl, ?_⟩) (by assumption) ?_
          rotate_left
          · intro w hSw; (try dsimp only at hSw); go_simp <;> with_reducible rfl
          simp only [Act.put, List.setIfInBounds_toArray, List.set_cons_zero, List.set_cons_succ]
          refine wpAnyH_take (i := 12) (oi := { dst := some 46, op := Op.extract (Operand.tmp 34) 1, type := 4, pos := "trial.go:63", after := #[{ on := 10, ground := Ground.data }, { on := 14, ground := Ground.gcOnly Departure.lateStores }], guard := none }) (v := ?_) rfl (by kernel_rfl) (by kernel_rfl) (by kernel_rfl) (fun _ _ _ h => h) (Or.inl ⟨by rfl, ?_⟩) (by assumption) ?_
          rotate_left
          · intro w hSw; (try dsimp only at hSw); go_simp <;> with_reducible rfl
          simp only [Act.put, List.setIfInBounds_toArray, List.set_cons_zero, List.set_cons_succ]
          refine wpAnyH_ready (rs := [14]) (by kernel_rfl) (by simp) ?_
          refine AllReadyH.cons (o := { dst := none, op := Op.store 50 (Operand.tmp 12) (Operand.tmp 45), type := 0, pos := "trial.go:63", after := #[{ on := 13, ground := Ground.data }, { on := 11, ground := Ground.data }, { on := 9, ground := Ground.chain }, { on := 0, ground := Ground.phase }, { on := 1, ground := Ground.phase }, { on := 2, ground := Ground.phase }, { on := 3, ground := Ground.phase }, { on := 4, ground := Ground.phase }, { on := 5, ground := Ground.phase }, { on := 6, ground := Ground.phase }, { on := 7, ground := Ground.phase }, { on := 8, ground := Ground.phase }, { on := 9, ground := Ground.phase }, { on := 10, ground := Ground.phase }, { on := 11, ground := Ground.phase }, { on := 12, ground := Ground.textOnly Departure.lateStores }, { on := 13, ground := Ground.phase }], guard := none }) rfl (fun K hK => ?_) AllReadyH.nil
          (try have n9c := hN9.out.c); (try have n9f := hN9.out.fz); go_simp
          refine hK.out _ _ ?_ (fun hHeld => ?_)
          · exact (hW9.out.box hgn hne2.out _).bx.c
          clear hK K
          try simp only [Act.put, List.setIfInBounds_toArray, List.set_cons_zero, List.set_cons_succ]
          refine wpAnyH_take (i := 15) (oi := { dst := some 13, op := Op.assign (Operand.tmp 46), type := 4, pos := "trial.go:63", after := #[{ on := 12, ground := Ground.data }, { on := 14, ground := Ground.chain }, { on := 0, ground := Ground.phase }, { on := 1, ground := Ground.phase }, { on := 2, ground := Ground.phase }, { on := 3, ground := Ground.phase }, { on := 4, ground := Ground.phase }, { on := 5, ground := Ground.phase }, { on := 6, ground := Ground.phase }, { on := 7, ground := Ground.phase }, { on := 8, ground := Ground.phase }, { on := 9, ground := Ground.phase }, { on := 10, ground := Ground.phase }, { on := 11, ground := Ground.phase }, { on := 12, ground := Ground.phase }, { on := 13, ground := Ground.phase }, { on := 14, ground := Ground.phase }], guard := none }) (v := ?_) rfl (by kernel_rfl) (by kernel_rfl) (by kernel_rfl) (fun _ _ _ h => h) (Or.inl ⟨by rfl, ?_⟩) (by assumption) ?_
          rotate_left
          · intro w hSw; (try dsimp only at hSw); go_simp <;> with_reducible rfl
          simp only [Act.put, List.setIfInBounds_toArray, List.set_cons_zero, List.set_cons_succ]
          refine wpAnyH_done (by kernel_rfl) ?_ _
          skip
          have hWz := hide' (hW9.out.box hgn hne2.out (.int .u64 (y : Int)))
          have nz := (hN9.out.set (.int .u64 (y : Int))).c
          have rzc := hWz.out.br.c
          have rzf := hWz.out.br.fz
          have rz2 := (hWz.out.br.set (.int .u64 (y : Int))).c
          (try clear n9c n9f)
          cases bs
          · have hnn := hide' (hrN.out rfl)
            clear hrN hrS hend rz2 nz
            go_wp2
            have hmul := hWz
            rw [show j * q + q = (j + 1) * q from (Nat.succ_mul j q).symm] at hmul
            refine ⟨?_, by simp [intOf]; omega⟩
            (repeat apply Exists.intro)
            exact ⟨⟨j + 1, .inr (by omega), by go_num, hnn, dv2, D2, a2, b2, c2, hmul⟩, rfl⟩
          · have hE := hide' (hend.out _ _ _ _ _ _ hWz.out (hrS.out rfl))
            clear hrN hrS hend
            go_wp2
            exact bodyPost_ret (v := .tuple #[.agg #[.int .u64 (y : Int)], .bool true]) (by simp [results, Tryz.results44, go_sem, rz2]) rfl hE.out
        refine AllReadyH.cons (o := { dst := some 12, op := Op.alloc 50, type := 0, pos := "trial.go:63", after := #[], guard := none }) rfl (fun K hK => ?_) AllReadyH.nil
        go_simp
        have hWa := hide' (hW3.out.over ((Below.refl _ w3).alloc (Nat.le_refl _) (.cells #[.int .u64 0] 50))); have hNa : Hid (Bo (w3.alloc (.cells #[.int .u64 0] 50)) w3.heap.size (.int .u64 0)) := (Bo.new w3 (.int .u64 0) 50); have hgn : V.heap.size + 2 ≤ w3.heap.size := hW3.out.sz; have hnd := hide' hW3.out.ne; have cxa := hWa.out.bx.c; (try dsimp only)
        refine hK.out _ _ ?_ (fun hHeld => ?_)
        · assumption
        clear hK K
        try simp only [Act.put, List.setIfInBounds_toArray, List.set_cons_zero, List.set_cons_succ]
        refine wpAnyH_ready (rs := [4]) (by kernel_rfl) (by simp) ?_
        refine AllReadyH.cons (o := { dst := some 39, op := Op.call { callee := Callee.value (Operand.func 31), args := #[Operand.tmp 36, Operand.tmp 38], argTypes := #[50, 50] }, type := 50, pos := "trial.go:63", after := #[{ on := 1, ground := Ground.data }, { on := 3, ground := Ground.data }, { on := 3, ground := Ground.chain }], guard := none }) rfl (fun K hK => ?_) AllReadyH.nil
        go_simp
        go_at_call 31; refine (KOr.out _).mono ?_; rintro e w4 ⟨rfl, hb4⟩; have hW4 := hide' (hWa.out.over hb4); have cx4 := hW4.out.bx.c; have hN4 := hide' (hNa.out.over hb4); (try dsimp only)
        refine hK.out _ _ ?_ (fun hHeld => ?_)
        · assumption
        clear hK K
        try simp only [Act.put, List.setIfInBounds_toArray, List.set_cons_zero, List.set_cons_succ]
        refine wpAnyH_ready (rs := [9]) (by kernel_rfl) (by simp) ?_
        refine AllReadyH.cons (o := { dst := some 44, op := Op.call { callee := Callee.value (Operand.func 44), args := #[Operand.tmp 35, Operand.tmp 39, Operand.tmp 41, Operand.tmp 43], argTypes := #[54, 50, 3, 3] }, type := 53, pos := "trial.go:63", after := #[{ on := 0, ground := Ground.data }, { on := 4, ground := Ground.data }, { on := 6, ground := Ground.data }, { on := 8, ground := Ground.data }, { on := 4, ground := Ground.chain }], guard := none }) rfl (fun K hK => ?_) AllReadyH.nil
        go_simp
        go_at_call 44; refine (KW.out _ _ _ hW4.out (by first | omega | (rw [IntKind.wrap_i64]; omega)) (by first | omega | (rw [IntKind.wrap_i64]; omega))).mono ?_; rintro e w9 ⟨rfl, ⟨dv2, D2, a2, b2, c2, hW9, hd9⟩, hk9⟩; have cx9 := hW9.out.bx.c; have hN9 := hide' (hk9.out _ _ hN4.out (by have := hlo.out; have := hgn; omega) (by have := hgn; omega) hnd.out); have hne2 : Hid (dv2.ownBlock ≠ some (w3.heap.size)) := (fun e => (hd9.out _ e).elim hnd.out (fun q => by have := hN4.out.lt; omega)); (try dsimp only)
        refine hK.out _ _ ?_ (fun hHeld => ?_)
        · assumption
        clear hK K
        try simp only [Act.put, List.setIfInBounds_toArray, List.set_cons_zero, List.set_cons_succ]
        refine wpAnyH_take (i := 10) (oi := { dst := some 34, op := Op.move (Operand.tmp 44), type := 53, pos := "trial.go:63", after := #[{ on := 9, ground := Ground.data }], guard := none }) (v := ?_) rfl (by kernel_rfl) (by kernel_rfl) (by kernel_rfl) (fun _ _ _ h => h) (Or.inl ⟨by rfl, ?_⟩) (by assumption) ?_
        rotate_left
        · intro w hSw; (try dsimp only at hSw); go_simp <;> with_reducible rfl
        simp only [Act.put, List.setIfInBounds_toArray, List.set_cons_zero, List.set_cons_succ]
        refine wpAnyH_take (i := 11) (oi := { dst := some 45, op := Op.extract (Operand.tmp 34) 0, type := 50, pos := "trial.go:63", after := #[{ on := 10, ground := Ground.data }], guard := none }) (v := ?_) rfl (by kernel_rfl) (by kernel_rfl) (by kernel_rfl) (fun _ _ _ h => h) (Or.inl ⟨by rfl, ?_⟩) (by assumption) ?_
        rotate_left
        · intro w hSw; (try dsimp only at hSw); go_simp <;> with_reducible rfl
        simp only [Act.put, List.setIfInBounds_toArray, List.set_cons_zero, List.set_cons_succ]
        refine wpAnyH_take (i := 12) (oi := { dst := some 46, op := Op.extract (Operand.tmp 34) 1, type := 4, pos := "trial.go:63", after := #[{ on := 10, ground := Ground.data }, { on := 14, ground := Ground.gcOnly Departure.lateStores }], guard := none }) (v := ?_) rfl (by kernel_rfl) (by kernel_rfl) (by kernel_rfl) (fun _ _ _ h => h) (Or.inl ⟨by rfl, ?_⟩) (by assumption) ?_
        rotate_left
        · intro w hSw; (try dsimp only at hSw); go_simp <;> with_reducible rfl
        simp only [Act.put, List.setIfInBounds_toArray, List.set_cons_zero, List.set_cons_succ]
        refine wpAnyH_ready (rs := [14]) (by kernel_rfl) (by simp) ?_
        refine AllReadyH.cons (o := { dst := none, op := Op.store 50 (Operand.tmp 12) (Operand.tmp 45), type := 0, pos := "trial.go:63", after := #[{ on := 13, ground := Ground.data }, { on := 11, ground := Ground.data }, { on := 9, ground := Ground.chain }, { on := 0, ground := Ground.phase }, { on := 1, ground := Ground.phase }, { on := 2, ground := Ground.phase }, { on := 3, ground := Ground.phase }, { on := 4, ground := Ground.phase }, { on := 5, ground := Ground.phase }, { on := 6, ground := Ground.phase }, { on := 7, ground := Ground.phase }, { on := 8, ground := Ground.phase }, { on := 9, ground := Ground.phase }, { on := 10, ground := Ground.phase }, { on := 11, ground := Ground.phase }, { on := 12, ground := Ground.textOnly Departure.lateStores }, { on := 13, ground := Ground.phase }], guard := none }) rfl (fun K hK => ?_) AllReadyH.nil
        (try have n9c := hN9.out.c); (try have n9f := hN9.out.fz); go_simp
        refine hK.out _ _ ?_ (fun hHeld => ?_)
        · exact (hW9.out.box hgn hne2.out _).bx.c
        clear hK K
        try simp only [Act.put, List.setIfInBounds_toArray, List.set_cons_zero, List.set_cons_succ]
        refine wpAnyH_take (i := 15) (oi := { dst := some 13, op := Op.assign (Operand.tmp 46), type := 4, pos := "trial.go:63", after := #[{ on := 12, ground := Ground.data }, { on := 14, ground := Ground.chain }, { on := 0, ground := Ground.phase }, { on := 1, ground := Ground.phase }, { on := 2, ground := Ground.phase }, { on := 3, ground := Ground.phase }, { on := 4, ground := Ground.phase }, { on := 5, ground := Ground.phase }, { on := 6, ground := Ground.phase }, { on := 7, ground := Ground.phase }, { on := 8, ground := Ground.phase }, { on := 9, ground := Ground.phase }, { on := 10, ground := Ground.phase }, { on := 11, ground := Ground.phase }, { on := 12, ground := Ground.phase }, { on := 13, ground := Ground.phase }, { on := 14, ground := Ground.phase }], guard := none }) (v := ?_) rfl (by kernel_rfl) (by kernel_rfl) (by kernel_rfl) (fun _ _ _ h => h) (Or.inl ⟨by rfl, ?_⟩) (by assumption) ?_
        rotate_left
        · intro w hSw; (try dsimp only at hSw); go_simp <;> with_reducible rfl
        simp only [Act.put, List.setIfInBounds_toArray, List.set_cons_zero, List.set_cons_succ]
        refine wpAnyH_done (by kernel_rfl) ?_ _
        skip
        have hWz := hide' (hW9.out.box hgn hne2.out (.int .u64 (y : Int)))
        have nz := (hN9.out.set (.int .u64 (y : Int))).c
        have rzc := hWz.out.br.c
        have rzf := hWz.out.br.fz
        have rz2 := (hWz.out.br.set (.int .u64 (y : Int))).c
        (try clear n9c n9f)
        cases bs
        · have hnn := hide' (hrN.out rfl)
          clear hrN hrS hend rz2 nz
          go_wp2
          have hmul := hWz
          rw [show j * q + q = (j + 1) * q from (Nat.succ_mul j q).symm] at hmul
          refine ⟨?_, by simp [intOf]; omega⟩
          (repeat apply Exists.intro)
          exact ⟨⟨j + 1, .inr (by omega), by go_num, hnn, dv2, D2, a2, b2, c2, hmul⟩, rfl⟩
        · have hE := hide' (hend.out _ _ _ _ _ _ hWz.out (hrS.out rfl))
          clear hrN hrS hend
          go_wp2
          exact bodyPost_ret (v := .tuple #[.agg #[.int .u64 (y : Int)], .bool true]) (by simp [results, Tryz.results44, go_sem, rz2]) rfl hE.out
      refine AllReadyH.cons (o := { dst := some 12, op := Op.alloc 50, type := 0, pos := "trial.go:63", after := #[], guard := none }) rfl (fun K hK => ?_) AllReadyH.nil
      go_simp
      have hWa := hide' (hWd.out.over ((Below.refl _ wr.drew).alloc (Nat.le_refl _) (.cells #[.int .u64 0] 50))); have hNa : Hid (Bo (wr.drew.alloc (.cells #[.int .u64 0] 50)) wr.heap.size (.int .u64 0)) := (Bo.new wr.drew (.int .u64 0) 50); have hgn : V.heap.size + 2 ≤ wr.heap.size := hWd.out.sz; have hnd := hide' hWd.out.ne; have cxa := hWa.out.bx.c; (try dsimp only)
      refine hK.out _ _ ?_ (fun hHeld => ?_)
      · assumption
      clear hK K
      try simp only [Act.put, List.setIfInBounds_toArray, List.set_cons_zero, List.set_cons_succ]
      refine wpAnyH_ready (rs := [3]) (by kernel_rfl) (by simp) ?_
      refine AllReadyH.cons (o := { dst := some 38, op := Op.call { callee := Callee.value (Operand.func 30), args := #[Operand.tmp 37], argTypes := #[3] }, type := 50, pos := "trial.go:63", after := #[{ on := 2, ground := Ground.data }], guard := none }) rfl (fun K hK => ?_) AllReadyH.nil
      go_simp
      go_at_call 30; refine (KOn.out _ _ (by omega)).mono ?_; rintro e w3 ⟨rfl, hb3⟩; have hW3 := hide' (hWa.out.over hb3); have cx3 := hW3.out.bx.c; have hN3 := hide' (hNa.out.over hb3); (try dsimp only)
      refine hK.out _ _ ?_ (fun hHeld => ?_)
      · assumption
      clear hK K
      try simp only [Act.put, List.setIfInBounds_toArray, List.set_cons_zero, List.set_cons_succ]
      refine wpAnyH_ready (rs := [4]) (by kernel_rfl) (by simp) ?_
      refine AllReadyH.cons (o := { dst := some 39, op := Op.call { callee := Callee.value (Operand.func 31), args := #[Operand.tmp 36, Operand.tmp 38], argTypes := #[50, 50] }, type := 50, pos := "trial.go:63", after := #[{ on := 1, ground := Ground.data }, { on := 3, ground := Ground.data }, { on := 3, ground := Ground.chain }], guard := none }) rfl (fun K hK => ?_) AllReadyH.nil
      go_simp
      go_at_call 31; refine (KOr.out _).mono ?_; rintro e w4 ⟨rfl, hb4⟩; have hW4 := hide' (hW3.out.over hb4); have cx4 := hW4.out.bx.c; have hN4 := hide' (hN3.out.over hb4); (try dsimp only)
      refine hK.out _ _ ?_ (fun hHeld => ?_)
      · assumption
      clear hK K
      try simp only [Act.put, List.setIfInBounds_toArray, List.set_cons_zero, List.set_cons_succ]
      refine wpAnyH_ready (rs := [9]) (by kernel_rfl) (by simp) ?_
      refine AllReadyH.cons (o := { dst := some 44, op := Op.call { callee := Callee.value (Operand.func 44), args := #[Operand.tmp 35, Operand.tmp 39, Operand.tmp 41, Operand.tmp 43], argTypes := #[54, 50, 3, 3] }, type := 53, pos := "trial.go:63", after := #[{ on := 0, ground := Ground.data }, { on := 4, ground := Ground.data }, { on := 6, ground := Ground.data }, { on := 8, ground := Ground.data }, { on := 4, ground := Ground.chain }], guard := none }) rfl (fun K hK => ?_) AllReadyH.nil
      go_simp
      go_at_call 44; refine (KW.out _ _ _ hW4.out (by first | omega | (rw [IntKind.wrap_i64]; omega)) (by first | omega | (rw [IntKind.wrap_i64]; omega))).mono ?_; rintro e w9 ⟨rfl, ⟨dv2, D2, a2, b2, c2, hW9, hd9⟩, hk9⟩; have cx9 := hW9.out.bx.c; have hN9 := hide' (hk9.out _ _ hN4.out (by have := hlo.out; have := hgn; omega) (by have := hgn; omega) hnd.out); have hne2 : Hid (dv2.ownBlock ≠ some (wr.heap.size)) := (fun e => (hd9.out _ e).elim hnd.out (fun q => by have := hN4.out.lt; omega)); (try dsimp only)
      refine hK.out _ _ ?_ (fun hHeld => ?_)
      · assumption
      clear hK K
      try simp only [Act.put, List.setIfInBounds_toArray, List.set_cons_zero, List.set_cons_succ]
      refine wpAnyH_take (i := 10) (oi := { dst := some 34, op := Op.move (Operand.tmp 44), type := 53, pos := "trial.go:63", after := #[{ on := 9, ground := Ground.data }], guard := none }) (v := ?_) rfl (by kernel_rfl) (by kernel_rfl) (by kernel_rfl) (fun _ _ _ h => h) (Or.inl ⟨by rfl, ?_⟩) (by assumption) ?_
      rotate_left
      · intro w hSw; (try dsimp only at hSw); go_simp <;> with_reducible rfl
      simp only [Act.put, List.setIfInBounds_toArray, List.set_cons_zero, List.set_cons_succ]
      refine wpAnyH_take (i := 11) (oi := { dst := some 45, op := Op.extract (Operand.tmp 34) 0, type := 50, pos := "trial.go:63", after := #[{ on := 10, ground := Ground.data }], guard := none }) (v := ?_) rfl (by kernel_rfl) (by kernel_rfl) (by kernel_rfl) (fun _ _ _ h => h) (Or.inl ⟨by rfl, ?_⟩) (by assumption) ?_
      rotate_left
      · intro w hSw; (try dsimp only at hSw); go_simp <;> with_reducible rfl
      simp only [Act.put, List.setIfInBounds_toArray, List.set_cons_zero, List.set_cons_succ]
      refine wpAnyH_take (i := 12) (oi := { dst := some 46, op := Op.extract (Operand.tmp 34) 1, type := 4, pos := "trial.go:63", after := #[{ on := 10, ground := Ground.data }, { on := 14, ground := Ground.gcOnly Departure.lateStores }], guard := none }) (v := ?_) rfl (by kernel_rfl) (by kernel_rfl) (by kernel_rfl) (fun _ _ _ h => h) (Or.inl ⟨by rfl, ?_⟩) (by assumption) ?_
      rotate_left
      · intro w hSw; (try dsimp only at hSw); go_simp <;> with_reducible rfl
      simp only [Act.put, List.setIfInBounds_toArray, List.set_cons_zero, List.set_cons_succ]
      refine wpAnyH_ready (rs := [14]) (by kernel_rfl) (by simp) ?_
      refine AllReadyH.cons (o := { dst := none, op := Op.store 50 (Operand.tmp 12) (Operand.tmp 45), type := 0, pos := "trial.go:63", after := #[{ on := 13, ground := Ground.data }, { on := 11, ground := Ground.data }, { on := 9, ground := Ground.chain }, { on := 0, ground := Ground.phase }, { on := 1, ground := Ground.phase }, { on := 2, ground := Ground.phase }, { on := 3, ground := Ground.phase }, { on := 4, ground := Ground.phase }, { on := 5, ground := Ground.phase }, { on := 6, ground := Ground.phase }, { on := 7, ground := Ground.phase }, { on := 8, ground := Ground.phase }, { on := 9, ground := Ground.phase }, { on := 10, ground := Ground.phase }, { on := 11, ground := Ground.phase }, { on := 12, ground := Ground.textOnly Departure.lateStores }, { on := 13, ground := Ground.phase }], guard := none }) rfl (fun K hK => ?_) AllReadyH.nil
      (try have n9c := hN9.out.c); (try have n9f := hN9.out.fz); go_simp
      refine hK.out _ _ ?_ (fun hHeld => ?_)
      · exact (hW9.out.box hgn hne2.out _).bx.c
      clear hK K
      try simp only [Act.put, List.setIfInBounds_toArray, List.set_cons_zero, List.set_cons_succ]
      refine wpAnyH_take (i := 15) (oi := { dst := some 13, op := Op.assign (Operand.tmp 46), type := 4, pos := "trial.go:63", after := #[{ on := 12, ground := Ground.data }, { on := 14, ground := Ground.chain }, { on := 0, ground := Ground.phase }, { on := 1, ground := Ground.phase }, { on := 2, ground := Ground.phase }, { on := 3, ground := Ground.phase }, { on := 4, ground := Ground.phase }, { on := 5, ground := Ground.phase }, { on := 6, ground := Ground.phase }, { on := 7, ground := Ground.phase }, { on := 8, ground := Ground.phase }, { on := 9, ground := Ground.phase }, { on := 10, ground := Ground.phase }, { on := 11, ground := Ground.phase }, { on := 12, ground := Ground.phase }, { on := 13, ground := Ground.phase }, { on := 14, ground := Ground.phase }], guard := none }) (v := ?_) rfl (by kernel_rfl) (by kernel_rfl) (by kernel_rfl) (fun _ _ _ h => h) (Or.inl ⟨by rfl, ?_⟩) (by assumption) ?_
      rotate_left
      · intro w hSw; (try dsimp only at hSw); go_simp <;> with_reducible rfl
      simp only [Act.put, List.setIfInBounds_toArray, List.set_cons_zero, List.set_cons_succ]
      refine wpAnyH_done (by kernel_rfl) ?_ _
      skip
      have hWz := hide' (hW9.out.box hgn hne2.out (.int .u64 (y : Int)))
      have nz := (hN9.out.set (.int .u64 (y : Int))).c
      have rzc := hWz.out.br.c
      have rzf := hWz.out.br.fz
      have rz2 := (hWz.out.br.set (.int .u64 (y : Int))).c
      (try clear n9c n9f)
      cases bs
      · have hnn := hide' (hrN.out rfl)
        clear hrN hrS hend rz2 nz
        go_wp2
        have hmul := hWz
        rw [show j * q + q = (j + 1) * q from (Nat.succ_mul j q).symm] at hmul
        refine ⟨?_, by simp [intOf]; omega⟩
        (repeat apply Exists.intro)
        exact ⟨⟨j + 1, .inr (by omega), by go_num, hnn, dv2, D2, a2, b2, c2, hmul⟩, rfl⟩
      · have hE := hide' (hend.out _ _ _ _ _ _ hWz.out (hrS.out rfl))
        clear hrN hrS hend
        go_wp2
        exact bodyPost_ret (v := .tuple #[.agg #[.int .u64 (y : Int)], .bool true]) (by simp [results, Tryz.results44, go_sem, rz2]) rfl hE.out
    · have hno' : Hid (rr = none) := hnone.out fun i hi => hno.out i (by omega)
      have hjq : j * q ≤ 64 * q := Nat.mul_le_mul_right _ (by omega)
      have rc := hW.out.br.c
      have rz := hW.out.br.fz
      have hend : Hid (WkP V0 gs P wv fv rv dv D a b c (64 * q) rr V (.returned (.tuple #[.agg #[.int .u64 0], .bool false])) (wr.setCell ⟨V.heap.size + 1, 0, none⟩ (.int .u64 0))) := by
        show WkP _ _ _ _ _ _ _ _ _ _ _ _ _ _ _ _
        unfold WkP
        rw [hno'.out]
        exact ⟨rfl, hW.out.fin hjq _⟩
      have rc2 : (wr.setCell ⟨V.heap.size + 1, 0, none⟩ (.int .u64 0)).cell? ⟨V.heap.size + 1, 0, none⟩ = some (.int .u64 0) := (hW.out.br.set (.int .u64 0)).c
      clear hnone hsome hno hno' hW hbd IH'
      have hge : ¬ ((j : Int) < (U : Int) - (f : Int)) := by omega
      go_wp2
      refine bodyPost_ret (v := .tuple #[.agg #[.int .u64 0], .bool false]) (by simp [results, Tryz.results44, go_sem, rc2]) rfl hend.out
end Go.Proofs.YtmbdnhgmpmnhmaaGreatDoor.S
namespace Go.Proofs.YtmbdnhgmpmnhmaaGreatDoor.S
open Go.RowKit Go.Shelf
theorem wekF (V0 : World) (gs : Nat) (P : Pb) (wv fv rv : Value) (hk : Pok P) (hC : chkN P = 0) : ∀ (m : Nat), m ≤ 3 → ∀ (dv : Value) (D : List Nat) (a b c x f : Nat) (V : World) (zf zm : Int), Tr V0 gs P wv fv rv dv D a b c V → x < 18446744073709551616 → f ≤ 64 → zf = f → zm = m → D.length + 64 ^ m ≤ 1000000 → a + 64 ^ m * 4000000000000 ≤ 1152921504606846976 → b + 64 ^ m * 4000000000000 ≤ 1152921504606846976 → c + 64 ^ m * 4000000000000 ≤ 1152921504606846976 →
      Calls Tryz.prog 44 #[.pointer (some ⟨V0.heap.size, 0, none⟩), .agg #[.int .u64 (x : Int)], .int .i64 zf, .int .i64 zm] V (WkP V0 gs P wv fv rv dv D a b c (64 ^ m) (wekP P m x f) V)
  | 0, _, dv, D, a, b, c, x, f, V, _, _, h, hx, _, rfl, rfl, hD, ha, hb, hc => by
    rw [Nat.pow_zero] at hD ha hb hc ⊢
    exact wek0F V0 gs P wv fv rv dv D a b c x f V h hk hC hx (by omega) (by omega) (by omega) (by omega)
  | m + 1, hm, dv, D, a, b, c, x, f, V, _, _, h, hx, hf, rfl, rfl, hD, ha, hb, hc => by
    have e : 64 ^ (m + 1) = 64 * 64 ^ m := by rw [Nat.pow_succ, Nat.mul_comm]
    rw [e] at hD ha hb hc ⊢
    exact wekSF V0 gs P wv fv rv hk hC m (64 ^ m) (by omega) (fun dv D a b c x f V zf zm h hx hf h1 h2 => wekF V0 gs P wv fv rv hk hC m (by omega) dv D a b c x f V zf zm h hx hf h1 h2) dv D a b c x f V h hx hf hD ha hb hc
end Go.Proofs.YtmbdnhgmpmnhmaaGreatDoor.S
namespace Go.Proofs.YtmbdnhgmpmnhmaaGreatDoor.S
open Go.RowKit Go.Shelf
theorem wekP_re {P : Pb} (hC : chkN P = 0) {O : List Nat} (hO : O.Perm (List.range P.who.length)) : ∀ (m x f : Nat), wekP (reP P O) m x f = wekP P m x f
  | 0, x, f => by unfold wekP; rw [can_les_re hC hO]
  | m + 1, x, f => by
    unfold wekP
    show (List.range (P.users.toNat - f)).findSome? _ = _
    congr 1
    funext a
    exact wekP_re hC hO m _ _
theorem pok_reP {P : Pb} (hk : Pok P) (hC : chkN P = 0) {O : List Nat} (hO : O.Perm (List.range P.who.length)) : Pok (reP P O) := by
  obtain ⟨g12, g0, g64, g32, gF, gW, gR⟩ := chkN_zero hC
  have hl : O.length = P.who.length := re_len hO
  refine ⟨?_, ?_, ?_, ?_, ?_⟩
  · show (reW P O).length ≤ 1000; unfold reW; rw [List.length_map, hl]; exact hk.w
  · show (reF P O).length ≤ 1000; unfold reF; rw [List.length_map, hl]; exact hk.w
  · show (P.rules.map (reR O)).length ≤ 1000; rw [List.length_map]; exact hk.r
  · intro r hr
    obtain ⟨r0, _, rfl⟩ := List.mem_map.1 hr
    show (movN r0.steps (ints O)).length ≤ 1000
    have := movJ_len r0.steps (ints O) (ints O).length
    rw [ints_len, hl] at this
    have := hk.w
    unfold movN
    rw [ints_len, hl]
    omega
  · intro z hz
    obtain ⟨t, _, rfl⟩ := List.mem_map.1 (show z ∈ O.map (fun t => P.who.getD t 0) from hz)
    rcases Nat.lt_or_ge t P.who.length with h | h
    · rw [List.getD_eq_getElem?_getD, List.getElem?_eq_getElem h]
      exact hk.b _ (List.getElem_mem h)
    · rw [List.getD_eq_getElem?_getD, List.getElem?_eq_none h]; decide
/-- A new trial. -/
def NtP (w : World) (P : Pb) (e : Ending) (w' : World) : Prop :=
  ∃ (O : List Nat) (V0 : World) (gs : Nat) (wv fv rv : Value), Hid (O.Perm (List.range P.who.length)) ∧ e = .returned (.pointer (some ⟨V0.heap.size, 0, none⟩)) ∧ Hid (Tr V0 gs (reP P O) wv fv rv (.slice none 0 0) [] 0 0 0 w') ∧ Hid (Below w.heap.size w w') ∧ Hid (w.heap.size ≤ gs) ∧ Hid (Below w.heap.size w V0)
theorem Tr.start {V0 : World} {gs : Nat} {P : Pb} {wv fv rv : Value} (hp : PbV V0 P wv fv rv) (hg : GgAt V0 gs 0 0 0) (ht : M.Tab V0) (hG : 1 ≤ gs) (hn : ∀ ad n c, wv = .slice (some ad) n c → ad.block ≠ gs) :
    Tr V0 gs P wv fv rv (.slice none 0 0) [] 0 0 0 (V0.alloc (.cells #[.int .i64 P.users, wv, fv, rv, .pointer (some ⟨gs, 0, none⟩), .slice none 0 0] 69)) := by
  have hb : Below V0.heap.size V0 (V0.alloc (.cells #[.int .i64 P.users, wv, fv, rv, .pointer (some ⟨gs, 0, none⟩), .slice none 0 0] 69)) := (Below.refl _ V0).alloc (Nat.le_refl _) _
  refine ⟨World.rowIs_alloc V0 #[.int .i64 P.users, wv, fv, rv, .pointer (some ⟨gs, 0, none⟩), .slice none 0 0] _ _ fun i hi => ?_, hp, ⟨_, _, _, hg⟩, ht, .below hb, hg.below hb, World.ownsRow_nil _ _ _ _, fun d hd => (by cases hd), hG, hn⟩
  have hi : i < 6 := hi
  rcases (show i = 0 ∨ i = 1 ∨ i = 2 ∨ i = 3 ∨ i = 4 ∨ i = 5 by omega) with rfl | rfl | rfl | rfl | rfl | rfl <;> rfl
set_option maxRecDepth 100000 in
set_option maxHeartbeats 4000000 in
theorem newTF (P : Pb) (wv fv rv : Value) (w : World) (h : PbV w P wv fv rv) (hk : Pok P) (hC : chkN P = 0) (hT : M.Tab w) :
    Calls Tryz.prog 25 #[pbV P wv fv rv] w (NtP w P) := by
  obtain ⟨g12, g0, g64, g32, gF, gW, gR⟩ := chkN_zero hC
  have hfl : P.fixed.length = P.who.length := (fixB_of gF g64).1
  have hB1 : Hid (Below w.heap.size w (w.alloc (.cells #[.int .i64 P.users, wv, fv, rv] 26))) := (Below.refl _ _).alloc (Nat.le_refl _) _
  have hs1 := hide' (World.size_alloc w (.cells #[.int .i64 P.users, wv, fv, rv] 26))
  have hb1 : PbB (w.alloc (.cells #[.int .i64 P.users, wv, fv, rv] 26)) w.heap.size P wv fv rv := heap_new w _
  have p0 := hb1.c0
  have p1 := hb1.c1
  have p2 := hb1.c2
  have p3 := hb1.c3
  have KT := hide' (tightFF P wv fv rv _ (h.below hB1.out) hk hfl (by omega))
  unfold pbV at KT
  have KN := hide' (fun V => newF V)
  have hT' := hide' hT
  unfold NtP pbV
  clear h hk hC g12 g0 g64 g32 gF gW gR hfl hb1 hT
  go_enter Tryz.func25, Tryz.ntmps25
  go_wp2_with fail
  refine KT.out.mono ?_
  rintro e w4 ⟨O, hO, o1, n1, c1, o2, n2, c2, o3, n3, c3, rfl, hp4, hb4, hu4⟩
  go_wp2_with fail
  refine (KN.out w4).mono ?_
  rintro e w5 ⟨rfl, hg5, hb5⟩
  have hb4' : Hid (Below w.heap.size w w4) := hB1.out.trans (hb4.out.mono (by rw [hs1.out]; omega))
  have hTr := hide' (Tr.start (hp4.out.below hb5.out) hg5.out (hT'.out.over (hb4'.out.trans (hb5.out.mono hb4'.out.size))) (Nat.le_trans hT'.out.2 hb4'.out.size) (fun ad n c e => by have := hu4.out ad n c e; omega))
  have hB6 : Hid (Below w.heap.size w (w5.alloc (.cells #[.int .i64 (reP P O).users, .slice o1 n1 c1, .slice o2 n2 c2, .slice o3 n3 c3, .pointer (some ⟨w4.heap.size, 0, none⟩), .slice none 0 0] 69))) := (hb4'.out.trans (hb5.out.mono hb4'.out.size)).alloc (Nat.le_trans hb4'.out.size hb5.out.size) _
  have hge := hide' hb4'.out.size
  have hB5 : Hid (Below w.heap.size w w5) := hb4'.out.trans (hb5.out.mono hb4'.out.size)
  clear KT KN hp4 hb4 hu4 hg5 hb5 hb4' hT'
  go_wp2
  go_ret
  exact ⟨O, w5, w4.heap.size, _, _, _, hO, rfl, hTr, hB6, hge, hB5⟩
set_option maxRecDepth 100000 in
set_option maxHeartbeats 4000000 in
theorem weakF (V0 : World) (gs : Nat) (P : Pb) (wv fv rv : Value) (hk : Pok P) (hC : chkN P = 0) (m : Nat) (hm : m ≤ 3) (dv : Value) (D : List Nat) (a b c : Nat) (V : World) (zm : Int) (h : Tr V0 gs P wv fv rv dv D a b c V) (hzm : zm = m) (hD : D.length + 64 ^ m ≤ 1000000) (ha : a + 64 ^ m * 4000000000000 ≤ 1152921504606846976) (hb : b + 64 ^ m * 4000000000000 ≤ 1152921504606846976) (hc : c + 64 ^ m * 4000000000000 ≤ 1152921504606846976) :
    Calls Tryz.prog 26 #[.pointer (some ⟨V0.heap.size, 0, none⟩), .int .i64 zm] V (WkP V0 gs P wv fv rv dv D a b c (64 ^ m) (wekP P m 0 0) V) := by
  have hB : Hid (Below V.heap.size V (V.alloc (.cells #[.int .u64 0] 50))) := (Below.refl _ V).alloc (Nat.le_refl _) _
  have KW := hide' (wekF V0 gs P wv fv rv hk hC m hm dv D a b c 0 0 _ 0 zm (h.over hB.out) (by decide) (by decide) rfl hzm hD ha hb hc)
  have hR0 : Hid (Bo (V.alloc (.cells #[.int .u64 0] 50)) V.heap.size (.int .u64 0)) := Bo.new V _ _
  have hz : (V.alloc (.cells #[.int .u64 0] 50)).heap.size = V.heap.size + 1 := World.size_alloc _ _
  have hlt' : Hid (∀ g, dv.ownBlock = some g → g < V.heap.size) := fun g e => own_lt' h.dr e
  have hgV : V0.heap.size < V.heap.size := h.tb.lt
  have hgl := h.gl
  generalize wekP P m 0 0 = r at *
  unfold WkP at KW ⊢
  have hfin : Hid (∀ w5 dv' D' a' b' c' (y : Value), Tr V0 gs P wv fv rv dv' D' a' b' c' w5 → (a' ≤ a + 64 ^ m * 4000000000000 ∧ b' ≤ b + 64 ^ m * 4000000000000 ∧ c' ≤ c + 64 ^ m * 4000000000000 ∧ D'.length ≤ D.length + 64 ^ m) → ((V.alloc (.cells #[.int .u64 0] 50)).heap.size ≤ w5.heap.size ∧ (∀ k, k < (V.alloc (.cells #[.int .u64 0] 50)).heap.size → k ≠ V0.heap.size → k ≠ gs → dv.ownBlock ≠ some k → w5.heap[k]? = (V.alloc (.cells #[.int .u64 0] 50)).heap[k]?) ∧ (∀ k, dv'.ownBlock = some k → dv.ownBlock = some k ∨ (V.alloc (.cells #[.int .u64 0] 50)).heap.size ≤ k)) → ∃ dv' D' a' b' c', Hid (Tr V0 gs P wv fv rv dv' D' a' b' c' (w5.setCell ⟨V.heap.size, 0, none⟩ y)) ∧ Hid (a' ≤ a + 64 ^ m * 4000000000000 ∧ b' ≤ b + 64 ^ m * 4000000000000 ∧ c' ≤ c + 64 ^ m * 4000000000000 ∧ D'.length ≤ D.length + 64 ^ m) ∧ Hid (V.heap.size ≤ (w5.setCell ⟨V.heap.size, 0, none⟩ y).heap.size ∧ (∀ k, k < V.heap.size → k ≠ V0.heap.size → k ≠ gs → dv.ownBlock ≠ some k → (w5.setCell ⟨V.heap.size, 0, none⟩ y).heap[k]? = V.heap[k]?) ∧ (∀ k, dv'.ownBlock = some k → dv.ownBlock = some k ∨ V.heap.size ≤ k))) := fun w5 dv' D' a' b' c' y h1 h2 h3 => by
    rw [hz] at h3
    obtain ⟨h4, h5, h6⟩ := h3
    have hs : ∀ k, k ≠ V.heap.size → (w5.setCell ⟨V.heap.size, 0, none⟩ y).heap[k]? = w5.heap[k]? := fun k e => Below.heap_setCell _ _ _ _ e
    have hzz : (w5.setCell ⟨V.heap.size, 0, none⟩ y).heap.size = w5.heap.size := by simp [World.setCell]
    refine ⟨dv', D', a', b', c', ?_, h2, ⟨by rw [hzz]; omega, fun k q1 q2 q3 q4 => ?_, fun k e => (h6 k e).imp id (by omega)⟩⟩
    · refine ⟨h1.tb.of (hs _ (by omega)), h1.p0, h1.g0, h1.t0, ⟨h1.fr.os, h1.fr.tape, h1.fr.output, by rw [hzz]; exact h1.fr.size, fun k q1 q2 q3 => (hs k (by omega)).trans (h1.fr.block k q1 q2 q3)⟩, World.rowIs.of_block h1.gg (hs _ (by omega)), own_same h1.dr fun g q1 q2 => hs g ?_, h1.inv, h1.hG, h1.nwv⟩
      rcases h6 g q2 with e | e
      · have := hlt'.out g e; omega
      · omega
    · exact (hs k (by omega)).trans ((h5 k (by omega) q2 q3 q4).trans (hB.out.block k q1))
  have hcl : Hid (∀ w5 : World, (∀ k, k < (V.alloc (.cells #[.int .u64 0] 50)).heap.size → k ≠ V0.heap.size → k ≠ gs → dv.ownBlock ≠ some k → w5.heap[k]? = (V.alloc (.cells #[.int .u64 0] 50)).heap[k]?) → Bo w5 V.heap.size (.int .u64 0)) := fun w5 h5 => hR0.out.of (h5 _ (by omega) (by omega) (by omega) fun e => by have := hlt'.out _ e; omega)
  clear hz h hk hC hD ha hb hc hB hR0 hlt'
  generalize (64 : Nat) ^ m = q at *
  subst hzm
  go_enter Tryz.func26, Tryz.ntmps26
  go_wp2_with fail
  refine KW.out.mono ?_
  rintro e w5 ⟨rfl, dv', D', a', b', c', hT5, hle5, hf5⟩
  have hR5 := hcl.out _ hf5.out.2.1
  have r5 := hR5.c
  have z5 := hR5.fz
  have s5 := (hR5.set (.int .u64 ((r.getD 0 : Nat) : Int))).c
  have hfz := hide' (hfin.out _ _ _ _ _ _ (.int .u64 ((r.getD 0 : Nat) : Int)) hT5.out hle5.out hf5.out)
  clear hfin hcl KW hT5 hle5 hf5 hR5
  go_wp2
  refine bodyPost_ret (v := .tuple #[.agg #[.int .u64 ((r.getD 0 : Nat) : Int)], .bool r.isSome]) (by simp [results, Tryz.results26, go_sem, s5]) rfl ⟨rfl, hfz.out⟩
/-- A trial, k calls of bears later. -/
def Tk (V0 : World) (gs : Nat) (P : Pb) (wv fv rv : Value) (k : Nat) (dv : Value) (W : World) : Prop :=
  ∃ D a b c, Tr V0 gs P wv fv rv dv D a b c W ∧ a ≤ k * 4000000000000 ∧ b ≤ k * 4000000000000 ∧ c ≤ k * 4000000000000 ∧ D.length ≤ k
section
variable {V0 : World} {gs : Nat} {P : Pb} {wv fv rv : Value} {k : Nat} {dv : Value} {W W' : World}
theorem Tk.over (h : Tk V0 gs P wv fv rv k dv W) (hb : Below W.heap.size W W') : Tk V0 gs P wv fv rv k dv W' := by
  obtain ⟨D, a, b, c, h1, h2⟩ := h
  exact ⟨D, a, b, c, h1.over hb, h2⟩
theorem Tk.sz (h : Tk V0 gs P wv fv rv k dv W) : V0.heap.size + 1 ≤ W.heap.size := by obtain ⟨D, a, b, c, h1, _⟩ := h; exact h1.sz
theorem Tk.gl (h : Tk V0 gs P wv fv rv k dv W) : gs < V0.heap.size := by obtain ⟨D, a, b, c, h1, _⟩ := h; exact h1.gl
theorem Tk.ne (h : Tk V0 gs P wv fv rv k dv W) : dv.ownBlock ≠ some W.heap.size := fun e => by obtain ⟨D, a, b, c, h1, _⟩ := h; exact Nat.lt_irrefl _ (own_lt' h1.dr e)
theorem Tk.tab (h : Tk V0 gs P wv fv rv k dv W) : M.Tab W := by obtain ⟨D, a, b, c, h1, _⟩ := h; exact h1.tab
theorem Tk.be {n : Nat} {w : World} (h : Tk V0 gs P wv fv rv k dv W) (hb : Below n w V0) (hn : n ≤ gs) : Below n w W := by
  have hl := h.gl
  obtain ⟨D, a, b, c, h1, _⟩ := h
  exact h1.fr.new hb hn hn (by omega)
/-- A box of one's own is written. -/
theorem Tk.box (h : Tk V0 gs P wv fv rv k dv W) {g : Nat} (h1 : V0.heap.size < g) (h2 : dv.ownBlock ≠ some g) (u : Value) : Tk V0 gs P wv fv rv k dv (W.setCell ⟨g, 0, none⟩ u) := by
  have hl := h.gl
  obtain ⟨D, a, b, c, h, hle⟩ := h
  have hs : ∀ y, y ≠ g → (W.setCell ⟨g, 0, none⟩ u).heap[y]? = W.heap[y]? := fun y e => Below.heap_setCell _ _ _ _ e
  have hzz : (W.setCell ⟨g, 0, none⟩ u).heap.size = W.heap.size := by simp [World.setCell]
  exact ⟨D, a, b, c, ⟨h.tb.of (hs _ (by omega)), h.p0, h.g0, h.t0, ⟨h.fr.os, h.fr.tape, h.fr.output, by rw [hzz]; exact h.fr.size, fun y q1 q2 q3 => (hs y (by omega)).trans (h.fr.block y q1 q2 q3)⟩, World.rowIs.of_block h.gg (hs _ (by omega)), own_same h.dr fun y q1 q2 => hs y (fun e => h2 (e ▸ q2)), h.inv, h.hG, h.nwv⟩, hle⟩
theorem bearsT (hk : Pok P) (hC : chkN P = 0) (x : Nat) (hx : x < 18446744073709551616) (h : Tk V0 gs P wv fv rv k dv W) (hkk : k ≤ 200000) :
    Calls Tryz.prog 29 #[.pointer (some ⟨V0.heap.size, 0, none⟩), .agg #[.int .u64 (x : Int)]] W fun e w' => e = .returned (.bool (canB (lesP P x))) ∧ ∃ dv', Hid (Tk V0 gs P wv fv rv (k + 1) dv' w') ∧ Hid (∀ g v, Bo W g v → V0.heap.size < g → dv.ownBlock ≠ some g → Bo w' g v ∧ dv'.ownBlock ≠ some g) := by
  have hl := h.gl
  obtain ⟨D, a, b, c, h1, l1, l2, l3, l4⟩ := h
  refine (bearsF V0 gs P wv fv rv dv D a b c x W h1 hk hC hx (by omega) (by omega) (by omega) (by omega)).mono ?_
  rintro e w' ⟨rfl, dv', D', a', b', c', hT, hle, hf⟩
  obtain ⟨m1, m2, m3, m4⟩ := hle.out
  exact ⟨rfl, dv', ⟨D', a', b', c', hT.out, by omega, by omega, by omega, by omega⟩, fun g v hb q1 q2 => ⟨hb.of (hf.out.2.1 g hb.lt (by omega) (by omega) q2), fun e => by
    rcases hf.out.2.2 g e with q | q
    · exact q2 q
    · have := hb.lt; omega⟩⟩
theorem weakT (hk : Pok P) (hC : chkN P = 0) (m : Nat) (hm : m ≤ 3) (zm : Int) (hzm : zm = m) (h : Tk V0 gs P wv fv rv k dv W) (hkk : k ≤ 5000) :
    Calls Tryz.prog 26 #[.pointer (some ⟨V0.heap.size, 0, none⟩), .int .i64 zm] W fun e w' => e = .returned (.tuple #[.agg #[.int .u64 (((wekP P m 0 0).getD 0 : Nat) : Int)], .bool (wekP P m 0 0).isSome]) ∧ ∃ dv', Hid (Tk V0 gs P wv fv rv (k + 64 ^ m) dv' w') := by
  have hp : 64 ^ m ≤ 262144 := Nat.pow_le_pow_right (by decide : 0 < 64) hm
  obtain ⟨D, a, b, c, h1, l1, l2, l3, l4⟩ := h
  refine (weakF V0 gs P wv fv rv hk hC m hm dv D a b c W zm h1 hzm (by omega) (by omega) (by omega) (by omega)).mono ?_
  rintro e w' ⟨rfl, dv', D', a', b', c', hT, hle, hf⟩
  obtain ⟨m1, m2, m3, m4⟩ := hle.out
  exact ⟨rfl, dv', ⟨D', a', b', c', hT.out, by omega, by omega, by omega, by omega⟩⟩
end
end Go.Proofs.YtmbdnhgmpmnhmaaGreatDoor.S
namespace Go.Proofs.YtmbdnhgmpmnhmaaGreatDoor.S
open Go.RowKit Go.Shelf
/-- The users needed, below j. -/
noncomputable def nedJ (P : Pb) : Nat → Nat
  | 0 => 0
  | j + 1 => if canB (lesP P (2 ^ j)) then nedJ P j else nedJ P j ||| 2 ^ j
noncomputable def nedP (P : Pb) : Nat := if chkN P = 0 ∧ canB (lesP P 0) = true then nedJ P P.users.toNat else 0
theorem nedJ_lt (P : Pb) : ∀ {j : Nat}, j ≤ 64 → nedJ P j < 18446744073709551616
  | 0, _ => by show (0 : Nat) < _; decide
  | j + 1, h => by
    unfold nedJ
    split
    · exact nedJ_lt P (by omega)
    · exact Nat.or_lt_two_pow (n := 64) (nedJ_lt P (by omega)) (Nat.pow_lt_pow_right (by decide) (by omega))
theorem nedJ_bit (P : Pb) (u : Nat) : ∀ j : Nat, (nedJ P j).testBit u = (decide (u < j) && !canB (lesP P (2 ^ u)))
  | 0 => by show Nat.testBit 0 u = _; simp
  | j + 1 => by
    unfold nedJ
    by_cases e : u = j
    · subst e
      cases hc : canB (lesP P (2 ^ u)) with
      | true => rw [if_pos rfl, nedJ_bit P u u, hc]; simp
      | false => rw [if_neg (by decide), Nat.testBit_or, nedJ_bit P u u, hc, Nat.testBit_two_pow_self]; simp
    · have h2 : decide (u < j + 1) = decide (u < j) := by rw [Bool.eq_iff_iff, decide_eq_true_iff, decide_eq_true_iff]; omega
      rw [h2, ← nedJ_bit P u j]
      split
      · rfl
      · rw [Nat.testBit_or, Nat.testBit_two_pow_of_ne (by omega), Bool.or_false]
set_option maxRecDepth 100000 in
set_option maxHeartbeats 2000000 in
theorem neededF (P : Pb) (wv fv rv : Value) (w : World) (h : PbV w P wv fv rv) (hk : Pok P) (hT : M.Tab w) :
    Calls Tryz.prog 15 #[pbV P wv fv rv] w fun e w' => e = .returned (.int .u64 ((nedP P : Nat) : Int)) ∧ Below w.heap.size w w' := by
  have hB1 : Hid (Below w.heap.size w (w.alloc (.cells #[.int .i64 P.users, wv, fv, rv] 26))) := (Below.refl _ _).alloc (Nat.le_refl _) _
  have hb1 : Hid (PbB (w.alloc (.cells #[.int .i64 P.users, wv, fv, rv] 26)) w.heap.size P wv fv rv) := heap_new w _
  have p0 := hb1.out.c0
  have p1 := hb1.out.c1
  have p2 := hb1.out.c2
  have p3 := hb1.out.c3
  have KC := hide' (checkPF P wv fv rv _ (h.below hB1.out) hk.w hk.f hk.r hk.s hk.b)
  have KN : Hid (chkN P = 0 → ∀ V, Below w.heap.size w V → Calls Tryz.prog 25 #[.agg #[.int .i64 P.users, wv, fv, rv]] V (NtP V P)) := fun hC V hV => newTF P wv fv rv V (h.below hV) hk hC (hT.over hV)
  have hk' := hide' hk
  unfold pbV at KC ⊢
  clear h hk hT
  by_cases hC : chkN P = 0
  · rw [hC] at KC
    have KN2 := hide' (KN.out hC)
    obtain ⟨g12, g0, g64, g32, gF, gW, gR⟩ := chkN_zero hC
    obtain ⟨U, hU⟩ : ∃ U : Nat, P.users = (U : Int) := ⟨P.users.toNat, by omega⟩
    have hU64 : U ≤ 64 := by omega
    have hCh := hide' hC
    have hU' := hide' hU
    clear g12 g0 g64 g32 gF gW gR KN hC hU
    go_enter Tryz.func15, Tryz.ntmps15
    go_upto_region 1 with fail
    generalize w.alloc (.cells #[.int .i64 P.users, wv, fv, rv] 26) = w1 at *
    go_wp2_with fail
    refine KC.out.mono ?_
    rintro e w2 ⟨rfl, hb2⟩
    have hB2 : Hid (Below w.heap.size w w2) := hB1.out.trans (hb2.mono hB1.out.size)
    have hb3 := hide' (hb1.out.below hb2)
    have p0 := hb3.out.c0
    have p1 := hb3.out.c1
    have p2 := hb3.out.c2
    have p3 := hb3.out.c3
    have hlt3 : w.heap.size < w2.heap.size := (Array.getElem?_eq_some_iff.1 hb3.out).1
    have KN3 := hide' (KN2.out w2 hB2.out)
    clear KC KN2 hb2 hb1
    go_wp2_with fail
    refine KN3.out.mono ?_
    rintro e w3 ⟨O, V0, gs, wv', fv', rv', hO, rfl, hTr, hB3, hgs, hBV⟩
    have hT3 : Hid (Tk V0 gs (reP P O) wv' fv' rv' 0 (.slice none 0 0) w3) := ⟨_, _, _, _, hTr.out, by omega, by omega, by omega, Nat.le_refl _⟩
    have hkO : Hid (Pok (reP P O)) := pok_reP hk'.out hCh.out hO.out
    have hCO : Hid (chkN (reP P O) = 0) := chk_reP hCh.out hO.out
    have KB0 := hide' (bearsT hkO.out hCO.out 0 (by decide) hT3.out (by omega))
    have hcan := hide' (can_les_re hCh.out hO.out)
    rw [hcan.out] at KB0
    clear KN3 hTr p0 p1 p2 p3
    cases hcb : canB (lesP P 0)
    · rw [hcb] at KB0
      have h0 : Hid (nedP P = 0) := by show _ = _; unfold nedP; rw [if_neg (by rw [hcb]; rintro ⟨_, q⟩; cases q)]
      clear hcb hkO hCO hcan hk' hCh hO
      go_wp2_with fail
      refine KB0.out.mono ?_
      rintro e w4 ⟨rfl, dv4, hT4, hk4⟩
      have hB4 := hide' (hT4.out.be hBV.out hgs.out)
      clear KB0 hT4 hk4
      go_wp2
      go_ret
      exact ⟨by rw [h0.out]; rfl, hB2.out.trans (hB4.out.mono hB2.out.size)⟩
    · rw [hcb] at KB0
      have hne : Hid (nedP P = nedJ P U) := by
        show _ = _
        unfold nedP; rw [if_pos ⟨hCh.out, hcb⟩, hU'.out]; rfl
      clear hcb
      go_wp2_with fail
      refine KB0.out.mono ?_
      rintro e w4 ⟨rfl, dv4, hT4, hk4⟩
      have hB4 := hide' (hT4.out.be hBV.out hgs.out)
      have q0 := (hb3.out.below (hB4.out.alloc hB4.out.size (.cells #[.int .u64 0] 50))).c0
      rw [hU'.out] at q0
      have hT5 := hide' (hT4.out.over ((Below.refl _ w4).alloc (Nat.le_refl _) (.cells #[.int .u64 0] 50)))
      have hN5 : Hid (Bo (w4.alloc (.cells #[.int .u64 0] 50)) w4.heap.size (.int .u64 ((nedJ P 0 : Nat) : Int))) := Bo.new w4 (.int .u64 0) _
      have hV4 : V0.heap.size < w4.heap.size := hT4.out.sz
      have hne4 := hide' hT4.out.ne
      clear KB0 hk4 hT3 hb3 hB3 hT4 hB4
      go_upto_block 0 with fail
      clear q0
      obtain ⟨gn, hgn⟩ : ∃ gn, gn = w4.heap.size := ⟨_, rfl⟩
      rw [← hgn] at hN5 hV4 hne4 ⊢
      clear hgn
      generalize w4.alloc (.cells #[.int .u64 0] 50) = w5 at *
      go_wp2
      go_loopw [17, 5] (fun kv _ wr => ∃ (j : Nat) (dv : Value), j ≤ U ∧ kv = .int .i64 (j : Int) ∧ Hid (Tk V0 gs (reP P O) wv' fv' rv' (j + 1) dv wr) ∧ Hid (Bo wr gn (.int .u64 ((nedJ P j : Nat) : Int))) ∧ Hid (dv.ownBlock ≠ some gn)) (fun kv _ _ => ((U : Int) - intOf kv).toNat)
      case atStart => exact ⟨0, dv4, Nat.zero_le _, rfl, hT5, hN5, hne4⟩
      case round =>
        clear hT5 hN5 hne4
        obtain ⟨j, dv, hj, rfl, hTk, hN, hdn⟩ := hrel
        by_cases hlt : j < U
        · have hlt' : (j : Int) < (U : Int) := by omega
          have hu64 : j < 64 := by omega
          have hpl : (2 : Nat) ^ j < 18446744073709551616 := Nat.lt_of_lt_of_le (Nat.pow_lt_pow_right (by decide) hu64) (Nat.le_refl (2 ^ 64))
          have KOn : Hid (∀ V, Calls Tryz.prog 30 #[.int .i64 (j : Int)] V fun e w' => e = .returned (.agg #[.int .u64 ((2 ^ j : Nat) : Int)]) ∧ Below V.heap.size V w') := fun V => onlyH j hu64 V
          have KB : Hid (∀ V, Tk V0 gs (reP P O) wv' fv' rv' (j + 1) dv V → Calls Tryz.prog 29 #[.pointer (some ⟨V0.heap.size, 0, none⟩), .agg #[.int .u64 ((2 ^ j : Nat) : Int)]] V fun e w' => e = .returned (.bool (canB (lesP P (2 ^ j)))) ∧ ∃ dv', Hid (Tk V0 gs (reP P O) wv' fv' rv' (j + 1 + 1) dv' w') ∧ Hid (∀ g v, Bo V g v → V0.heap.size < g → dv.ownBlock ≠ some g → Bo w' g v ∧ dv'.ownBlock ≠ some g)) := fun V hV => by
            have := bearsT hkO.out hCO.out (2 ^ j) hpl hV (by omega)
            rw [hcan.out] at this
            exact this
          have hS : Hid (nedJ P (j + 1) = if canB (lesP P (2 ^ j)) then nedJ P j else nedJ P j ||| 2 ^ j) := rfl
          have hacc := nedJ_lt P (j := j) (by omega)
          have KOr : Hid (∀ V, Calls Tryz.prog 31 #[.agg #[.int .u64 ((nedJ P j : Nat) : Int)], .agg #[.int .u64 ((2 ^ j : Nat) : Int)]] V fun e w' => e = .returned (.agg #[.int .u64 ((nedJ P j ||| 2 ^ j : Nat) : Int)]) ∧ Below V.heap.size V w') := fun V => M.or64 _ _ hacc hpl V
          generalize canB (lesP P (2 ^ j)) = cb at *
          generalize nedJ P j ||| 2 ^ j = a2 at *
          generalize nedJ P j = a1 at *
          generalize (2 : Nat) ^ j = pj at *
          clear hpl hacc hcan hkO hCO
          go_wp2_with fail
          refine (KOn.out _).mono ?_
          rintro e w6 ⟨rfl, hb6⟩
          have hT6 := hide' (hTk.out.over hb6)
          have hN6 := hide' (hN.out.over hb6)
          clear hTk hN
          go_wp2_with fail
          refine (KB.out _ hT6.out).mono ?_
          rintro e w7 ⟨rfl, dv7, hT7, hk7⟩
          obtain ⟨hN7', hd7'⟩ := hk7.out gn _ hN6.out hV4 hdn.out
          have hN7 := hide' hN7'
          have hd7 := hide' hd7'
          clear KB hT6 hN6 hk7 hN7' hd7' hdn hb6
          cases cb
          · have hS' : Hid (nedJ P (j + 1) = a2) := hS.out
            have dd := hN7.out.c
            clear hS
            go_upto_region 11 with fail
            have hTd := hide' (hT7.out.over (Below.refl _ w7).drew)
            have hNd := hide' (hN7.out.over (Below.refl _ w7).drew)
            have ddd := hNd.out.c
            clear dd hT7 hN7
            refine wp_region_held_drew (S := (fun _ => True)) (by kernel_rfl) ?_ (fun hHeld => ?_)
            · trivial
            refine wpAnyH_take (i := 1) (oi := { dst := some 26, op := Op.move (Operand.tmp 5), type := 3, pos := "hardy.go:45", after := #[], guard := none }) (v := ?_) rfl (by kernel_rfl) (by kernel_rfl) (by kernel_rfl) (fun _ _ _ h => h) (Or.inl ⟨by rfl, ?_⟩) (by assumption) ?_
            rotate_left
            · intro w hSw; (try dsimp only at hSw); go_simp <;> with_reducible rfl
            simp only [Act.put, List.setIfInBounds_toArray, List.set_cons_zero, List.set_cons_succ]
            refine wpAnyH_ready (rs := [0, 2]) (by kernel_rfl) (by simp) ?_
            refine AllReadyH.cons (o := { dst := some 25, op := Op.load 50 (Operand.tmp 4), type := 50, pos := "hardy.go:45", after := #[], guard := none }) rfl (fun K hK => ?_) ?_
            · skip
              go_simp
              refine hK.out _ _ ?_ (fun hHeld => ?_)
              · trivial
              clear hK K
              try simp only [Act.put, List.setIfInBounds_toArray, List.set_cons_zero, List.set_cons_succ]
              refine wpAnyH_ready (rs := [2]) (by kernel_rfl) (by simp) ?_
              refine AllReadyH.cons (o := { dst := some 27, op := Op.call { callee := Callee.value (Operand.func 30), args := #[Operand.tmp 26], argTypes := #[3] }, type := 50, pos := "hardy.go:45", after := #[{ on := 1, ground := Ground.data }], guard := none }) rfl (fun K hK => ?_) AllReadyH.nil
              go_simp
              go_at_call 30; refine (KOn.out _).mono ?_; rintro e v2 ⟨rfl, hb2⟩; have hT2 := hide' (hTd.out.over hb2); have hN2 := hide' (hNd.out.over hb2); have d2' := hN2.out.c; (try dsimp only)
              refine hK.out _ _ ?_ (fun hHeld => ?_)
              · trivial
              clear hK K
              try simp only [Act.put, List.setIfInBounds_toArray, List.set_cons_zero, List.set_cons_succ]
              refine wpAnyH_ready (rs := [3]) (by kernel_rfl) (by simp) ?_
              refine AllReadyH.cons (o := { dst := some 28, op := Op.call { callee := Callee.value (Operand.func 31), args := #[Operand.tmp 25, Operand.tmp 27], argTypes := #[50, 50] }, type := 50, pos := "hardy.go:45", after := #[{ on := 0, ground := Ground.data }, { on := 2, ground := Ground.data }, { on := 2, ground := Ground.chain }], guard := none }) rfl (fun K hK => ?_) AllReadyH.nil
              go_simp
              go_at_call 31; refine (KOr.out _).mono ?_; rintro e v3 ⟨rfl, hb3⟩; have hT3 := hide' (hT2.out.over hb3); have hN3 := hide' (hN2.out.over hb3); have d3' := hN3.out.c; have f3' := hN3.out.fz; (try dsimp only)
              refine hK.out _ _ ?_ (fun hHeld => ?_)
              · trivial
              clear hK K
              try simp only [Act.put, List.setIfInBounds_toArray, List.set_cons_zero, List.set_cons_succ]
              refine wpAnyH_ready (rs := [4]) (by kernel_rfl) (by simp) ?_
              refine AllReadyH.cons (o := { dst := none, op := Op.store 50 (Operand.tmp 4) (Operand.tmp 28), type := 0, pos := "hardy.go:45", after := #[{ on := 3, ground := Ground.data }, { on := 3, ground := Ground.chain }, { on := 0, ground := Ground.phase }, { on := 1, ground := Ground.phase }, { on := 2, ground := Ground.phase }, { on := 3, ground := Ground.phase }], guard := none }) rfl (fun K hK => ?_) AllReadyH.nil
              go_simp
              refine hK.out _ _ ?_ (fun hHeld => ?_)
              · trivial
              clear hK K
              try simp only [Act.put, List.setIfInBounds_toArray, List.set_cons_zero, List.set_cons_succ]
              refine wpAnyH_done (by kernel_rfl) ?_ _
              skip
              have hT4 := hide' (hT3.out.box hV4 hd7.out (.int .u64 (a2 : Int)))
              have hN4 := hide' (hN3.out.set (.int .u64 (a2 : Int)))
              clear hT3 hN3 d3' f3'
              go_wp2
              exact ⟨⟨j + 1, dv7, by omega, by go_num, hT4, by rw [hS'.out]; exact hN4, hd7⟩, by simp [intOf]; omega⟩
            refine AllReadyH.cons (o := { dst := some 27, op := Op.call { callee := Callee.value (Operand.func 30), args := #[Operand.tmp 26], argTypes := #[3] }, type := 50, pos := "hardy.go:45", after := #[{ on := 1, ground := Ground.data }], guard := none }) rfl (fun K hK => ?_) AllReadyH.nil
            go_simp
            go_at_call 30; refine (KOn.out _).mono ?_; rintro e v2 ⟨rfl, hb2⟩; have hT2 := hide' (hTd.out.over hb2); have hN2 := hide' (hNd.out.over hb2); have d2' := hN2.out.c; (try dsimp only)
            refine hK.out _ _ ?_ (fun hHeld => ?_)
            · trivial
            clear hK K
            try simp only [Act.put, List.setIfInBounds_toArray, List.set_cons_zero, List.set_cons_succ]
            refine wpAnyH_ready (rs := [0]) (by kernel_rfl) (by simp) ?_
            refine AllReadyH.cons (o := { dst := some 25, op := Op.load 50 (Operand.tmp 4), type := 50, pos := "hardy.go:45", after := #[], guard := none }) rfl (fun K hK => ?_) AllReadyH.nil
            go_simp
            refine hK.out _ _ ?_ (fun hHeld => ?_)
            · trivial
            clear hK K
            try simp only [Act.put, List.setIfInBounds_toArray, List.set_cons_zero, List.set_cons_succ]
            refine wpAnyH_ready (rs := [3]) (by kernel_rfl) (by simp) ?_
            refine AllReadyH.cons (o := { dst := some 28, op := Op.call { callee := Callee.value (Operand.func 31), args := #[Operand.tmp 25, Operand.tmp 27], argTypes := #[50, 50] }, type := 50, pos := "hardy.go:45", after := #[{ on := 0, ground := Ground.data }, { on := 2, ground := Ground.data }, { on := 2, ground := Ground.chain }], guard := none }) rfl (fun K hK => ?_) AllReadyH.nil
            go_simp
            go_at_call 31; refine (KOr.out _).mono ?_; rintro e v3 ⟨rfl, hb3⟩; have hT3 := hide' (hT2.out.over hb3); have hN3 := hide' (hN2.out.over hb3); have d3' := hN3.out.c; have f3' := hN3.out.fz; (try dsimp only)
            refine hK.out _ _ ?_ (fun hHeld => ?_)
            · trivial
            clear hK K
            try simp only [Act.put, List.setIfInBounds_toArray, List.set_cons_zero, List.set_cons_succ]
            refine wpAnyH_ready (rs := [4]) (by kernel_rfl) (by simp) ?_
            refine AllReadyH.cons (o := { dst := none, op := Op.store 50 (Operand.tmp 4) (Operand.tmp 28), type := 0, pos := "hardy.go:45", after := #[{ on := 3, ground := Ground.data }, { on := 3, ground := Ground.chain }, { on := 0, ground := Ground.phase }, { on := 1, ground := Ground.phase }, { on := 2, ground := Ground.phase }, { on := 3, ground := Ground.phase }], guard := none }) rfl (fun K hK => ?_) AllReadyH.nil
            go_simp
            refine hK.out _ _ ?_ (fun hHeld => ?_)
            · trivial
            clear hK K
            try simp only [Act.put, List.setIfInBounds_toArray, List.set_cons_zero, List.set_cons_succ]
            refine wpAnyH_done (by kernel_rfl) ?_ _
            skip
            have hT4 := hide' (hT3.out.box hV4 hd7.out (.int .u64 (a2 : Int)))
            have hN4 := hide' (hN3.out.set (.int .u64 (a2 : Int)))
            clear hT3 hN3 d3' f3'
            go_wp2
            exact ⟨⟨j + 1, dv7, by omega, by go_num, hT4, by rw [hS'.out]; exact hN4, hd7⟩, by simp [intOf]; omega⟩
          · have hS' : Hid (nedJ P (j + 1) = a1) := hS.out
            clear hS
            go_wp2
            exact ⟨⟨j + 1, dv7, by omega, by go_num, hT7, by rw [hS'.out]; exact hN7, hd7⟩, by simp [intOf]; omega⟩
        · obtain rfl : j = U := by omega
          have dd := hN.out.c
          have hB5 := hide' (hTk.out.be hBV.out hgs.out)
          have KWd : Hid (∀ V, Calls Tryz.prog 32 #[.agg #[.int .u64 ((nedJ P j : Nat) : Int)]] V fun e w' => e = .returned (.int .u64 ((nedJ P j : Nat) : Int)) ∧ Below V.heap.size V w') := fun V => M.word64 _ V
          generalize nedJ P j = a1 at *
          clear hTk hN
          go_wp2_with fail
          refine (KWd.out _).mono ?_
          rintro e w6 ⟨rfl, hb6⟩
          go_wp2
          go_ret
          exact ⟨by rw [hne.out]; rfl, hB2.out.trans ((hB5.out.trans (hb6.mono hB5.out.size)).mono hB2.out.size)⟩
  · have hne : ((chkN P : Int) == 0) = false := by simp; omega
    have h0 : nedP P = 0 := by unfold nedP; rw [if_neg fun q => hC q.1]
    rw [h0]
    generalize (chkN P : Int) = q at *
    clear KN hk' hC h0
    go_enter Tryz.func15, Tryz.ntmps15
    go_upto_region 1 with fail
    generalize w.alloc (.cells #[.int .i64 P.users, wv, fv, rv] 26) = w1 at *
    go_wp2_with fail
    refine KC.out.mono ?_
    rintro e w2 ⟨rfl, hb2⟩
    go_wp2
    go_ret
    exact ⟨rfl, hB1.out.trans (hb2.mono hB1.out.size)⟩
end Go.Proofs.YtmbdnhgmpmnhmaaGreatDoor.S

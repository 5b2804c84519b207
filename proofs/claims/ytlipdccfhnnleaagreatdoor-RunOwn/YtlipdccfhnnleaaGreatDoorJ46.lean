/- What the law of a run's own stands on: the flow it tells, the rows written over, the pair beside a new book. -/
import Derived.Test.YtlipdccfhnnleaaGreatDoorJ40
import Derived.Test.YtlipdccfhnnleaaGreatDoorJ45
namespace Go.Proofs.YtlipdccfhnnleaaGreatDoor
open Go.RowKit
set_option maxRecDepth 100000 in
set_option maxHeartbeats 1000000 in
theorem flowDF {W : World} {B gr gt : Nat} {sv rv : Value} {go ct : Nat} {lv : Value} {R : Rs} {F : Fw} (h : RnAt W B gr gt F.name sv rv go ct lv R) (hv : ∀ V, Below W.heap.size W V → flV V (.agg #[.string F.name, sv, rv]) F) (hB : FlB F) :
    Calls Tryz.prog 20 #[.pointer (some ⟨gr, 0, none⟩)] W (CopD W F) := by
  have hb0 := (Below.refl _ W).alloc (Nat.le_refl _) (.cells #[.string ⟨#[]⟩, .slice none 0 0, .slice none 0 0] 25)
  obtain ⟨c0, c1, c2⟩ := (h.over hb0).cf
  have KC := hide' (copyOfDF F _ _ (hv _ hb0) hB)
  have hQ : Hid (∀ w1 x, CopD (W.alloc (.cells #[.string ⟨#[]⟩, .slice none 0 0, .slice none 0 0] 25)) F x w1 → ∃ o1 n1 k1 o2 n2 k2, x = .returned (.agg #[.string F.name, .slice o1 n1 k1, .slice o2 n2 k2]) ∧ w1.heap[W.heap.size]? = some (.cells #[.string ⟨#[]⟩, .slice none 0 0, .slice none 0 0] 25 (0, 0)) ∧ CopD W F x (((w1.setCell ⟨W.heap.size, 0, none⟩ (.string F.name)).setCell ⟨W.heap.size, 1, none⟩ (.slice o1 n1 k1)).setCell ⟨W.heap.size, 2, none⟩ (.slice o2 n2 k2))) := fun w1 x ⟨s1, r1, P1, P2, e, m1, m2, t1, t2, hb, hd⟩ => by
    obtain ⟨o1, n1, k1, e1⟩ := t1.shp
    obtain ⟨o2, n2, k2, e2⟩ := t2.shp
    subst e1 e2
    have hsz : (W.alloc (.cells #[.string ⟨#[]⟩, .slice none 0 0, .slice none 0 0] 25)).heap.size = W.heap.size + 1 := by simp
    have hkp : ∀ k, W.heap.size + 1 ≤ k → (((w1.setCell ⟨W.heap.size, 0, none⟩ (.string F.name)).setCell ⟨W.heap.size, 1, none⟩ (.slice o1 n1 k1)).setCell ⟨W.heap.size, 2, none⟩ (.slice o2 n2 k2)).heap[k]? = w1.heap[k]? := fun k hk => by
      rw [Below.heap_setCell _ _ _ _ (show k ≠ W.heap.size by omega), Below.heap_setCell _ _ _ _ (show k ≠ W.heap.size by omega), Below.heap_setCell _ _ _ _ (show k ≠ W.heap.size by omega)]
    rw [hsz] at t1 t2 hb
    refine ⟨o1, n1, k1, o2, n2, k2, e, (hb.block W.heap.size (by omega)).trans (heap_alloc_new _ _), _, _, P1, P2, e, m1, m2, (t1.keptB fun k hk _ => hkp k hk).down (by omega), (t2.keptB fun k hk _ => hkp k hk).down (by omega), ?_, by simpa using hd⟩
    have h1 : Below W.heap.size W w1 := ((Below.refl _ W).alloc (Nat.le_refl _) _).trans (hb.mono (by omega))
    exact ((h1.setCell (p := ⟨W.heap.size, 0, none⟩) (Nat.le_refl _) _).setCell (p := ⟨W.heap.size, 1, none⟩) (Nat.le_refl _) _).setCell (p := ⟨W.heap.size, 2, none⟩) (Nat.le_refl _) _
  clear h hv hB hb0
  go_enter Tryz.func20, Tryz.ntmps20
  go_wp2_with fail
  refine KC.out.mono ?_
  intro x w1 hX
  obtain ⟨o1, n1, k1, o2, n2, k2, rfl, hbk, hF⟩ := hQ.out w1 x hX
  have hF' := hide' hF
  obtain ⟨d0, d1, d2⟩ : w1.cell? ⟨W.heap.size, 0, none⟩ = some (.string ⟨#[]⟩) ∧ w1.cell? ⟨W.heap.size, 1, none⟩ = some (.slice none 0 0) ∧ w1.cell? ⟨W.heap.size, 2, none⟩ = some (.slice none 0 0) := by simp [World.cell?, hbk]
  obtain ⟨f0, f1, f2⟩ : w1.frozen? ⟨W.heap.size, 0, none⟩ = false ∧ w1.frozen? ⟨W.heap.size, 1, none⟩ = false ∧ w1.frozen? ⟨W.heap.size, 2, none⟩ = false := by simp [World.frozen?, hbk]
  have hz : W.heap.size < w1.heap.size := (Array.getElem?_eq_some_iff.1 hbk).1
  have r0 : (((w1.setCell ⟨W.heap.size, 0, none⟩ (.string F.name)).setCell ⟨W.heap.size, 1, none⟩ (.slice o1 n1 k1)).setCell ⟨W.heap.size, 2, none⟩ (.slice o2 n2 k2)).heap[W.heap.size]? = some (.cells #[.string F.name, .slice o1 n1 k1, .slice o2 n2 k2] 25 (0, 0)) := by
    rw [heap_set_at _ (heap_set_at _ (heap_set_at _ hbk))]
    rfl
  clear hQ KC hX hF hbk
  go_wp2
  exact bodyPost_ret (v := .agg #[.string F.name, .slice o1 n1 k1, .slice o2 n2 k2]) (by simp [results, Tryz.results20, go_sem, World.cell?, r0]) rfl hF'.out
theorem own_kind {W : World} {m : Nat} {e : TypeId} {sz n : Nat} {v : Value} {xs : List Value} (h : W.ownsRow m e sz v n xs) {g : Nat} (hg : v.ownBlock = some g) : ∃ cs, W.heap[g]? = some (.cells cs e (0, 0)) := by
  rcases h.2 with ⟨rfl, _⟩ | ⟨g', cap, cs, rfl, _, hb, _⟩
  · cases hg
  · have e1 : g' = g := by simpa [Value.ownBlock] using hg
    subst e1
    exact ⟨cs, hb⟩
/-- The answer of New, in a world that has kept all behind a mark. -/
theorem NwA.keptZ {F : Fw} {tick : Int} {w W W' : World} {pa : Option Addr} (h : NwA F tick w pa W) (hz : W.heap.size ≤ W'.heap.size) (hk : ∀ b, w.heap.size ≤ b → b < W.heap.size → W'.heap[b]? = W.heap[b]?) : NwA F tick w pa W' := by
  rcases h with h | ⟨ok, V0, gr, gt, sv, rv, go, gp, gs, ct, Pf, Sf, P1, P2, lv, e, hs, hP⟩
  · exact .inl h
  · have hp : SdK.P ⟨F, w.heap.size, V0, gr, gt, sv, rv, go, gp, gs, ct, Pf, Sf, P1, P2, 0, V0, 0, 0, sv, rv, 0, 0, P1, P2⟩ lv (newR F.steps.length tick) W := hP
    refine .inr ⟨ok, V0, gr, gt, sv, rv, go, gp, gs, ct, Pf, Sf, P1, P2, lv, e, hs, hp.kept hz fun b hb he => hk b ?_ hb⟩
    rcases he with (rfl | rfl | e) | ⟨e, _⟩
    · exact Nat.le_trans hs hP.ger
    · exact Nat.le_trans hs hP.get
    · exact Nat.le_trans hs (hP.gel b e)
    · exact e
/-- Both runs, and behind them a new book. -/
theorem Ow.start {w w0 wa w2 : World} {F : Fw} {ga : Addr} {xa : Option Addr} (hA : NwA F 0 w0 (some ga) wa) (hD : NwD F 0 wa xa w2) (hb : Below wa.heap.size wa w2) (hw : Below w.heap.size w w2) (h0 : w.heap.size ≤ w0.heap.size) (h1 : w.heap.size ≤ wa.heap.size) :
    ∃ k lv ev n R, ga = ⟨k.gr, 0, none⟩ ∧ xa = some ⟨k.gd, 0, none⟩ ∧ k.F = F ∧ ∃ tag, Ow w k lv ev n R 0 w2.heap.size tag (w2.alloc (.cells #[.slice none 0 0, .slice none 0 0, .slice none 0 0, .slice none 0 0, .slice none 0 0, .slice none 0 0, .slice none 0 0, .slice none 0 0, .slice none 0 0, .slice none 0 0, .slice none 0 0, .slice none 0 0, .int .i64 0] 58)) := by
  rcases hA with ⟨h, _⟩ | ⟨ok, V0, gr, gt, sv, rv, go, gp, gs, ct, Pf, Sf, P1, P2, lv, e, hs, hP⟩
  · cases h
  obtain rfl := Option.some.inj e
  rcases hD with ⟨_, h⟩ | ⟨_, V1, gd, hd, sv1, rv1, go1, ct1, U1, U2, ev, rfl, hZ⟩
  · exact absurd (chkF_ok ok) h
  have hpa : SdK.P ⟨F, w0.heap.size, V0, gr, gt, sv, rv, go, gp, gs, ct, Pf, Sf, P1, P2, wa.heap.size, V1, gd, hd, sv1, rv1, go1, ct1, U1, U2⟩ lv (newR F.steps.length 0) wa := hP
  have hS := Sd.start hpa (show SdK.D ⟨F, w0.heap.size, V0, gr, gt, sv, rv, go, gp, gs, ct, Pf, Sf, P1, P2, wa.heap.size, V1, gd, hd, sv1, rv1, go1, ct1, U1, U2⟩ ev (newR F.steps.length 0) w2 from hZ) rfl hb
  have hal := (Below.refl _ w2).alloc (Nat.le_refl _) (.cells #[.slice none 0 0, .slice none 0 0, .slice none 0 0, .slice none 0 0, .slice none 0 0, .slice none 0 0, .slice none 0 0, .slice none 0 0, .slice none 0 0, .slice none 0 0, .slice none 0 0, .slice none 0 0, .int .i64 0] 58)
  have hws := hw.size
  exact ⟨_, lv, ev, F.steps.length, newR F.steps.length 0, rfl, rfl, rfl, _, hS.over hal, newR_ok _ ok.ne 0, by simp [newR], by simp [newR], K.Book.start w2, fun x e => if_neg (by have := hS.lt x e; omega), hw.trans (hal.mono hws), fun x e => hS.ge (Nat.le_trans h0 hs) h1 x e, fun x e => if_neg (by omega)⟩
/-- A step while its rows are written over. -/
theorem Wy.stepAt {V W : World} {lo hi : Nat} {sv rv : Value} {P1 : List (Sp × Value)} {n2 m : Nat} (h : Wy V lo hi sv rv P1.length n2 W) (t1 : TwP m V sv P1) (hm : lo ≤ m) (hlt : ∀ g, sv.ownBlock = some g → g < hi) {c : Nat} {p : Sp × Value} (hp : P1[c]? = some p) :
    ∃ g cap, sv = .slice (some ⟨g, 0, none⟩) P1.length cap ∧ W.cell? ⟨g, c * 3 + 2, none⟩ = some p.2 ∧ (∃ u, W.cell? ⟨g, c * 3, none⟩ = some u) ∧ W.frozen? ⟨g, c * 3, none⟩ = false ∧ ∀ u, Wy V lo hi sv rv P1.length n2 (W.setCell ⟨g, c * 3, none⟩ u) := by
  have hc := (List.getElem?_eq_some_iff.1 hp).1
  obtain ⟨g, cap, cs, e, h1, h2, h3, h4⟩ := own_blk t1.row (by omega)
  subst e
  have hg : (Value.slice (some ⟨g, 0, none⟩) P1.length cap).ownBlock = some g := rfl
  obtain ⟨h5, h6⟩ := h.shp.cell h3 (i := c * 3) (by omega)
  have ha := cellsS_at P1 c 2 (by decide)
  rw [hp] at ha
  have hc2 := t1.row.cellAt (c * 3 + 2) (by omega)
  rw [ha] at hc2
  refine ⟨g, cap, rfl, (h.c1 g hg c hc).trans ?_, h5, h6, fun u => h.set ⟨Nat.le_trans hm h2, hlt g hg⟩ _ u (fun _ _ _ => by omega) (fun _ _ _ => by omega)⟩
  exact hc2.trans rfl
theorem Wy.ruleAt {V W : World} {lo hi : Nat} {sv rv : Value} {P2 : List (Rl × Value)} {n1 m : Nat} (h : Wy V lo hi sv rv n1 P2.length W) (t2 : TwS m V rv P2) (hm : lo ≤ m) (hlt : ∀ g, rv.ownBlock = some g → g < hi) {c : Nat} {p : Rl × Value} (hp : P2[c]? = some p) :
    ∃ g cap, rv = .slice (some ⟨g, 0, none⟩) P2.length cap ∧ W.cell? ⟨g, c * 3 + 2, none⟩ = some p.2 ∧ (∃ u, W.cell? ⟨g, c * 3, none⟩ = some u) ∧ W.frozen? ⟨g, c * 3, none⟩ = false ∧ ∀ u, Wy V lo hi sv rv n1 P2.length (W.setCell ⟨g, c * 3, none⟩ u) := by
  have hc := (List.getElem?_eq_some_iff.1 hp).1
  obtain ⟨g, cap, cs, e, h1, h2, h3, h4⟩ := own_blk t2.row (by omega)
  subst e
  have hg : (Value.slice (some ⟨g, 0, none⟩) P2.length cap).ownBlock = some g := rfl
  obtain ⟨h5, h6⟩ := h.shp.cell h3 (i := c * 3) (by omega)
  have ha := cellsR_at P2 c 2 (by decide)
  rw [hp] at ha
  have hc2 := t2.row.cellAt (c * 3 + 2) (by omega)
  rw [ha] at hc2
  refine ⟨g, cap, rfl, (h.c2 g hg c hc).trans ?_, h5, h6, fun u => h.set ⟨Nat.le_trans hm h2, hlt g hg⟩ _ u (fun _ _ _ => by omega) (fun _ _ _ => by omega)⟩
  exact hc2.trans rfl
/-- A number of a row while it is written over. -/
theorem Wy.intAt {V W : World} {lo hi : Nat} {sv rv : Value} {n1 n2 m m1 m2 k1 k2 z1 z2 : Nat} {x1 x2 xs : List Value} (h : Wy V lo hi sv rv n1 n2 W) (r1 : V.ownsRow m1 50 z1 sv k1 x1) (r2 : V.ownsRow m2 52 z2 rv k2 x2) {ov : Option Addr} {n cap : Nat} (hv : V.ownsRow m 3 1 (.slice ov n cap) n xs) (hm : lo ≤ m) (hlt : ∀ g, ov = some ⟨g, 0, none⟩ → g < hi) {j : Nat} (hj : j < n) :
    ∃ g, ov = some ⟨g, 0, none⟩ ∧ (∃ u, W.cell? ⟨g, j, none⟩ = some u) ∧ W.frozen? ⟨g, j, none⟩ = false ∧ ∀ u, Wy V lo hi sv rv n1 n2 (W.setCell ⟨g, j, none⟩ u) := by
  obtain ⟨g, cap', cs, e, h1, h2, h3, h4⟩ := own_blk hv (by omega)
  have e1 : ov = some ⟨g, 0, none⟩ := by injection e
  obtain ⟨h5, h6⟩ := h.shp.cell h3 (i := j) (by omega)
  exact ⟨g, e1, h5, h6, fun u => h.set ⟨Nat.le_trans hm h2, hlt g e1⟩ _ u (fun x hx e => absurd (hx.trans (congrArg some e)) (kind_ne r1 h3 (by decide))) (fun x hx e => absurd (hx.trans (congrArg some e)) (kind_ne r2 h3 (by decide)))⟩
/-- What the walk over a step needs while the rows are written over. -/
theorem wipeS {Wb V : World} {F : Fw} {o3 o4 : Option Addr} {c3 c4 : Nat} {P3 : List (Sp × Value)} {P4 : List (Rl × Value)} {bh : Nat} (h : FlO Wb V F o3 c3 o4 c4 P3 P4) (H : V.heap[bh]? = some (.cells #[.string F.name, .slice o3 F.steps.length c3, .slice o4 F.rules.length c4] 25 (0, 0))) (L1 : ∀ g, (Value.slice o3 F.steps.length c3).ownBlock = some g → g < bh) (L2 : ∀ p ∈ P3, ∀ g, p.2.ownBlock = some g → g < bh) (hB : FlB F) {c : Nat} (hc : c < F.steps.length) :
    ∃ g oi m ci, o3 = some ⟨g, 0, none⟩ ∧ m ≤ 30 ∧ ∀ W, Wy V Wb.heap.size bh (.slice o3 F.steps.length c3) (.slice o4 F.rules.length c4) P3.length P4.length W → W.cell? ⟨bh, 1, none⟩ = some (.slice o3 F.steps.length c3) ∧ W.cell? ⟨g, c * 3 + 2, none⟩ = some (.slice oi m ci) ∧ ((∃ u, W.cell? ⟨g, c * 3, none⟩ = some u) ∧ W.frozen? ⟨g, c * 3, none⟩ = false ∧ ∀ u, Wy V Wb.heap.size bh (.slice o3 F.steps.length c3) (.slice o4 F.rules.length c4) P3.length P4.length (W.setCell ⟨g, c * 3, none⟩ u)) ∧ ∀ k, k < m → ∃ gi, oi = some ⟨gi, 0, none⟩ ∧ (∃ u, W.cell? ⟨gi, k, none⟩ = some u) ∧ W.frozen? ⟨gi, k, none⟩ = false ∧ ∀ u, Wy V Wb.heap.size bh (.slice o3 F.steps.length c3) (.slice o4 F.rules.length c4) P3.length P4.length (W.setCell ⟨gi, k, none⟩ u) := by
  have hl : P3.length = F.steps.length := by rw [← h.m1, List.length_map]
  obtain ⟨p, hp⟩ : ∃ p, P3[c]? = some p := ⟨_, List.getElem?_eq_getElem (by omega)⟩
  have hmem := List.mem_of_getElem? hp
  have hin := h.t1.inner p hmem
  obtain ⟨oi, ci, ei⟩ := own_shp hin
  obtain ⟨g, cap, e, _⟩ := (Wy.refl V Wb.heap.size bh (.slice o3 F.steps.length c3) (.slice o4 F.rules.length c4) P3.length P4.length).stepAt h.t1 (Nat.le_refl _) L1 hp
  have e1 : o3 = some ⟨g, 0, none⟩ := by injection e
  refine ⟨g, oi, _, ci, e1, (hB.st p.1 (by rw [← h.m1]; exact List.mem_map_of_mem hmem)).1, fun W hW => ⟨?_, ?_⟩⟩
  · simp [World.cell?, (hW.zf.blk bh (Array.getElem?_eq_some_iff.1 H).1 (fun e => Nat.lt_irrefl _ e.2)).trans H]
  · obtain ⟨g', cap', e', a1, a2, a3, a4⟩ := hW.stepAt h.t1 (Nat.le_refl _) L1 hp
    have e2 : o3 = some ⟨g', 0, none⟩ := by injection e'
    obtain rfl : g' = g := by rw [e1] at e2; injection e2 with e2; injection e2 with e2; exact e2.symm
    rw [ei] at a1 hin
    refine ⟨a1, ⟨a2, a3, a4⟩, fun k hk => hW.intAt h.t1.row h.t2.row hin (Nat.le_refl _) (fun x ex => L2 p hmem x (by rw [ei, ex]; rfl)) hk⟩
/-- And over a rule. -/
theorem wipeR {Wb V : World} {F : Fw} {o3 o4 : Option Addr} {c3 c4 : Nat} {P3 : List (Sp × Value)} {P4 : List (Rl × Value)} {bh : Nat} (h : FlO Wb V F o3 c3 o4 c4 P3 P4) (H : V.heap[bh]? = some (.cells #[.string F.name, .slice o3 F.steps.length c3, .slice o4 F.rules.length c4] 25 (0, 0))) (L1 : ∀ g, (Value.slice o4 F.rules.length c4).ownBlock = some g → g < bh) (L3 : ∀ p ∈ P4, ∀ g, p.2.ownBlock = some g → g < bh) (hB : FlB F) {c : Nat} (hc : c < F.rules.length) :
    ∃ g oi m ci, o4 = some ⟨g, 0, none⟩ ∧ m ≤ 30 ∧ ∀ W, Wy V Wb.heap.size bh (.slice o3 F.steps.length c3) (.slice o4 F.rules.length c4) P3.length P4.length W → W.cell? ⟨bh, 2, none⟩ = some (.slice o4 F.rules.length c4) ∧ W.cell? ⟨g, c * 3 + 2, none⟩ = some (.slice oi m ci) ∧ ((∃ u, W.cell? ⟨g, c * 3, none⟩ = some u) ∧ W.frozen? ⟨g, c * 3, none⟩ = false ∧ ∀ u, Wy V Wb.heap.size bh (.slice o3 F.steps.length c3) (.slice o4 F.rules.length c4) P3.length P4.length (W.setCell ⟨g, c * 3, none⟩ u)) ∧ ∀ k, k < m → ∃ gi, oi = some ⟨gi, 0, none⟩ ∧ (∃ u, W.cell? ⟨gi, k, none⟩ = some u) ∧ W.frozen? ⟨gi, k, none⟩ = false ∧ ∀ u, Wy V Wb.heap.size bh (.slice o3 F.steps.length c3) (.slice o4 F.rules.length c4) P3.length P4.length (W.setCell ⟨gi, k, none⟩ u) := by
  have hl : P4.length = F.rules.length := by rw [← h.m2, List.length_map]
  obtain ⟨p, hp⟩ : ∃ p, P4[c]? = some p := ⟨_, List.getElem?_eq_getElem (by omega)⟩
  have hmem := List.mem_of_getElem? hp
  have hin := h.t2.inner p hmem
  obtain ⟨oi, ci, ei⟩ := own_shp hin
  obtain ⟨g, cap, e, _⟩ := (Wy.refl V Wb.heap.size bh (.slice o3 F.steps.length c3) (.slice o4 F.rules.length c4) P3.length P4.length).ruleAt h.t2 (Nat.le_refl _) L1 hp
  have e1 : o4 = some ⟨g, 0, none⟩ := by injection e
  refine ⟨g, oi, _, ci, e1, hB.ru p.1 (by rw [← h.m2]; exact List.mem_map_of_mem hmem), fun W hW => ⟨?_, ?_⟩⟩
  · simp [World.cell?, (hW.zf.blk bh (Array.getElem?_eq_some_iff.1 H).1 (fun e => Nat.lt_irrefl _ e.2)).trans H]
  · obtain ⟨g', cap', e', a1, a2, a3, a4⟩ := hW.ruleAt h.t2 (Nat.le_refl _) L1 hp
    have e2 : o4 = some ⟨g', 0, none⟩ := by injection e'
    obtain rfl : g' = g := by rw [e1] at e2; injection e2 with e2; injection e2 with e2; exact e2.symm
    rw [ei] at a1 hin
    refine ⟨a1, ⟨a2, a3, a4⟩, fun k hk => hW.intAt h.t1.row h.t2.row hin (Nat.le_refl _) (fun x ex => L3 p hmem x (by rw [ei, ex]; rfl)) hk⟩
/-- An event of a told log while they are written over. -/
theorem logAt {V W : World} (h : Shp V W) {m : Nat} {o : Option Addr} {n cap : Nat} {xs : List Value} (hv : V.ownsRow m 62 4 (.slice o n cap) n xs) {j : Nat} (hj : j < n) :
    ∃ g, o = some ⟨g, 0, none⟩ ∧ m ≤ g ∧ (∃ u0 u1 u2 u3, W.cell? ⟨g, j * 4, none⟩ = some u0 ∧ W.cell? ⟨g, j * 4 + 1, none⟩ = some u1 ∧ W.cell? ⟨g, j * 4 + 2, none⟩ = some u2 ∧ W.cell? ⟨g, j * 4 + 3, none⟩ = some u3) ∧ W.frozen? ⟨g, j * 4, none⟩ = false ∧ W.frozen? ⟨g, j * 4 + 1, none⟩ = false ∧ W.frozen? ⟨g, j * 4 + 2, none⟩ = false ∧ W.frozen? ⟨g, j * 4 + 3, none⟩ = false := by
  obtain ⟨g, cap', cs, e, h1, h2, h3, h4⟩ := own_blk hv (by omega)
  have e1 : o = some ⟨g, 0, none⟩ := by injection e
  obtain ⟨⟨u0, a0⟩, f0⟩ := h.cell h3 (i := j * 4) (by omega)
  obtain ⟨⟨u1, a1⟩, f1⟩ := h.cell h3 (i := j * 4 + 1) (by omega)
  obtain ⟨⟨u2, a2⟩, f2⟩ := h.cell h3 (i := j * 4 + 2) (by omega)
  obtain ⟨⟨u3, a3⟩, f3⟩ := h.cell h3 (i := j * 4 + 3) (by omega)
  exact ⟨g, e1, h2, ⟨u0, u1, u2, u3, a0, a1, a2, a3⟩, f0, f1, f2, f3⟩
/-- A told flow beside the runs and the book. -/
structure Yw (w : World) (k : SdK) (lv ev : Value) (n : Nat) (R : Rs) (c b : Nat) (m0 : Nat) (nm : ByteArray) (s1 s2 : Value) (n1 n2 : Nat) (I : List (Value × List Int)) (x : Nat) (i : Nat) (tag : Nat → Nat) (W : World) : Prop where
  ow : Ow w k lv ev n R c b tag W
  xw : Xw m0 s1 s2 n1 n2 I i tag W
  bx : tag x = 0 ∧ m0 ≤ x ∧ W.heap[x]? = some (.cells #[.string nm, s1, s2] 25 (0, 0))
  ft : ∀ y, k.ft lv ev y → y < m0
  wm : w.heap.size ≤ m0
  h1 : n1 ≠ 0 → ∃ g cap, s1 = .slice (some ⟨g, 0, none⟩) n1 cap
  h2 : n2 ≠ 0 → ∃ g cap, s2 = .slice (some ⟨g, 0, none⟩) n2 cap
section
variable {w : World} {k : SdK} {lv ev : Value} {n : Nat} {R : Rs} {c b : Nat} {m0 : Nat} {nm : ByteArray} {s1 s2 : Value} {n1 n2 : Nat} {I : List (Value × List Int)} {x i : Nat} {tag : Nat → Nat} {W W' : World}
theorem Yw.start {W0 W1 : World} {F : Fw} {P1 : List (Sp × Value)} {P2 : List (Rl × Value)} (h : Ow w k lv ev n R c b tag W0) (t1 : TwP W0.heap.size W1 s1 P1) (t2 : TwS W0.heap.size W1 s2 P2) (hb : Below W0.heap.size W0 W1) (hd : Dv W1.heap.size (P1.map Prod.snd ++ P2.map Prod.snd)) (m1 : P1.map Prod.fst = F.steps) (m2 : P2.map Prod.fst = F.rules) (hB : FlB F) :
    Yw w k lv ev n R c b W0.heap.size nm s1 s2 P1.length P2.length (rowsOf P1 P2) W1.heap.size 0 tag (W1.alloc (.cells #[.string nm, s1, s2] 25)) := by
  have hal := (Below.refl _ W1).alloc (Nat.le_refl _) (.cells #[.string nm, s1, s2] 25)
  have hz := hb.size
  have hf : ∀ g, W0.heap.size ≤ g → tag g = 0 := h.bk.fresh
  refine ⟨(h.over hb).over hal, (Xw.start t1 t2 hd hf (fun p hp => ?_) (fun p hp => ?_)).over hal, ⟨hf _ hz, hz, heap_alloc_new _ _⟩, fun y e => h.sd.lt y e, h.bl.size, fun h0 => ?_, fun h0 => ?_⟩
  · exact (hB.st p.1 (by rw [← m1]; exact List.mem_map_of_mem hp)).1
  · exact hB.ru p.1 (by rw [← m2]; exact List.mem_map_of_mem hp)
  · obtain ⟨g, cap, _, e, _⟩ := own_blk t1.row h0
    exact ⟨g, cap, e⟩
  · obtain ⟨g, cap, _, e, _⟩ := own_blk t2.row h0
    exact ⟨g, cap, e⟩
theorem Yw.ints (h : Yw w k lv ev n R c b m0 nm s1 s2 n1 n2 I x i tag W) {q : Value × List Int} (hq : I[i]? = some q) :
    Calls Tryz.prog 18 #[.pointer (some ⟨b, 0, none⟩), q.1] W fun e w' => e = .returned (.tuple #[]) ∧ ∃ tag', Yw w k lv ev n R c b m0 nm s1 s2 n1 n2 I x (i + 1) tag' w' := by
  obtain ⟨hv, hg⟩ := h.xw.inr i q hq (Nat.le_refl _)
  have hm := h.wm
  refine (h.ow.ints hv (by have := h.xw.sm q (List.mem_of_getElem? hq); omega) fun g e => ⟨(hg g e).1, fun f => by have := h.ft g f; have := (hg g e).2; omega, by have := (hg g e).2; omega⟩).mono ?_
  rintro e w' ⟨rfl, tag', ho, hf⟩
  obtain ⟨b1, b2, b3⟩ := h.bx
  have hlt := (Array.getElem?_eq_some_iff.1 b3).1
  have hne := kinds_ne hv b3 (by decide)
  exact ⟨rfl, tag', ho, h.xw.give hq hf, ⟨hf.tg x hlt b1 hne, b2, (hf.block x hlt b1 hne).trans b3⟩, h.ft, h.wm, h.h1, h.h2⟩
theorem Yw.out {g : Nat} (h : Yw w k lv ev n R c b m0 nm s1 s2 n1 n2 I x i tag W) (hx : Xw m0 s1 s2 n1 n2 I i tag W') (hz : Zf (fun y => y = g) W W') (hg : tag g = 0 ∧ m0 ≤ g) (hne : g ≠ x) : Yw w k lv ev n R c b m0 nm s1 s2 n1 n2 I x i tag W' := by
  obtain ⟨b1, b2, b3⟩ := h.bx
  have hm := h.wm
  exact ⟨h.ow.zf hz (fun y _ e => by subst e; exact ⟨hg.1, fun f => by have := h.ft y f; omega⟩) (fun y e => by omega), hx, ⟨b1, b2, (hz.blk x (Array.getElem?_eq_some_iff.1 b3).1 (fun e => hne e.symm)).trans b3⟩, h.ft, h.wm, h.h1, h.h2⟩
/-- A step of it. -/
theorem Yw.at1 (h : Yw w k lv ev n R c b m0 nm s1 s2 n1 n2 I x i tag W) {j : Nat} {q : Value × List Int} (hj : j < n1) (hq : I[j]? = some q) :
    ∃ g cap, s1 = .slice (some ⟨g, 0, none⟩) n1 cap ∧ W.cell? ⟨g, j * 3 + 2, none⟩ = some q.1 ∧ (∃ u, W.cell? ⟨g, j * 3, none⟩ = some u) ∧ W.frozen? ⟨g, j * 3, none⟩ = false ∧ ∀ u, Yw w k lv ev n R c b m0 nm s1 s2 n1 n2 I x i tag (W.setCell ⟨g, j * 3, none⟩ u) := by
  obtain ⟨g, cap, e⟩ := h.h1 (by omega)
  have hg : s1.ownBlock = some g := by rw [e]; rfl
  obtain ⟨h0, cs, hb, hs, hc⟩ := h.xw.r1 g hg
  have hne : g ≠ x := fun e => by
    have := h.bx.2.2
    rw [← e, hb] at this
    injection this with this
    injection this with _ this
    exact absurd this (by decide)
  refine ⟨g, cap, e, ?_, ?_, by simp [World.frozen?, hb], fun u => h.out (h.xw.set1 hg (j * 3) u (by omega)) ((Zf.refl (fun y => y = g) W).set rfl _ _) h0 hne⟩
  · simp only [World.cell?, hb]
    exact hc j q hj hq
  · exact ⟨cs[j * 3]'(by omega), by simp [World.cell?, hb, show j * 3 < cs.size by omega]⟩
/-- A rule of it. -/
theorem Yw.at2 (h : Yw w k lv ev n R c b m0 nm s1 s2 n1 n2 I x i tag W) {j : Nat} {q : Value × List Int} (hj : j < n2) (hq : I[n1 + j]? = some q) :
    ∃ g cap, s2 = .slice (some ⟨g, 0, none⟩) n2 cap ∧ W.cell? ⟨g, j * 3 + 2, none⟩ = some q.1 ∧ (∃ u, W.cell? ⟨g, j * 3 + 1, none⟩ = some u) ∧ W.frozen? ⟨g, j * 3 + 1, none⟩ = false ∧ ∀ u, Yw w k lv ev n R c b m0 nm s1 s2 n1 n2 I x i tag (W.setCell ⟨g, j * 3 + 1, none⟩ u) := by
  obtain ⟨g, cap, e⟩ := h.h2 (by omega)
  have hg : s2.ownBlock = some g := by rw [e]; rfl
  obtain ⟨h0, cs, hb, hs, hc⟩ := h.xw.r2 g hg
  have hne : g ≠ x := fun e => by
    have := h.bx.2.2
    rw [← e, hb] at this
    injection this with this
    injection this with _ this
    exact absurd this (by decide)
  refine ⟨g, cap, e, ?_, ?_, by simp [World.frozen?, hb], fun u => h.out (h.xw.set2 hg (j * 3 + 1) u (by omega)) ((Zf.refl (fun y => y = g) W).set rfl _ _) h0 hne⟩
  · simp only [World.cell?, hb]
    exact hc j q hj hq
  · exact ⟨cs[j * 3 + 1]'(by omega), by simp [World.cell?, hb, show j * 3 + 1 < cs.size by omega]⟩
end
/-- The same, whatever the book's marks are. -/
def Yx (w : World) (k : SdK) (lv ev : Value) (n : Nat) (R : Rs) (c b : Nat) (m0 : Nat) (nm : ByteArray) (s1 s2 : Value) (n1 n2 : Nat) (I : List (Value × List Int)) (x : Nat) (i : Nat) (W : World) : Prop := ∃ tag, Yw w k lv ev n R c b m0 nm s1 s2 n1 n2 I x i tag W
end Go.Proofs.YtlipdccfhnnleaaGreatDoor

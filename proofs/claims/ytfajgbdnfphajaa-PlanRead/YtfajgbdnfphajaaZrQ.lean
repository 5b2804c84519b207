/- What stands while the document reads a certificate. -/
import Derived.Test.YtfajgbdnfphajaaZrR
import Derived.Test.YtfajgbdnfphajaaZdC
namespace Go.Proofs.Ytfajgbdnfphajaa.S
open Go.RowKit Go.Shelf
/-- The result's box, none's, the problem's; its rows, and the plan's. -/
structure Dq (w : World) (gp : Nat) (W : World) (u : Int) (a b va vb vp : Value) (L1 : List Nat) (L2 LP : List Int) : Prop where
  z0 : QAt W w.heap.size 0 (.slice none 0 0) (.slice none 0 0) (.slice none 0 0)
  z1 : QAt W (w.heap.size + 1) 0 (.slice none 0 0) (.slice none 0 0) (.slice none 0 0)
  qb : QAt W gp u a b (.slice none 0 0)
  r1 : W.ownsRow (gp + 1) 51 1 va L1.length (cellsW L1)
  r2 : W.ownsRow (gp + 1) 3 1 vb L2.length (cellsI L2)
  rp : W.ownsRow (gp + 1) 3 1 vp LP.length (cellsI LP)
  dj : ∀ g, vb.ownBlock = some g → vp.ownBlock ≠ some g
  be : Below w.heap.size w W
  ge : w.heap.size + 2 ≤ gp
section
variable {w W W' : World} {gp : Nat} {u : Int} {a b va vb vp : Value} {L1 : List Nat} {L2 LP : List Int}
theorem Dq.sz (h : Dq w gp W u a b va vb vp L1 L2 LP) : gp + 1 ≤ W.heap.size := h.qb.lt
theorem Dq.base (h : Dq w gp W u a b va vb vp L1 L2 LP) (hb : Below (gp + 1) W W') : QAt W' w.heap.size 0 (.slice none 0 0) (.slice none 0 0) (.slice none 0 0) ∧ QAt W' (w.heap.size + 1) 0 (.slice none 0 0) (.slice none 0 0) (.slice none 0 0) ∧ QAt W' gp u a b (.slice none 0 0) ∧ Below w.heap.size w W' :=
  have hge := h.ge
  ⟨h.z0.of (hb.block _ (by omega)), h.z1.of (hb.block _ (by omega)), h.qb.of (hb.block _ (by omega)), h.be.trans (hb.mono (by omega))⟩
theorem Dq.over (h : Dq w gp W u a b va vb vp L1 L2 LP) (hb : Below W.heap.size W W') : Dq w gp W' u a b va vb vp L1 L2 LP := by
  obtain ⟨b0, b1, b2, b3⟩ := h.base (hb.mono h.sz)
  exact ⟨b0, b1, b2, own_lowB h.r1 hb, own_lowB h.r2 hb, own_lowB h.rp hb, h.dj, b3, h.ge⟩
theorem Dq.put (h : Dq w gp W u a b va vb vp L1 L2 LP) {o : Nat} {x : Value} {a' b' : Value} (hq : QAt (W.setCell ⟨gp, o, none⟩ x) gp u a' b' (.slice none 0 0)) : Dq w gp (W.setCell ⟨gp, o, none⟩ x) u a' b' va vb vp L1 L2 LP := by
  have hge := h.ge
  have hb : Below gp W (W.setCell ⟨gp, o, none⟩ x) := (Below.refl _ W).setCell (p := ⟨gp, o, none⟩) (Nat.le_refl _) _
  exact ⟨h.z0.of (hb.block _ (by omega)), h.z1.of (hb.block _ (by omega)), hq, own_set h.r1 (by omega) x, own_set h.r2 (by omega) x, own_set h.rp (by omega) x, h.dj, h.be.trans (hb.mono (by omega)), h.ge⟩
variable {o : Oper} {ac : Act} {Q : Exit → Act → World → Prop} {K : Act → World → Prop}
/-- A word more. -/
theorem Dq.wapp1 (s x : Operand) (h : Dq w gp W u a b va vb vp L1 L2 LP) (z : Nat) (ho : o.op = .call { callee := .builtin .append, args := #[s, x], argTypes := #[23, 23] })
    (es : ac.eval s = va) (ex : ac.eval x = .slice (some ⟨W.heap.size, 0, none⟩) 1 1) (hn : L1.length ≤ 1000000)
    (hK : ∀ o5 n5 c5 w2, Dq w gp w2 u a b (.slice o5 n5 c5) vb vp (L1 ++ [z]) L2 LP → K (ac.put o.dst (.slice o5 n5 c5)) w2) : o.wp Try.prog ac (W.alloc (.cells #[.int .u64 (z : Int)] 51)) K Q := by
  obtain ⟨i0, hi, hz0, hz1, hz2⟩ := info_parts infoW
  have hs := h.sz
  refine wp_append_own _ s x 23 ho (gp + 1) 51 i0 (.int .u64 0) 1 8 Try.underlying23 hi hz0 hz1 hz2 rfl (by decide) va L1.length (cellsW L1) es (h.r1.alloc _) ⟨W.heap.size, 0, none⟩ 1 1 [.int .u64 (z : Int)] ex rfl (World.news_of_block (cs := #[.int .u64 (z : Int)]) (heap_new _ _)) (by simp [Value.oneCell']) (by unfold maxLen; omega) (by omega) (by simp; omega) ?_
  intro v2 w2 hown hgrow _
  have hb : Below (gp + 1) W w2 := ((Below.refl _ W).alloc hs _).grown hgrow (by simp; omega) (fun j ej => own_ge' h.r1 ej)
  obtain ⟨o5, c5, rfl⟩ := own_shp hown
  obtain ⟨b0, b1, b2, b3⟩ := h.base hb
  have e : cellsW (L1 ++ [z]) = cellsW L1 ++ [.int .u64 (z : Int)] := by simp [cellsW]
  exact hK _ _ _ _ ⟨b0, b1, b2, by rw [e, List.length_append]; exact hown, kept_kind (h.r2.alloc _) (h.r1.alloc _) (by decide) hgrow, kept_kind (h.rp.alloc _) (h.r1.alloc _) (by decide) hgrow, h.dj, b3, h.ge⟩
/-- An int more, in the problem. -/
theorem Dq.wapp2 (s x : Operand) (h : Dq w gp W u a b va vb vp L1 L2 LP) (z : Int) (ho : o.op = .call { callee := .builtin .append, args := #[s, x], argTypes := #[24, 24] })
    (es : ac.eval s = vb) (ex : ac.eval x = .slice (some ⟨W.heap.size, 0, none⟩) 1 1) (hn : L2.length ≤ 1000000)
    (hK : ∀ o5 n5 c5 w2, Dq w gp w2 u a b va (.slice o5 n5 c5) vp L1 (L2 ++ [z]) LP → K (ac.put o.dst (.slice o5 n5 c5)) w2) : o.wp Try.prog ac (W.alloc (.cells #[.int .i64 z] 3)) K Q := by
  refine app_pair s x (gp + 1) W vb L2 vp LP z ho es ex h.r2 h.rp h.dj h.sz hn ?_
  intro o5 n5 c5 w2 k1 k2 k3 k4 k5
  obtain ⟨b0, b1, b2, b3⟩ := h.base k4
  exact hK _ _ _ _ ⟨b0, b1, b2, k5 _ _ _ _ _ _ (by decide) h.r1, k1, k2, k3, b3, h.ge⟩
/-- An int more, in the plan. -/
theorem Dq.wappP (s x : Operand) (h : Dq w gp W u a b va vb vp L1 L2 LP) (z : Int) (ho : o.op = .call { callee := .builtin .append, args := #[s, x], argTypes := #[24, 24] })
    (es : ac.eval s = vp) (ex : ac.eval x = .slice (some ⟨W.heap.size, 0, none⟩) 1 1) (hn : LP.length ≤ 1000000)
    (hK : ∀ o5 n5 c5 w2, Dq w gp w2 u a b va vb (.slice o5 n5 c5) L1 L2 (LP ++ [z]) → K (ac.put o.dst (.slice o5 n5 c5)) w2) : o.wp Try.prog ac (W.alloc (.cells #[.int .i64 z] 3)) K Q := by
  refine app_pair s x (gp + 1) W vp LP vb L2 z ho es ex h.rp h.r2 (fun g h1 h2 => h.dj g h2 h1) h.sz hn ?_
  intro o5 n5 c5 w2 k1 k2 k3 k4 k5
  obtain ⟨b0, b1, b2, b3⟩ := h.base k4
  exact hK _ _ _ _ ⟨b0, b1, b2, k5 _ _ _ _ _ _ (by decide) h.r1, k2, k1, (fun g h1 h2 => k3 g h2 h1), b3, h.ge⟩
end
/-- Once the rules are in their place. -/
structure Rf (w : World) (Q : Pb) (gp : Nat) (va vb vc vp : Value) (M : List Int) (E : List (Rl × Value)) (W : World) : Prop where
  z0 : QAt W w.heap.size 0 (.slice none 0 0) (.slice none 0 0) (.slice none 0 0)
  z1 : QAt W (w.heap.size + 1) 0 (.slice none 0 0) (.slice none 0 0) (.slice none 0 0)
  qb : QAt W gp Q.users va vb vc
  r1 : W.ownsRow (gp + 1) 51 1 va Q.who.length (cellsW Q.who)
  r2 : W.ownsRow (gp + 1) 3 1 vb Q.fixed.length (cellsI Q.fixed)
  r3 : TwS (gp + 1) W vc E
  rp : W.ownsRow (gp + 1) 3 1 vp M.length (cellsI M)
  ee : E.map Prod.fst = Q.rules
  be : Below w.heap.size w W
  ge : w.heap.size + 2 ≤ gp
section
variable {w W W' : World} {Q : Pb} {gp : Nat} {va vb vc vp : Value} {M : List Int} {E : List (Rl × Value)}
theorem Rf.over (h : Rf w Q gp va vb vc vp M E W) (hb : Below W.heap.size W W') : Rf w Q gp va vb vc vp M E W' :=
  ⟨h.z0.of (hb.block _ h.z0.lt), h.z1.of (hb.block _ h.z1.lt), h.qb.of (hb.block _ h.qb.lt), own_lowB h.r1 hb, own_lowB h.r2 hb, h.r3.below hb (Nat.le_refl _), own_lowB h.rp hb, h.ee, h.be.trans (hb.mono h.be.size), h.ge⟩
theorem Rf.pv (h : Rf w Q gp va vb vc vp M E W) : PbV W Q va vb vc := by
  refine ⟨RowW.of_owns h.r1, RowI.of_owns h.r2, ?_⟩
  have := h.r3.rowR
  rw [h.ee] at this
  exact this
theorem Rf.fin (h : Rf w Q gp va vb vc vp M E W) (x0 x1 x2 x3 : Value) :
    let W' := (((W.setCell ⟨w.heap.size, 0, none⟩ x0).setCell ⟨w.heap.size, 1, none⟩ x1).setCell ⟨w.heap.size, 2, none⟩ x2).setCell ⟨w.heap.size, 3, none⟩ x3
    PbV W' Q va vb vc ∧ RowI W' vp M ∧ Below w.heap.size w W' := by
  intro W'
  have hge := h.ge
  have hb : Below w.heap.size W W' := ((((Below.refl _ W).setCell (p := ⟨w.heap.size, 0, none⟩) (Nat.le_refl _) x0).setCell (p := ⟨w.heap.size, 1, none⟩) (Nat.le_refl _) x1).setCell (p := ⟨w.heap.size, 2, none⟩) (Nat.le_refl _) x2).setCell (p := ⟨w.heap.size, 3, none⟩) (Nat.le_refl _) x3
  have s4 : ∀ {B e sz : Nat} {v : Value} {n : Nat} {xs : List Value}, W.ownsRow B e sz v n xs → w.heap.size < B → W'.ownsRow B e sz v n xs := fun h hB => own_set (own_set (own_set (own_set h hB x0) hB x1) hB x2) hB x3
  refine ⟨⟨RowW.of_owns (s4 h.r1 (by omega)), RowI.of_owns (s4 h.r2 (by omega)), ?_⟩, RowI.of_owns (s4 h.rp (by omega)), h.be.trans hb⟩
  have hT : TwS (gp + 1) W' vc E := ⟨s4 h.r3.row (by omega), fun p hp => s4 (h.r3.inner p hp) (by omega)⟩
  have := hT.rowR
  rw [h.ee] at this
  exact this
/-- The rules laid into the problem's box. -/
theorem Dq.rules {u : Int} {L1 : List Nat} {L2 LP : List Int} {Rs : List Rl} (h : Dq w gp W u va vb va vb vp L1 L2 LP) (hT : TwS (gp + 1) W vc E) (he : E.map Prod.fst = Rs) : Rf w ⟨u, L1, L2, Rs⟩ gp va vb vc vp LP E (W.setCell ⟨gp, 3, none⟩ vc) := by
  have hge := h.ge
  have hb : Below gp W (W.setCell ⟨gp, 3, none⟩ vc) := (Below.refl _ W).setCell (p := ⟨gp, 3, none⟩) (Nat.le_refl _) _
  exact ⟨h.z0.of (hb.block _ (by omega)), h.z1.of (hb.block _ (by omega)), h.qb.s3 vc, own_set h.r1 (by omega) vc, own_set h.r2 (by omega) vc, ⟨own_set hT.row (by omega) vc, fun p hp => own_set (hT.inner p hp) (by omega) vc⟩, own_set h.rp (by omega) vc, he, h.be.trans (hb.mono (by omega)), h.ge⟩
/-- The result's box written with nothing. -/
theorem zero_fin (h : Below w.heap.size w W) (x0 x1 x2 x3 : Value) : Below w.heap.size w ((((W.setCell ⟨w.heap.size, 0, none⟩ x0).setCell ⟨w.heap.size, 1, none⟩ x1).setCell ⟨w.heap.size, 2, none⟩ x2).setCell ⟨w.heap.size, 3, none⟩ x3) :=
  h.trans (((((Below.refl _ W).setCell (p := ⟨w.heap.size, 0, none⟩) (Nat.le_refl _) x0).setCell (p := ⟨w.heap.size, 1, none⟩) (Nat.le_refl _) x1).setCell (p := ⟨w.heap.size, 2, none⟩) (Nat.le_refl _) x2).setCell (p := ⟨w.heap.size, 3, none⟩) (Nat.le_refl _) x3)
end
end Go.Proofs.Ytfajgbdnfphajaa.S

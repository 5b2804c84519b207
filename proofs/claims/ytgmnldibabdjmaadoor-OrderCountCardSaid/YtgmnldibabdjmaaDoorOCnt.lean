/- counter.from: in how many ways a row goes on behind a Down set, at most so many. -/
import Derived.Test.YtgmnldibabdjmaaDoorOCntM
import Derived.Test.YtgmnldibabdjmaaDoorOReady
import Derived.Test.YtgmnldibabdjmaaDoorBridge
import Derived.Maps.OwnSet
import Derived.Deep.RegionHeld3
namespace Go.Proofs.YtgmnldibabdjmaaDoor
open Go.RowKit Go.Shelf Go.Maps
attribute [local go_sem] Oper.semAt_some
/-- A call that changes the map's block alone. -/
structure Gz (gm : Nat) (V V' : World) : Prop where
  low : Below gm V V'
  up : ∀ b, gm < b → b < V.heap.size → V'.heap[b]? = V.heap[b]?
theorem Gz.refl (gm : Nat) (V : World) : Gz gm V V := ⟨Below.refl _ _, fun _ _ _ => rfl⟩
theorem Gz.trans {gm : Nat} {A B C : World} (h : Gz gm A B) (k : Gz gm B C) : Gz gm A C :=
  ⟨h.low.trans k.low, fun b h1 h2 => (k.up b h1 (Nat.lt_of_lt_of_le h2 h.low.size)).trans (h.up b h1 h2)⟩
theorem Gz.of_below {gm : Nat} {V V' : World} (h : Below V.heap.size V V') (hg : gm ≤ V.heap.size) : Gz gm V V' := ⟨h.mono hg, fun b _ hb => h.block b hb⟩
theorem Gz.grown {gm : Nat} {V V' : World} (h : V.grownBy V' (some gm)) (hg : gm < V.heap.size) : Gz gm V V' :=
  ⟨(Below.refl gm V).grown h (by omega) (fun k e => by injection e; omega), fun b h1 h2 => h.block b h2 (by intro x; injection x; omega)⟩
theorem Gz.setCell {gm b : Nat} {A V : World} (h : Gz gm A V) (hb : A.heap.size ≤ b) (hg : gm < A.heap.size) (u : Value) : Gz gm A (V.setCell ⟨b, 0, none⟩ u) :=
  ⟨h.low.setCell (p := ⟨b, 0, none⟩) (by show gm ≤ b; omega) u, fun k h1 h2 => (Below.heap_setCell _ _ _ _ (by show k ≠ b; omega)).trans (h.up k h1 h2)⟩
theorem Gz.own {gm B : Nat} {A : World} (h : A.heap.size ≤ B) (hgA : gm < A.heap.size) : OwnFrom (β := Unit) B (fun _ V => Gz gm A V) := fun _ Y Z row k hg' hr =>
  ⟨k.low.grown hg' (Nat.le_of_lt (Nat.lt_of_lt_of_le hgA k.low.size)) (fun r e => by have := (hr r e).1; omega), fun b h1 h2 => (hg'.block b (Nat.lt_of_lt_of_le h2 k.low.size) (fun e => by have := (hr b e.symm).1; omega)).trans (k.up b h1 h2)⟩
theorem map_blk {P : Program} {k : TypeId} {R : Value → Option (DataW Unit × List MemPlace)} {b n : Nat} {D : DataW Unit} {V V' : World} (h : V.ownsMap P k R b n D) (e : V'.heap[b]? = V.heap[b]?) : V'.ownsMap P k R b n D := by
  obtain ⟨es, clock, hb, r⟩ := h
  exact ⟨es, clock, e.trans hb, r⟩
/-- A map that knows some of the numbers of ways. -/
def HoldsC (D : DataW Unit) (n : Nat) (Pf : Nat → Nat) (M : Nat) : Prop := Tidy D ∧ ∀ d : Nat, Maps.has D (.int .u64 d) = true → D.atKey (.int .u64 d) (.lit (.int .u64 0)) = .lit (.int .u64 ((min (ext n Pf (n - cnt n d) d) M : Nat) : Int))
theorem HoldsC.nil (n : Nat) (Pf : Nat → Nat) (M : Nat) : HoldsC (.map []) n Pf M := ⟨tidy_empty, fun d h => by simp [Maps.has] at h⟩
theorem HoldsC.put {D : DataW Unit} {n : Nat} {Pf : Nat → Nat} {M d v : Nat} (h : HoldsC D n Pf M) (hv : v = min (ext n Pf (n - cnt n d) d) M) : HoldsC (D.put (.int .u64 d) (.lit (.int .u64 (v : Int)))) n Pf M := by
  obtain ⟨h1, h2⟩ := h
  have hk : WideAt.IsKeyLit (.int .u64 (d : Int)) := by trivial
  refine ⟨h1.put hk _, fun y hy => ?_⟩
  by_cases e : y = d
  · subst e
    rw [atKey_put_same h1.isMap hk, hv]
  · have hne : (Lit.int .u64 (y : Int)) ≠ .int .u64 (d : Int) := fun h => e (by injection h with _ h; omega)
    rw [has_put_other hne] at hy
    rw [atKey_put_other hne, h2 y hy]
theorem lawU : Keyed Tryd.prog 23 := int_keyed Tryd.underlying23
theorem zeroU (w : World) : (zeroValue 23).run Tryd.prog w = .ok (.int .u64 0) w := by kernel_rfl
def cmap (V : World) (gm c : Nat) (D : DataW Unit) : Prop := V.ownsMap Tryd.prog 23 (plainElem Tryd.prog 23) gm c D
theorem wfU {d : Nat} (h : d < 18446744073709551616) : (Lit.int .u64 (d : Int)).wf = true := by
  have h0 : IntKind.u64.min = 0 := rfl
  have h1 : IntKind.u64.max = 18446744073709551615 := rfl
  simp [Lit.wf, h0, h1]
  omega
/-- What a look at the map tells. -/
theorem lookC {V : World} {gm c : Nat} {D : DataW Unit} (h : cmap V gm c D) {d : Nat} (hd : d < 18446744073709551616) {z : Int} (hz : D.atKey (.int .u64 d) (.lit (.int .u64 0)) = .lit (.int .u64 z)) :
    (Instr.lookup 44 (.map (some gm)) (.int .u64 (d : Int)) true).run Tryd.prog V = .ok (.tuple #[.int .u64 z, .bool (Maps.has D (.int .u64 d))]) V := by
  obtain ⟨v, ps, hr, hv⟩ := World.ownsMap.look_ok h lawU Tryd.underlying44 (zeroU V) (plainElem_int Tryd.underlying23 (by decide)) (keyOf_int_mk Tryd.underlying23 (wfU hd))
  obtain ⟨c', rfl, hc, _⟩ := plainElem_int_inv Tryd.underlying23 hv
  have h1 := congrArg Prod.fst hc
  have h2 : (DataW.lit (.int .u64 z) : DataW Unit) = .lit (.int .u64 c') := hz.symm.trans h1
  injection h2 with h2
  injection h2 with _ h2
  rw [h2]; exact hr
section
variable {w0 : World} {gm go gp gs n M : Nat} {Pf Sf : Nat → Nat} {R : Nat → Nat → Bool}
/-- What from does where k places are left. -/
def FromS (w0 : World) (gm go n M : Nat) (Pf : Nat → Nat) (R : Nat → Nat → Bool) (k : Nat) : Prop := ∀ (d c : Nat) (D : DataW Unit) (V : World), isDown n R d → cnt n d + k = n → Below gm w0 V → gm < V.heap.size → cmap V gm c D → HoldsC D n Pf M → c + (M * k + bnd M k) ≤ 1000000000000 →
  Calls Tryd.prog 11 #[.agg #[.pointer (some ⟨go, 0, none⟩), .int .u64 (M : Int), .map (some gm)], .agg #[.int .u64 (d : Int)]] V fun e V' => ∃ c' D', e = .returned (.int .u64 ((min (ext n Pf k d) M : Nat) : Int)) ∧ cmap V' gm c' D' ∧ HoldsC D' n Pf M ∧ c' ≤ c + bE M (min (ext n Pf k d) M) k ∧ Gz gm V V'
theorem keep5 {W0 W w1 : World} {b b' : Nat} {u0 u1 u2 u3 : Value} (h : W.cell? ⟨b, 0, none⟩ = some u0 ∧ W.cell? ⟨b, 1, none⟩ = some u1 ∧ W.cell? ⟨b, 2, none⟩ = some u2 ∧ W.cell? ⟨b', 0, none⟩ = some u3 ∧ Below W0.heap.size W0 W) (hb : Below W.heap.size W w1) :
    w1.cell? ⟨b, 0, none⟩ = some u0 ∧ w1.cell? ⟨b, 1, none⟩ = some u1 ∧ w1.cell? ⟨b, 2, none⟩ = some u2 ∧ w1.cell? ⟨b', 0, none⟩ = some u3 ∧ Below W0.heap.size W0 w1 :=
  ⟨cell_over h.1 hb, cell_over h.2.1 hb, cell_over h.2.2.1 hb, cell_over h.2.2.2.1 hb, h.2.2.2.2.trans (hb.mono h.2.2.2.2.size)⟩
set_option maxRecDepth 100000 in
set_option maxHeartbeats 1000000 in
theorem from0 (ho : OrdAt w0 go gp gs n Pf Sf) (hO : Ord n R Pf Sf) (hg : w0.heap.size = gm) (hM : M ≤ 65536) : FromS w0 gm go n M Pf R 0 := by
  intro d c D V hd hc hB hgV hm hH _
  have hd64 := down_lt hO.n64 hd
  have hfull := down_full hd (by omega)
  have hn := hO.n64
  have KA : Hid (∀ W, Below V.heap.size V W → Calls Tryd.prog 23 #[.pointer (some ⟨go, 0, none⟩)] W fun e w' => e = .returned (.agg #[.int .u64 (d : Int)]) ∧ Below W.heap.size W w') := fun W hW => by
    have := allO (ho.over (W' := W) (by rw [hg]; exact hB.trans (hW.mono (by omega)))) hn
    rwa [← hfull] at this
  clear hfull
  go_enter Tryd.func11, Tryd.ntmps11
  go_wp2
  have hB0 : Below V.heap.size V ((V.alloc (.cells #[.pointer (some ⟨go, 0, none⟩), .int .u64 (M : Int), .map (some gm)] 46)).alloc (.cells #[.int .u64 (d : Int)] 49)) := ((Below.refl _ V).alloc (Nat.le_refl _) _).alloc (by simp) _
  generalize hW0 : (V.alloc (.cells #[.pointer (some ⟨go, 0, none⟩), .int .u64 (M : Int), .map (some gm)] 46)).alloc (.cells #[.int .u64 (d : Int)] 49) = W0 at *
  have hk0 : Hid (W0.cell? ⟨V.heap.size, 0, none⟩ = some (.pointer (some ⟨go, 0, none⟩)) ∧ W0.cell? ⟨V.heap.size, 1, none⟩ = some (.int .u64 (M : Int)) ∧ W0.cell? ⟨V.heap.size, 2, none⟩ = some (.map (some gm)) ∧ W0.cell? ⟨V.heap.size + 1, 0, none⟩ = some (.int .u64 (d : Int)) ∧ Below W0.heap.size W0 W0) := by
    show _ ∧ _
    rw [← hW0]
    refine ⟨by simp, by simp, by simp, by simp, Below.refl _ _⟩
  clear hW0
  have KA' : Hid (∀ W, Below W0.heap.size W0 W → Calls Tryd.prog 23 #[.pointer (some ⟨go, 0, none⟩)] W fun e w' => e = .returned (.agg #[.int .u64 (d : Int)]) ∧ Below W.heap.size W w') := fun W hW => KA.out W (hB0.trans (hW.mono hB0.size))
  go_region_held3 (fun W => W.cell? ⟨V.heap.size, 0, none⟩ = some (.pointer (some ⟨go, 0, none⟩)) ∧ W.cell? ⟨V.heap.size, 1, none⟩ = some (.int .u64 (M : Int)) ∧ W.cell? ⟨V.heap.size, 2, none⟩ = some (.map (some gm)) ∧ W.cell? ⟨V.heap.size + 1, 0, none⟩ = some (.int .u64 (d : Int)) ∧ Below W0.heap.size W0 W) (first | (exact keep5 (by assumption) hb) | (exact keep5 hk0.out (Below.refl _ _).drew) | (exact hk0.out)) (first | (go_at_call 23; refine (KA'.out _ (by first | exact ‹_ ∧ _ ∧ _ ∧ _ ∧ _›.2.2.2.2 | exact (Below.refl _ _).drew)).mono ?_; rintro e w1 ⟨rfl, hb⟩))
  all_goals
    go_wp2
    have hS := ‹w1.cell? ⟨V.heap.size, 0, none⟩ = some (.pointer (some ⟨go, 0, none⟩)) ∧ _ ∧ _ ∧ _ ∧ Below W0.heap.size W0 w1›.2.2.2.2
    have hBV := hB0.trans (hS.mono hB0.size)
    go_ret
    refine ⟨c, D, ?_, map_blk hm (hBV.block gm hgV), hH, Nat.le_add_right _ _, Gz.of_below hBV (by omega)⟩
    show Ending.returned (.int .u64 (min 1 (M : Int))) = .returned (.int .u64 ((min 1 M : Nat) : Int))
    rw [show ((min 1 M : Nat) : Int) = min 1 (M : Int) by omega]
/-- The receiver's box. -/
def Bx3 (V : World) (b go M gm : Nat) : Prop := V.heap[b]? = some (.cells #[.pointer (some ⟨go, 0, none⟩), .int .u64 (M : Int), .map (some gm)] 46)
theorem Bx3.c0 {V : World} {b go M gm : Nat} (h : Bx3 V b go M gm) : V.cell? ⟨b, 0, none⟩ = some (.pointer (some ⟨go, 0, none⟩)) := by unfold Bx3 at h; simp [World.cell?, h]
theorem Bx3.c1 {V : World} {b go M gm : Nat} (h : Bx3 V b go M gm) : V.cell? ⟨b, 1, none⟩ = some (.int .u64 (M : Int)) := by unfold Bx3 at h; simp [World.cell?, h]
theorem Bx3.c2 {V : World} {b go M gm : Nat} (h : Bx3 V b go M gm) : V.cell? ⟨b, 2, none⟩ = some (.map (some gm)) := by unfold Bx3 at h; simp [World.cell?, h]
/-- What stands between two rounds. -/
structure LI (V0 : World) (gm go M d nb bb x n : Nat) (Pf : Nat → Nat) (s B : Nat) (V : World) : Prop where
  bx : Bx3 V V0.heap.size go M gm
  bd : Boxed V (V0.heap.size + 1) 49 (.int .u64 (d : Int))
  bn : Boxed V nb 23 (.int .u64 (s : Int))
  ba : Boxed V bb 49 (.int .u64 (x : Int))
  fr : Gz gm V0 V
  mp : ∃ c D, cmap V gm c D ∧ HoldsC D n Pf M ∧ c ≤ B
theorem LI.own {V0 : World} {gm go M d nb bb x n : Nat} {Pf : Nat → Nat} {s B Bn : Nat} (hg : gm < V0.heap.size) (h1 : V0.heap.size + 1 < Bn) (h2 : nb < Bn) (h3 : bb < Bn) : OwnFrom (β := Unit) Bn (fun _ V => LI V0 gm go M d nb bb x n Pf s B V) := fun _ Y Z row h hg' hr =>
  have nb' : ∀ b, b < Bn → b < Y.heap.size → Z.heap[b]? = Y.heap[b]? := fun b hb hy => hg'.block b hy (fun e => by have := (hr b e.symm).1; omega)
  have z0 := h.fr.low.size
  ⟨(nb' _ (by omega) (Array.getElem?_eq_some_iff.1 h.bx).1).trans h.bx, (nb' _ h1 h.bd.lt).trans h.bd, (nb' _ h2 h.bn.lt).trans h.bn, (nb' _ h3 h.ba.lt).trans h.ba, Gz.own (by omega) hg () Y Z row h.fr hg' hr, by
    obtain ⟨c, D, hm, hH, hc⟩ := h.mp
    exact ⟨c, D, map_blk hm (nb' gm (by omega) (by omega)), hH, hc⟩⟩
theorem LI.mono {V0 : World} {gm go M d nb bb x n : Nat} {Pf : Nat → Nat} {s s2 B B2 : Nat} {V : World} (h : LI V0 gm go M d nb bb x n Pf s B V) (e : s = s2) (hB : B ≤ B2) : LI V0 gm go M d nb bb x n Pf s2 B2 V := by
  subst e
  obtain ⟨c, D, h1, h2, h3⟩ := h.mp
  exact ⟨h.bx, h.bd, h.bn, h.ba, h.fr, c, D, h1, h2, Nat.le_trans h3 hB⟩
theorem LI.step {V0 : World} {gm go M d nb bb x n : Nat} {Pf : Nat → Nat} {s B Bn : Nat} {W w5 : World} (h : LI V0 gm go M d nb bb x n Pf s B W) (hg : gm < V0.heap.size) (hn : V0.heap.size + 1 < nb) (hb : nb < bb) (hBn : V0.heap.size ≤ Bn) (h3 : 1 ≤ gm) (k : Gz gm W w5) {c5 : Nat} {D5 : DataW Unit} (hm : cmap w5 gm c5 D5) (hH : HoldsC D5 n Pf M) {B' : Nat} (hc : c5 ≤ B') (s2 : Nat) :
    LI V0 gm go M d nb bb x n Pf s2 B' (w5.setCell ⟨nb, 0, none⟩ (.int .u64 (s2 : Int))) ∧ KeepsFrom Bn W (w5.setCell ⟨nb, 0, none⟩ (.int .u64 (s2 : Int))) ∧ KpB bb W (w5.setCell ⟨nb, 0, none⟩ (.int .u64 (s2 : Int))) := by
  have z0 := h.fr.low.size
  have nb' : ∀ b, gm < b → b < W.heap.size → b ≠ nb → (w5.setCell ⟨nb, 0, none⟩ (.int .u64 (s2 : Int))).heap[b]? = W.heap[b]? := fun b h1 h2 h4 => (Below.heap_setCell _ _ _ _ h4).trans (k.up b h1 h2)
  have e5 : Boxed w5 nb 23 (.int .u64 (s : Int)) := (k.up nb (by omega) h.bn.lt).trans h.bn
  have eb := nb' bb (by omega) h.ba.lt (by omega)
  refine ⟨⟨(nb' _ (by omega) (Array.getElem?_eq_some_iff.1 h.bx).1 (by omega)).trans h.bx, (nb' _ (by omega) h.bd.lt (by omega)).trans h.bd, e5.set _, eb.trans h.ba, (h.fr.trans k).setCell (by omega) hg _, c5, D5, World.ownsMap.setCell hm (by show gm ≠ nb; omega) _, hH, hc⟩, ⟨by have := k.low.size; simpa using this, fun b o hB hk ho => ?_⟩, World.cell?_of_block eb, fun ht => ht.below h3 (k.low.setCell (p := ⟨nb, 0, none⟩) (by show gm ≤ nb; omega) _)⟩
  have hlt := (Array.getElem?_eq_some_iff.1 hk).1
  refine (nb' b (by omega) hlt fun e => ?_).trans hk
  subst e
  rw [h.bn] at hk
  cases hk
  cases ho
theorem keep6 {W0 W w1 : World} {b b' : Nat} {u0 u1 u2 u3 : Value} {Q : World → Prop} (h : W.cell? ⟨b, 0, none⟩ = some u0 ∧ W.cell? ⟨b, 1, none⟩ = some u1 ∧ W.cell? ⟨b, 2, none⟩ = some u2 ∧ W.cell? ⟨b', 0, none⟩ = some u3 ∧ Q W ∧ Below W0.heap.size W0 W) (hb : Below W.heap.size W w1) (hQ : ∀ W, Below W0.heap.size W0 W → Q W) :
    w1.cell? ⟨b, 0, none⟩ = some u0 ∧ w1.cell? ⟨b, 1, none⟩ = some u1 ∧ w1.cell? ⟨b, 2, none⟩ = some u2 ∧ w1.cell? ⟨b', 0, none⟩ = some u3 ∧ Q w1 ∧ Below W0.heap.size W0 w1 :=
  have hB := h.2.2.2.2.2.trans (hb.mono h.2.2.2.2.2.size)
  ⟨cell_over h.1 hb, cell_over h.2.1 hb, cell_over h.2.2.1 hb, cell_over h.2.2.2.1 hb, hQ _ hB, hB⟩
theorem Gz.putObj {gm D : Nat} {A X : World} (h : Gz gm A X) (hg : gm < A.heap.size) (hD : A.heap.size ≤ D) (o : Obj) : Gz gm A (X.putObj D o) :=
  have hg' := grownBy_putObj' X D o
  have hz := h.low.size
  ⟨h.low.grown hg' (by omega) (fun r e => by injection e; omega), fun b h1 h2 => (hg'.block b (by omega) (fun e => by injection e; omega)).trans (h.up b h1 h2)⟩
theorem keep7 {gm b0 b1 nb : Nat} {u0 u1 u2 : Value} {X Y : World} (h : X.cell? ⟨b0, 2, none⟩ = some u0 ∧ X.cell? ⟨b1, 0, none⟩ = some u1 ∧ X.cell? ⟨nb, 0, none⟩ = some u2) (hg : X.grownBy Y (some gm)) (h0 : gm ≠ b0) (h1 : gm ≠ b1) (h2 : gm ≠ nb) :
    Y.cell? ⟨b0, 2, none⟩ = some u0 ∧ Y.cell? ⟨b1, 0, none⟩ = some u1 ∧ Y.cell? ⟨nb, 0, none⟩ = some u2 :=
  ⟨(World.cell?_of_block (hg.block b0 (cell_lt h.1) (by intro e; injection e; omega))).trans h.1, (World.cell?_of_block (hg.block b1 (cell_lt h.2.1) (by intro e; injection e; omega))).trans h.2.1, (World.cell?_of_block (hg.block nb (cell_lt h.2.2) (by intro e; injection e; omega))).trans h.2.2⟩
set_option maxRecDepth 100000 in
set_option maxHeartbeats 1000000 in
theorem fromStep (ho : OrdAt w0 go gp gs n Pf Sf) (hO : Ord n R Pf Sf) (ht : Tab w0) (hg : w0.heap.size = gm) (hM : M ≤ 65536) (k : Nat) (IH : FromS w0 gm go n M Pf R k) : FromS w0 gm go n M Pf R (k + 1) := by
  intro d c D V hd hc hB hgV hm hH hroom
  have hd64 := down_lt hO.n64 hd
  have hn := hO.n64
  have hal := allw_lt hn
  have hmx : Tryd.prog.follows Departure.mixedOrders = true := by kernel_rfl
  have h3 : 1 ≤ gm := by rw [← hg]; exact ht.2
  have hOv : ∀ W, Below V.heap.size V W → OrdAt W go gp gs n Pf Sf ∧ Tab W := fun W hW => by
    have hb : Below w0.heap.size w0 W := by rw [hg]; exact hB.trans (hW.mono (by omega))
    exact ⟨ho.over hb, ht.over hb⟩
  have hneq : ¬ ((d : Int) = ((2 ^ n - 1 : Nat) : Int)) := fun e => not_full (n := n) (d := d) (by omega) (by omega)
  have KA : Hid (∀ W, Below V.heap.size V W → Calls Tryd.prog 23 #[.pointer (some ⟨go, 0, none⟩)] W fun e w' => e = .returned (.agg #[.int .u64 ((2 ^ n - 1 : Nat) : Int)]) ∧ Below W.heap.size W w') := fun W hW => allO (hOv W hW).1 hn
  generalize hae : 2 ^ n - 1 = al at *
  clear hae
  obtain ⟨z, hz⟩ : ∃ z, D.atKey (.int .u64 d) (.lit (.int .u64 0)) = .lit (.int .u64 z) := by
    obtain ⟨v, ps, hr, hv⟩ := World.ownsMap.look_ok hm lawU Tryd.underlying44 (zeroU V) (plainElem_int Tryd.underlying23 (by decide)) (keyOf_int_mk Tryd.underlying23 (wfU hd64))
    obtain ⟨c', _, hc', _⟩ := plainElem_int_inv Tryd.underlying23 hv
    exact ⟨c', congrArg Prod.fst hc'⟩
  have hlook : Hid (∀ W, Below V.heap.size V W → (Instr.lookup 44 (.map (some gm)) (.int .u64 (d : Int)) true).run Tryd.prog W = .ok (.tuple #[.int .u64 z, .bool (Maps.has D (.int .u64 d))]) W) := fun W hW => lookC (map_blk hm (hW.block gm hgV)) hd64 hz
  have hknown : Hid (Maps.has D (.int .u64 d) = true → z = ((min (ext n Pf (k + 1) d) M : Nat) : Int)) := fun e => by
    have := hH.2 d e
    rw [hz, show n - cnt n d = k + 1 by omega] at this
    injection this with this
    injection this
  generalize Maps.has D (.int .u64 (d : Int)) = hh at *
  refine (callsIn_wide (n := 9)).1 ?_
  refine callsIn_of_wp_marks Tryd.func11 rfl trivial ?_ rfl
  refine wpIn_wide.2 ?_
  simp only [Tryd.ntmps11, List.size_toArray, List.length_cons, List.length_nil, Nat.reduceAdd, Nat.reduceSub, Array.replicate_succ, Array.replicate_zero, List.push_toArray, List.append_toArray, List.nil_append, List.cons_append]
  go_wp2
  have hB0 : Below V.heap.size V ((V.alloc (.cells #[.pointer (some ⟨go, 0, none⟩), .int .u64 (M : Int), .map (some gm)] 46)).alloc (.cells #[.int .u64 (d : Int)] 49)) := ((Below.refl _ V).alloc (Nat.le_refl _) _).alloc (by simp) _
  have bx0 : Bx3 ((V.alloc (.cells #[.pointer (some ⟨go, 0, none⟩), .int .u64 (M : Int), .map (some gm)] 46)).alloc (.cells #[.int .u64 (d : Int)] 49)) V.heap.size go M gm := (Below.heap_alloc _ _ _ (by simp)).trans (World.alloc_heap_new _ _)
  have bd0 := Boxed.new (V.alloc (.cells #[.pointer (some ⟨go, 0, none⟩), .int .u64 (M : Int), .map (some gm)] 46)) 49 (.int .u64 (d : Int))
  rw [World.size_alloc] at bd0
  generalize hW0 : (V.alloc (.cells #[.pointer (some ⟨go, 0, none⟩), .int .u64 (M : Int), .map (some gm)] 46)).alloc (.cells #[.int .u64 (d : Int)] 49) = W0 at *
  have hs0 : W0.heap.size = V.heap.size + 1 + 1 := by rw [← hW0]; simp
  clear hW0
  have hlk0 : Hid (∀ W, Below W0.heap.size W0 W → (Instr.lookup 44 (.map (some gm)) (.int .u64 (d : Int)) true).run Tryd.prog W = .ok (.tuple #[.int .u64 z, .bool hh]) W) := fun W hW => hlook.out W (hB0.trans (hW.mono hB0.size))
  have hk0 : Hid (W0.cell? ⟨V.heap.size, 0, none⟩ = some (.pointer (some ⟨go, 0, none⟩)) ∧ W0.cell? ⟨V.heap.size, 1, none⟩ = some (.int .u64 (M : Int)) ∧ W0.cell? ⟨V.heap.size, 2, none⟩ = some (.map (some gm)) ∧ W0.cell? ⟨V.heap.size + 1, 0, none⟩ = some (.int .u64 (d : Int)) ∧ (Instr.lookup 44 (.map (some gm)) (.int .u64 (d : Int)) true).run Tryd.prog W0 = .ok (.tuple #[.int .u64 z, .bool hh]) W0 ∧ Below W0.heap.size W0 W0) := ⟨bx0.c0, bx0.c1, bx0.c2, bd0.cell, hlk0.out _ (Below.refl _ _), Below.refl _ _⟩
  have KA' : Hid (∀ W, Below W0.heap.size W0 W → Calls Tryd.prog 23 #[.pointer (some ⟨go, 0, none⟩)] W fun e w' => e = .returned (.agg #[.int .u64 (al : Int)]) ∧ Below W.heap.size W w') := fun W hW => KA.out W (hB0.trans (hW.mono hB0.size))
  go_region_held3 (fun W => W.cell? ⟨V.heap.size, 0, none⟩ = some (.pointer (some ⟨go, 0, none⟩)) ∧ W.cell? ⟨V.heap.size, 1, none⟩ = some (.int .u64 (M : Int)) ∧ W.cell? ⟨V.heap.size, 2, none⟩ = some (.map (some gm)) ∧ W.cell? ⟨V.heap.size + 1, 0, none⟩ = some (.int .u64 (d : Int)) ∧ (Instr.lookup 44 (.map (some gm)) (.int .u64 (d : Int)) true).run Tryd.prog W = .ok (.tuple #[.int .u64 z, .bool hh]) W ∧ Below W0.heap.size W0 W) (first | (exact keep6 (by assumption) hb hlk0.out) | (exact keep6 hk0.out (Below.refl _ _).drew hlk0.out) | (exact hk0.out)) (first | (go_at_call 23; refine (KA'.out _ (by first | exact ‹_ ∧ _ ∧ _ ∧ _ ∧ _ ∧ _›.2.2.2.2.2 | exact (Below.refl _ _).drew)).mono ?_; rintro e w1 ⟨rfl, hb⟩))
  have hS1 : Hid (w1.cell? ⟨V.heap.size, 0, none⟩ = some (.pointer (some ⟨go, 0, none⟩)) ∧ w1.cell? ⟨V.heap.size, 1, none⟩ = some (.int .u64 (M : Int)) ∧ w1.cell? ⟨V.heap.size, 2, none⟩ = some (.map (some gm)) ∧ w1.cell? ⟨V.heap.size + 1, 0, none⟩ = some (.int .u64 (d : Int)) ∧ (Instr.lookup 44 (.map (some gm)) (.int .u64 (d : Int)) true).run Tryd.prog w1 = .ok (.tuple #[.int .u64 z, .bool hh]) w1 ∧ Below W0.heap.size W0 w1) := by assumption
  clear KA KA' hk0
  go_wp2
  go_region_held3 (fun W => W.cell? ⟨V.heap.size, 0, none⟩ = some (.pointer (some ⟨go, 0, none⟩)) ∧ W.cell? ⟨V.heap.size, 1, none⟩ = some (.int .u64 (M : Int)) ∧ W.cell? ⟨V.heap.size, 2, none⟩ = some (.map (some gm)) ∧ W.cell? ⟨V.heap.size + 1, 0, none⟩ = some (.int .u64 (d : Int)) ∧ (Instr.lookup 44 (.map (some gm)) (.int .u64 (d : Int)) true).run Tryd.prog W = .ok (.tuple #[.int .u64 z, .bool hh]) W ∧ Below W0.heap.size W0 W) (first | assumption | (exact keep6 (by assumption) hb2 hlk0.out) | (exact keep6 hS1.out (Below.refl _ _).drew hlk0.out)) (first | (go_at_call 24; refine (word64 _ _).mono ?_; rintro e w2 ⟨rfl, hb2⟩))
  have hB2 : Below W0.heap.size W0 w2 := ‹_ ∧ _ ∧ _ ∧ _ ∧ _ ∧ Below W0.heap.size W0 w2›.2.2.2.2.2
  have bx2 : Bx3 w2 V.heap.size go M gm := (hB2.block _ (by omega)).trans bx0
  have bd2 := bxb bd0 hB2 (by omega)
  have hBV2 := hB0.trans (hB2.mono hB0.size)
  clear hS1 hlk0 hlook hz
  cases hh with
  | true =>
    have hzv := hknown.out rfl
    clear hknown
    go_wp2
    exact ⟨_, results_tmp rfl _ _ _, c, D, by rw [hzv]; rfl, map_blk hm (hBV2.block gm hgV), hH, Nat.le_add_right _ _, Gz.of_below hBV2 (by omega)⟩
  | false =>
    clear hknown
    go_wp2
    have hB3 : Below w2.heap.size w2 (w2.alloc (.cells #[.int .u64 0] 23)) := (Below.refl _ _).alloc (Nat.le_refl _) _
    have bn3 := Boxed.new w2 23 (.int .u64 0)
    have hz2 := hB2.size
    have bx3 : Bx3 (w2.alloc (.cells #[.int .u64 0] 23)) V.heap.size go M gm := (hB3.block _ (by omega)).trans bx2
    have bd3 := bxb bd2 hB3 (by omega)
    have hBV3 := hBV2.trans (hB3.mono hBV2.size)
    generalize hW3 : w2.alloc (.cells #[.int .u64 0] 23) = W3 at *
    have hs3 : W3.heap.size = w2.heap.size + 1 := by rw [← hW3]; simp
    clear hW3
    have hk3 : Hid (W3.cell? ⟨V.heap.size, 0, none⟩ = some (.pointer (some ⟨go, 0, none⟩)) ∧ W3.cell? ⟨V.heap.size, 1, none⟩ = some (.int .u64 (M : Int)) ∧ W3.cell? ⟨V.heap.size, 2, none⟩ = some (.map (some gm)) ∧ W3.cell? ⟨V.heap.size + 1, 0, none⟩ = some (.int .u64 (d : Int)) ∧ Below W3.heap.size W3 W3) := ⟨bx3.c0, bx3.c1, bx3.c2, bd3.cell, Below.refl _ _⟩
    have hxl := hO.rdW_lt hd64
    have KR : Hid (∀ W, Below W3.heap.size W3 W → Calls Tryd.prog 22 #[.pointer (some ⟨go, 0, none⟩), .int .u64 (d : Int)] W fun e w' => e = .returned (.int .u64 (rdW n Pf d : Int)) ∧ Below W.heap.size W w') := fun W hW => by
      have h := hOv W (hBV3.trans (hW.mono hBV3.size))
      exact readyO h.1 hn (fun a ha => hO.pre_lt ha) d hd64 h.2
    have hxe : Hid (∀ a : Fin 64, a ∈ nums (rdW n Pf d) → rdy n R d a.val) := fun a ha => (hO.rdW_bits hd64 a.val).1 ((mem_nums _ _).1 ha)
    have hext : Hid (ext n Pf (k + 1) d = ((nums (rdW n Pf d)).map fun a => ext n Pf k (d ||| 2 ^ a.val)).sum) := rfl
    have hpos := hide' (hO.ext_pos (k + 1) d hd hc)
    generalize rdW n Pf d = x at *
    go_region_held3 (fun W => W.cell? ⟨V.heap.size, 0, none⟩ = some (.pointer (some ⟨go, 0, none⟩)) ∧ W.cell? ⟨V.heap.size, 1, none⟩ = some (.int .u64 (M : Int)) ∧ W.cell? ⟨V.heap.size, 2, none⟩ = some (.map (some gm)) ∧ W.cell? ⟨V.heap.size + 1, 0, none⟩ = some (.int .u64 (d : Int)) ∧ Below W3.heap.size W3 W) (first | assumption | (exact keep5 (by assumption) hb4) | (exact keep5 hk3.out (Below.refl _ _).drew)) (first | (go_at_call 24; refine (word64 _ _).mono ?_; rintro e w4 ⟨rfl, hb4⟩) | (go_at_call 22; refine (KR.out _ (‹_ ∧ _ ∧ _ ∧ _ ∧ Below W3.heap.size W3 _›.2.2.2.2)).mono ?_; rintro e w4 ⟨rfl, hb4⟩) | (go_at_call 25; refine (ofO _ _).mono ?_; rintro e w4 ⟨rfl, hb4⟩) | (go_at_call 18; refine (allSeq x _).mono ?_; rintro e w4 ⟨bb, rfl, hbox, hbb, hb4⟩; have hq : W3.heap.size ≤ bb := Nat.le_trans (Below.size ‹_ ∧ _ ∧ _ ∧ _ ∧ Below W3.heap.size W3 _›.2.2.2.2) hbb))
    have hB4 : Below W3.heap.size W3 w4 := ‹_ ∧ _ ∧ _ ∧ _ ∧ Below W3.heap.size W3 w4›.2.2.2.2
    clear hk3 KR
    have bx4 : Bx3 w4 V.heap.size go M gm := (hB4.block _ (by omega)).trans bx3
    have bd4 := bxb bd3 hB4 (by omega)
    have bn4 := bxb bn3 hB4 (by omega)
    have hBV4 := hBV3.trans (hB4.mono hBV3.size)
    have z4 := hbox.lt
    have hnb : V.heap.size + 1 < w2.heap.size := by omega
    generalize w2.heap.size = nb at *
    go_wp2
    refine (wpIn_wide (n := 9)).1 ?_
    refine wpIn_rangeFunc_ownG rfl (by decide) (gf := 31) (lb := #[.pointer (some ⟨bb, 0, none⟩)]) rfl trivial (enters_of Tryd.func31 (by kernel_rfl) rfl)
      (all_mem 8 bb x hxl w4 z4 (hOv w4 hBV4).2 hbox.cell) KpB.t (KpB.b z4 (by omega)) (Below.refl _ _) (fun _ => rfl)
      (fun pre W => LI V gm go M d nb bb x n Pf (capS M (fun a : Fin 64 => ext n Pf k (d ||| 2 ^ a.val)) (plain pre)) (c + capS M (fun a : Fin 64 => ext n Pf k (d ||| 2 ^ a.val)) (plain pre) * k) W ∧ Hid (capS M (fun a : Fin 64 => ext n Pf k (d ||| 2 ^ a.val)) (plain pre) < M ∨ pre = []))
      (fun cd pre W => cd = .exit 0 ∧ LI V gm go M d nb bb x n Pf M (c + (2 * (M * k) + bnd M k)) W ∧ Hid (M ≤ capS M (fun a : Fin 64 => ext n Pf k (d ||| 2 ^ a.val)) (plain pre)))
      (fun pre W W' row h hg' hr => ⟨LI.own hgV (by omega) (by omega) z4 () W W' row h.1 hg' hr, h.2⟩)
      (fun cd pre W W' row h hg' hr => ⟨h.1, LI.own hgV (by omega) (by omega) z4 () W W' row h.2.1 hg' hr, h.2.2⟩)
      ⟨⟨bx4, bd4, bn4, hbox, Gz.of_below hBV4 (by omega), c, D, map_blk hm (hBV4.block gm hgV), hH, by omega⟩, .inr rfl⟩
      ?a1 ?assign ?body ?done ?stop
    case assign =>
      intro l j W K hK
      gi_wp2
      exact hK
    case body =>
      rintro l pre a W ⟨hI, hlt⟩ _
      have hr := hxe.out a.val a.property
      have ha64 := a.val.isLt
      have hsn := hide' (capS_snoc M (fun a : Fin 64 => ext n Pf k (d ||| 2 ^ a.val)) (plain pre) a.val)
      rw [← plain_snoc] at hsn
      have hcs : capS M (fun a : Fin 64 => ext n Pf k (d ||| 2 ^ a.val)) (plain pre) ≤ M := by
        rcases hlt.out with h | h
        · omega
        · rw [h]; exact Nat.zero_le _
      have hpw : (2 ^ a.val.val : Nat) < 18446744073709551616 := Nat.lt_of_lt_of_le (Nat.pow_lt_pow_right (by decide) ha64) (by decide)
      have KY := hide' (onlyO a.val.val ha64)
      have KO := hide' (or64 d (2 ^ a.val.val) hd64 hpw)
      obtain ⟨cc, DD, hmW, hHW, hccW⟩ := hI.mp
      have hWs := hI.fr.low.size
      have hroom' : cc + (M * k + bnd M k) ≤ 1000000000000 := by
        have h1 := Nat.mul_le_mul_right k hcs
        have h2 : bnd M (k + 1) = 1 + 2 * (M * k) + bnd M k := rfl
        rw [h2, Nat.mul_add] at hroom
        omega
      have KF : Hid (∀ W', Below W.heap.size W W' → Calls Tryd.prog 11 #[.agg #[.pointer (some ⟨go, 0, none⟩), .int .u64 (M : Int), .map (some gm)], .agg #[.int .u64 ((d ||| 2 ^ a.val.val : Nat) : Int)]] W' fun e V' => ∃ c' D', e = .returned (.int .u64 ((min (ext n Pf k (d ||| 2 ^ a.val.val)) M : Nat) : Int)) ∧ cmap V' gm c' D' ∧ HoldsC D' n Pf M ∧ c' ≤ cc + bE M (min (ext n Pf k (d ||| 2 ^ a.val.val)) M) k ∧ Gz gm W' V') := fun W' hW' =>
        IH _ cc DD W' (down_add hd hr) (by rw [cnt_add n d _ hr.2.1, if_pos hr.1]; omega) (hB.trans (hI.fr.low.trans (hW'.mono (by omega)))) (by have := hW'.size; omega) (map_blk hmW (hW'.block gm (by omega))) hHW hroom'
      have hr2 : min (ext n Pf k (d ||| 2 ^ a.val.val)) M ≤ M := Nat.min_le_right _ _
      generalize hs' : capS M (fun a : Fin 64 => ext n Pf k (d ||| 2 ^ a.val)) (plain (pre ++ [a])) = s' at *
      have hs2' := hide' hs'
      clear hs'
      generalize capS M (fun a : Fin 64 => ext n Pf k (d ||| 2 ^ a.val)) (plain pre) = s at *
      have hsn' : Hid (s' = s + min (ext n Pf k (d ||| 2 ^ a.val.val)) M) := hsn
      clear hsn
      generalize min (ext n Pf k (d ||| 2 ^ a.val.val)) M = r at *
      generalize (d ||| 2 ^ a.val.val : Nat) = d2 at *
      generalize (2 ^ a.val.val : Nat) = pw at *
      have hadd : IntKind.u64.wrap ((s : Int) + (r : Int)) = (s : Int) + (r : Int) := by
        rw [IntKind.wrap_u64]; omega
      have hmn : min ((s : Int) + (r : Int)) (M : Int) = ((min (s + r) M : Nat) : Int) := by omega
      have c0 := hI.bx.c0
      have c1 := hI.bx.c1
      have c2 := hI.bx.c2
      have c3 := hI.bd.cell
      have cn := hI.bn.cell
      have hstep : Hid (∀ (w7 : World) (c7 : Nat) (D7 : DataW Unit), Gz gm W w7 → cmap w7 gm c7 D7 → HoldsC D7 n Pf M → c7 ≤ cc + bE M r k → ((w7.cell? ⟨V.heap.size, 0, none⟩ = some (.pointer (some ⟨go, 0, none⟩)) ∧ w7.cell? ⟨V.heap.size, 1, none⟩ = some (.int .u64 (M : Int)) ∧ w7.cell? ⟨V.heap.size, 2, none⟩ = some (.map (some gm)) ∧ w7.cell? ⟨V.heap.size + 1, 0, none⟩ = some (.int .u64 (d : Int))) ∧
          ((w7.setCell ⟨nb, 0, none⟩ (.int .u64 ((min (s + r) M : Nat) : Int))).cell? ⟨V.heap.size, 0, none⟩ = some (.pointer (some ⟨go, 0, none⟩)) ∧ (w7.setCell ⟨nb, 0, none⟩ (.int .u64 ((min (s + r) M : Nat) : Int))).cell? ⟨V.heap.size, 1, none⟩ = some (.int .u64 (M : Int)) ∧ (w7.setCell ⟨nb, 0, none⟩ (.int .u64 ((min (s + r) M : Nat) : Int))).cell? ⟨V.heap.size, 2, none⟩ = some (.map (some gm)) ∧ (w7.setCell ⟨nb, 0, none⟩ (.int .u64 ((min (s + r) M : Nat) : Int))).cell? ⟨V.heap.size + 1, 0, none⟩ = some (.int .u64 (d : Int))) ∧
          (LI V gm go M d nb bb x n Pf (min (s + r) M) (cc + bE M r k) (w7.setCell ⟨nb, 0, none⟩ (.int .u64 ((min (s + r) M : Nat) : Int))) ∧ KeepsFrom w4.heap.size W (w7.setCell ⟨nb, 0, none⟩ (.int .u64 ((min (s + r) M : Nat) : Int))) ∧ KpB bb W (w7.setCell ⟨nb, 0, none⟩ (.int .u64 ((min (s + r) M : Nat) : Int)))))) := fun w7 c7 D7 hG7 hm7 hH7 hc7 => by
        have bx7 : Bx3 w7 V.heap.size go M gm := (hG7.up _ (by omega) (Array.getElem?_eq_some_iff.1 hI.bx).1).trans hI.bx
        have bd7 : Boxed w7 (V.heap.size + 1) 49 (.int .u64 (d : Int)) := (hG7.up _ (by omega) hI.bd.lt).trans hI.bd
        have hst := hI.step hgV hnb (by omega) (show V.heap.size ≤ w4.heap.size by omega) h3 hG7 hm7 hH7 hc7 (min (s + r) M)
        exact ⟨⟨bx7.c0, bx7.c1, bx7.c2, bd7.cell⟩, ⟨hst.1.bx.c0, hst.1.bx.c1, hst.1.bx.c2, hst.1.bd.cell⟩, hst⟩
      have hfinX : Hid (min (s + r) M = M → cc + bE M r k ≤ c + (2 * (M * k) + bnd M k) ∧ M ≤ s') := fun e => by
        have h1 := Nat.mul_le_mul_right k hcs
        have h2 := Nat.mul_le_mul_right k hr2
        refine ⟨?_, by rw [hsn'.out]; omega⟩
        unfold bE
        split <;> omega
      have hfinN : Hid (¬ min (s + r) M = M → cc + bE M r k ≤ c + s' * k ∧ min (s + r) M = s' ∧ s' < M) := fun e => by
        have e1 : r < M := by omega
        have e2 := hsn'.out
        have e3 : s' * k = s * k + r * k := by rw [e2, Nat.add_mul]
        unfold bE
        rw [if_pos e1, e3]
        omega
      have hsM : min (s + r) M ≤ M := Nat.min_le_right _ _
      generalize min (s + r) M = s2 at *
      generalize a.val.val = av at *
      clear IH hsn' hccW hroom' hroom hpos hext hcs hlt
      gi_wp2
      refine region_round (fun X => X.cell? ⟨V.heap.size, 0, none⟩ = some (.pointer (some ⟨go, 0, none⟩)) ∧ X.cell? ⟨V.heap.size, 1, none⟩ = some (.int .u64 (M : Int)) ∧ X.cell? ⟨V.heap.size, 2, none⟩ = some (.map (some gm)) ∧ X.cell? ⟨V.heap.size + 1, 0, none⟩ = some (.int .u64 (d : Int))) hmx (noDefer_of (by kernel_rfl)) ?_ (fun hHeld => ?_)
      · exact ⟨c0, c1, c2, c3⟩
      refine wpAnyH_take (i := 1) (oi := { dst := some 36, op := Op.load 46 (Operand.tmp 2), type := 46, pos := "rows.go:85", after := #[], guard := none }) (v := ?_) rfl (by kernel_rfl) (by kernel_rfl) (by kernel_rfl) (fun _ _ _ h => h) (Or.inl ⟨by rfl, ?_⟩) (by assumption) ?_
      rotate_left
      · intro w hSw; (try dsimp only at hSw); go_simp <;> with_reducible rfl
      simp only [Act.put, List.setIfInBounds_toArray, List.set_cons_zero, List.set_cons_succ]
      refine wpAnyH_take (i := 2) (oi := { dst := some 37, op := Op.load 49 (Operand.tmp 3), type := 49, pos := "rows.go:85", after := #[], guard := none }) (v := ?_) rfl (by kernel_rfl) (by kernel_rfl) (by kernel_rfl) (fun _ _ _ h => h) (Or.inl ⟨by rfl, ?_⟩) (by assumption) ?_
      rotate_left
      · intro w hSw; (try dsimp only at hSw); go_simp <;> with_reducible rfl
      simp only [Act.put, List.setIfInBounds_toArray, List.set_cons_zero, List.set_cons_succ]
      refine wpAnyH_take (i := 3) (oi := { dst := some 38, op := Op.move (Operand.tmp 8), type := 3, pos := "rows.go:85", after := #[], guard := none }) (v := ?_) rfl (by kernel_rfl) (by kernel_rfl) (by kernel_rfl) (fun _ _ _ h => h) (Or.inl ⟨by rfl, ?_⟩) (by assumption) ?_
      rotate_left
      · intro w hSw; (try dsimp only at hSw); go_simp <;> with_reducible rfl
      simp only [Act.put, List.setIfInBounds_toArray, List.set_cons_zero, List.set_cons_succ]
      refine wpAnyH_take (i := 8) (oi := { dst := some 43, op := Op.fieldAddr 46 (Operand.tmp 2) 1, type := 0, pos := "rows.go:85", after := #[], guard := none }) (v := ?_) rfl (by kernel_rfl) (by kernel_rfl) (by kernel_rfl) (fun _ _ _ h => h) (Or.inl ⟨by rfl, ?_⟩) (by assumption) ?_
      rotate_left
      · intro w hSw; (try dsimp only at hSw); go_simp <;> with_reducible rfl
      simp only [Act.put, List.setIfInBounds_toArray, List.set_cons_zero, List.set_cons_succ]
      refine wpAnyH_take (i := 9) (oi := { dst := some 44, op := Op.load 23 (Operand.tmp 43), type := 23, pos := "rows.go:85", after := #[{ on := 8, ground := Ground.data }], guard := none }) (v := ?_) rfl (by kernel_rfl) (by kernel_rfl) (by kernel_rfl) (fun _ _ _ h => h) (Or.inl ⟨by rfl, ?_⟩) (by assumption) ?_
      rotate_left
      · intro w hSw; (try dsimp only at hSw); go_simp <;> with_reducible rfl
      simp only [Act.put, List.setIfInBounds_toArray, List.set_cons_zero, List.set_cons_succ]
      refine wpAnyH_ready (rs := [0, 4]) (by kernel_rfl) (by simp) ?_
      refine AllReadyH.cons (o := { dst := some 35, op := Op.load 23 (Operand.tmp 7), type := 23, pos := "rows.go:85", after := #[], guard := none }) rfl (fun K hK => ?_) ?_
      · skip
        go_simp
        refine hK.out _ _ ?_ (fun hHeld => ?_)
        · exact hHeld
        clear hK K
        try simp only [Act.put, List.setIfInBounds_toArray, List.set_cons_zero, List.set_cons_succ]
        refine wpAnyH_ready (rs := [4]) (by kernel_rfl) (by simp) ?_
        refine AllReadyH.cons (o := { dst := some 39, op := Op.call { callee := Callee.value (Operand.func 15), args := #[Operand.tmp 38], argTypes := #[3] }, type := 49, pos := "rows.go:85", after := #[{ on := 3, ground := Ground.data }], guard := none }) rfl (fun K hK => ?_) AllReadyH.nil
        go_simp
        refine (KY.out _).mono ?_; rintro e w5 ⟨rfl, hb5⟩; (try dsimp only); have hB5 : Below W.heap.size W w5 := ((Below.refl _ W).drew).trans hb5; have cn5 := cell_over cn hB5
        refine hK.out _ _ ?_ (fun hHeld => ?_)
        · exact ⟨cell_over c0 hB5, cell_over c1 hB5, cell_over c2 hB5, cell_over c3 hB5⟩
        clear hK K
        try simp only [Act.put, List.setIfInBounds_toArray, List.set_cons_zero, List.set_cons_succ]
        refine wpAnyH_ready (rs := [5]) (by kernel_rfl) (by simp) ?_
        refine AllReadyH.cons (o := { dst := some 40, op := Op.call { callee := Callee.value (Operand.func 14), args := #[Operand.tmp 37, Operand.tmp 39], argTypes := #[49, 49] }, type := 49, pos := "rows.go:85", after := #[{ on := 2, ground := Ground.data }, { on := 4, ground := Ground.data }, { on := 4, ground := Ground.chain }], guard := none }) rfl (fun K hK => ?_) AllReadyH.nil
        go_simp
        refine (KO.out _).mono ?_; rintro e w6 ⟨rfl, hb6⟩; (try dsimp only); have hB6 : Below W.heap.size W w6 := hB5.trans (hb6.mono hB5.size); have cn6 := cell_over cn hB6
        refine hK.out _ _ ?_ (fun hHeld => ?_)
        · exact ⟨cell_over c0 hB6, cell_over c1 hB6, cell_over c2 hB6, cell_over c3 hB6⟩
        clear hK K
        try simp only [Act.put, List.setIfInBounds_toArray, List.set_cons_zero, List.set_cons_succ]
        refine wpAnyH_ready (rs := [6]) (by kernel_rfl) (by simp) ?_
        refine AllReadyH.cons (o := { dst := some 41, op := Op.call { callee := Callee.value (Operand.func 11), args := #[Operand.tmp 36, Operand.tmp 40], argTypes := #[46, 49] }, type := 23, pos := "rows.go:85", after := #[{ on := 1, ground := Ground.data }, { on := 5, ground := Ground.data }, { on := 5, ground := Ground.chain }], guard := none }) rfl (fun K hK => ?_) AllReadyH.nil
        go_simp
        refine (KF.out _ hB6).mono ?_; rintro e w7 ⟨c7, D7, rfl, hm7, hH7, hc7, hg7⟩; (try dsimp only); have hG7 : Gz gm W w7 := (Gz.of_below hB6 (by omega)).trans hg7; have bn7 : Boxed w7 nb 23 (.int .u64 (s : Int)) := (hG7.up nb (by omega) hI.bn.lt).trans hI.bn; have cn7 := bn7.cell; have fn7 := bn7.frozen; have hst := hstep.out w7 c7 D7 hG7 hm7 hH7 hc7
        refine hK.out _ _ ?_ (fun hHeld => ?_)
        · exact hst.1
        clear hK K
        try simp only [Act.put, List.setIfInBounds_toArray, List.set_cons_zero, List.set_cons_succ]
        refine wpAnyH_take (i := 7) (oi := { dst := some 42, op := Op.binOp BinOp.add 23 (Operand.tmp 35) (Operand.tmp 41) 23, type := 23, pos := "rows.go:85", after := #[{ on := 0, ground := Ground.data }, { on := 6, ground := Ground.data }], guard := none }) (v := ?_) rfl (by kernel_rfl) (by kernel_rfl) (by kernel_rfl) (fun _ _ _ h => h) (Or.inl ⟨by rfl, ?_⟩) (by assumption) ?_
        rotate_left
        · intro w hSw; (try dsimp only at hSw); go_simp <;> with_reducible rfl
        simp only [Act.put, List.setIfInBounds_toArray, List.set_cons_zero, List.set_cons_succ]
        refine wpAnyH_ready (rs := [10]) (by kernel_rfl) (by simp) ?_
        refine AllReadyH.cons (o := { dst := some 45, op := Op.call { callee := Callee.builtin Builtin.min, args := #[Operand.tmp 42, Operand.tmp 44], argTypes := #[23, 23] }, type := 23, pos := "rows.go:85", after := #[{ on := 7, ground := Ground.data }, { on := 9, ground := Ground.data }], guard := none }) rfl (fun K hK => ?_) AllReadyH.nil
        go_simp
        refine hK.out _ _ ?_ (fun hHeld => ?_)
        · exact hHeld
        clear hK K
        try simp only [Act.put, List.setIfInBounds_toArray, List.set_cons_zero, List.set_cons_succ]
        refine wpAnyH_ready (rs := [11]) (by kernel_rfl) (by simp) ?_
        refine AllReadyH.cons (o := { dst := none, op := Op.store 23 (Operand.tmp 7) (Operand.tmp 45), type := 0, pos := "rows.go:85", after := #[{ on := 10, ground := Ground.data }, { on := 6, ground := Ground.chain }, { on := 0, ground := Ground.phase }, { on := 1, ground := Ground.phase }, { on := 2, ground := Ground.phase }, { on := 3, ground := Ground.phase }, { on := 4, ground := Ground.phase }, { on := 5, ground := Ground.phase }, { on := 6, ground := Ground.phase }, { on := 7, ground := Ground.phase }, { on := 8, ground := Ground.phase }, { on := 9, ground := Ground.phase }, { on := 10, ground := Ground.phase }], guard := none }) rfl (fun K hK => ?_) AllReadyH.nil
        go_simp
        skip
        refine hK.out _ _ ?_ (fun hHeld => ?_)
        · exact hst.2.1
        clear hK K
        try simp only [Act.put, List.setIfInBounds_toArray, List.set_cons_zero, List.set_cons_succ]
        refine wpAnyH_done (by kernel_rfl) ?_ _
        unfold onlyNormal
        clear KY KO KF hb5 hb6 hstep
        have cn8 := hst.2.2.1.bn.cell
        have cm8 := hst.2.2.1.bx.c1
        cases hq : decide (s2 = M) with
        | true =>
          have hq0 := hide' (of_decide_eq_true hq)
          have hq1 : ((s2 : Int) == (M : Int)) = true := by have := hq0.out; simp; omega
          have hX := hide' (hfinX.out hq0.out)
          clear hq hfinX hfinN
          gi_wp2
          exact ⟨hst.2.2.2.1, rfl, hst.2.2.1.mono hq0.out hX.out.1, by rw [hs2'.out]; exact hX.out.2⟩
        | false =>
          have hq0 := hide' (of_decide_eq_false hq)
          have hq1 : ((s2 : Int) == (M : Int)) = false := by have := hq0.out; simp; omega
          have hN := hide' (hfinN.out hq0.out)
          clear hq hfinX hfinN
          gi_wp2
          exact ⟨hst.2.2.2.1, hst.2.2.2.2, by rw [hs2'.out]; exact hst.2.2.1.mono hN.out.2.1 hN.out.1, .inl (by rw [hs2'.out]; exact hN.out.2.2)⟩
      refine AllReadyH.cons (o := { dst := some 39, op := Op.call { callee := Callee.value (Operand.func 15), args := #[Operand.tmp 38], argTypes := #[3] }, type := 49, pos := "rows.go:85", after := #[{ on := 3, ground := Ground.data }], guard := none }) rfl (fun K hK => ?_) AllReadyH.nil
      go_simp
      refine (KY.out _).mono ?_; rintro e w5 ⟨rfl, hb5⟩; (try dsimp only); have hB5 : Below W.heap.size W w5 := ((Below.refl _ W).drew).trans hb5; have cn5 := cell_over cn hB5
      refine hK.out _ _ ?_ (fun hHeld => ?_)
      · exact ⟨cell_over c0 hB5, cell_over c1 hB5, cell_over c2 hB5, cell_over c3 hB5⟩
      clear hK K
      try simp only [Act.put, List.setIfInBounds_toArray, List.set_cons_zero, List.set_cons_succ]
      refine wpAnyH_ready (rs := [0, 5]) (by kernel_rfl) (by simp) ?_
      refine AllReadyH.cons (o := { dst := some 35, op := Op.load 23 (Operand.tmp 7), type := 23, pos := "rows.go:85", after := #[], guard := none }) rfl (fun K hK => ?_) ?_
      · skip
        go_simp
        refine hK.out _ _ ?_ (fun hHeld => ?_)
        · exact hHeld
        clear hK K
        try simp only [Act.put, List.setIfInBounds_toArray, List.set_cons_zero, List.set_cons_succ]
        refine wpAnyH_ready (rs := [5]) (by kernel_rfl) (by simp) ?_
        refine AllReadyH.cons (o := { dst := some 40, op := Op.call { callee := Callee.value (Operand.func 14), args := #[Operand.tmp 37, Operand.tmp 39], argTypes := #[49, 49] }, type := 49, pos := "rows.go:85", after := #[{ on := 2, ground := Ground.data }, { on := 4, ground := Ground.data }, { on := 4, ground := Ground.chain }], guard := none }) rfl (fun K hK => ?_) AllReadyH.nil
        go_simp
        refine (KO.out _).mono ?_; rintro e w6 ⟨rfl, hb6⟩; (try dsimp only); have hB6 : Below W.heap.size W w6 := hB5.trans (hb6.mono hB5.size); have cn6 := cell_over cn hB6
        refine hK.out _ _ ?_ (fun hHeld => ?_)
        · exact ⟨cell_over c0 hB6, cell_over c1 hB6, cell_over c2 hB6, cell_over c3 hB6⟩
        clear hK K
        try simp only [Act.put, List.setIfInBounds_toArray, List.set_cons_zero, List.set_cons_succ]
        refine wpAnyH_ready (rs := [6]) (by kernel_rfl) (by simp) ?_
        refine AllReadyH.cons (o := { dst := some 41, op := Op.call { callee := Callee.value (Operand.func 11), args := #[Operand.tmp 36, Operand.tmp 40], argTypes := #[46, 49] }, type := 23, pos := "rows.go:85", after := #[{ on := 1, ground := Ground.data }, { on := 5, ground := Ground.data }, { on := 5, ground := Ground.chain }], guard := none }) rfl (fun K hK => ?_) AllReadyH.nil
        go_simp
        refine (KF.out _ hB6).mono ?_; rintro e w7 ⟨c7, D7, rfl, hm7, hH7, hc7, hg7⟩; (try dsimp only); have hG7 : Gz gm W w7 := (Gz.of_below hB6 (by omega)).trans hg7; have bn7 : Boxed w7 nb 23 (.int .u64 (s : Int)) := (hG7.up nb (by omega) hI.bn.lt).trans hI.bn; have cn7 := bn7.cell; have fn7 := bn7.frozen; have hst := hstep.out w7 c7 D7 hG7 hm7 hH7 hc7
        refine hK.out _ _ ?_ (fun hHeld => ?_)
        · exact hst.1
        clear hK K
        try simp only [Act.put, List.setIfInBounds_toArray, List.set_cons_zero, List.set_cons_succ]
        refine wpAnyH_take (i := 7) (oi := { dst := some 42, op := Op.binOp BinOp.add 23 (Operand.tmp 35) (Operand.tmp 41) 23, type := 23, pos := "rows.go:85", after := #[{ on := 0, ground := Ground.data }, { on := 6, ground := Ground.data }], guard := none }) (v := ?_) rfl (by kernel_rfl) (by kernel_rfl) (by kernel_rfl) (fun _ _ _ h => h) (Or.inl ⟨by rfl, ?_⟩) (by assumption) ?_
        rotate_left
        · intro w hSw; (try dsimp only at hSw); go_simp <;> with_reducible rfl
        simp only [Act.put, List.setIfInBounds_toArray, List.set_cons_zero, List.set_cons_succ]
        refine wpAnyH_ready (rs := [10]) (by kernel_rfl) (by simp) ?_
        refine AllReadyH.cons (o := { dst := some 45, op := Op.call { callee := Callee.builtin Builtin.min, args := #[Operand.tmp 42, Operand.tmp 44], argTypes := #[23, 23] }, type := 23, pos := "rows.go:85", after := #[{ on := 7, ground := Ground.data }, { on := 9, ground := Ground.data }], guard := none }) rfl (fun K hK => ?_) AllReadyH.nil
        go_simp
        refine hK.out _ _ ?_ (fun hHeld => ?_)
        · exact hHeld
        clear hK K
        try simp only [Act.put, List.setIfInBounds_toArray, List.set_cons_zero, List.set_cons_succ]
        refine wpAnyH_ready (rs := [11]) (by kernel_rfl) (by simp) ?_
        refine AllReadyH.cons (o := { dst := none, op := Op.store 23 (Operand.tmp 7) (Operand.tmp 45), type := 0, pos := "rows.go:85", after := #[{ on := 10, ground := Ground.data }, { on := 6, ground := Ground.chain }, { on := 0, ground := Ground.phase }, { on := 1, ground := Ground.phase }, { on := 2, ground := Ground.phase }, { on := 3, ground := Ground.phase }, { on := 4, ground := Ground.phase }, { on := 5, ground := Ground.phase }, { on := 6, ground := Ground.phase }, { on := 7, ground := Ground.phase }, { on := 8, ground := Ground.phase }, { on := 9, ground := Ground.phase }, { on := 10, ground := Ground.phase }], guard := none }) rfl (fun K hK => ?_) AllReadyH.nil
        go_simp
        skip
        refine hK.out _ _ ?_ (fun hHeld => ?_)
        · exact hst.2.1
        clear hK K
        try simp only [Act.put, List.setIfInBounds_toArray, List.set_cons_zero, List.set_cons_succ]
        refine wpAnyH_done (by kernel_rfl) ?_ _
        unfold onlyNormal
        clear KY KO KF hb5 hb6 hstep
        have cn8 := hst.2.2.1.bn.cell
        have cm8 := hst.2.2.1.bx.c1
        cases hq : decide (s2 = M) with
        | true =>
          have hq0 := hide' (of_decide_eq_true hq)
          have hq1 : ((s2 : Int) == (M : Int)) = true := by have := hq0.out; simp; omega
          have hX := hide' (hfinX.out hq0.out)
          clear hq hfinX hfinN
          gi_wp2
          exact ⟨hst.2.2.2.1, rfl, hst.2.2.1.mono hq0.out hX.out.1, by rw [hs2'.out]; exact hX.out.2⟩
        | false =>
          have hq0 := hide' (of_decide_eq_false hq)
          have hq1 : ((s2 : Int) == (M : Int)) = false := by have := hq0.out; simp; omega
          have hN := hide' (hfinN.out hq0.out)
          clear hq hfinX hfinN
          gi_wp2
          exact ⟨hst.2.2.2.1, hst.2.2.2.2, by rw [hs2'.out]; exact hst.2.2.1.mono hN.out.2.1 hN.out.1, .inl (by rw [hs2'.out]; exact hN.out.2.2)⟩
      refine AllReadyH.cons (o := { dst := some 40, op := Op.call { callee := Callee.value (Operand.func 14), args := #[Operand.tmp 37, Operand.tmp 39], argTypes := #[49, 49] }, type := 49, pos := "rows.go:85", after := #[{ on := 2, ground := Ground.data }, { on := 4, ground := Ground.data }, { on := 4, ground := Ground.chain }], guard := none }) rfl (fun K hK => ?_) AllReadyH.nil
      go_simp
      refine (KO.out _).mono ?_; rintro e w6 ⟨rfl, hb6⟩; (try dsimp only); have hB6 : Below W.heap.size W w6 := hB5.trans (hb6.mono hB5.size); have cn6 := cell_over cn hB6
      refine hK.out _ _ ?_ (fun hHeld => ?_)
      · exact ⟨cell_over c0 hB6, cell_over c1 hB6, cell_over c2 hB6, cell_over c3 hB6⟩
      clear hK K
      try simp only [Act.put, List.setIfInBounds_toArray, List.set_cons_zero, List.set_cons_succ]
      refine wpAnyH_ready (rs := [0, 6]) (by kernel_rfl) (by simp) ?_
      refine AllReadyH.cons (o := { dst := some 35, op := Op.load 23 (Operand.tmp 7), type := 23, pos := "rows.go:85", after := #[], guard := none }) rfl (fun K hK => ?_) ?_
      · skip
        go_simp
        refine hK.out _ _ ?_ (fun hHeld => ?_)
        · exact hHeld
        clear hK K
        try simp only [Act.put, List.setIfInBounds_toArray, List.set_cons_zero, List.set_cons_succ]
        refine wpAnyH_ready (rs := [6]) (by kernel_rfl) (by simp) ?_
        refine AllReadyH.cons (o := { dst := some 41, op := Op.call { callee := Callee.value (Operand.func 11), args := #[Operand.tmp 36, Operand.tmp 40], argTypes := #[46, 49] }, type := 23, pos := "rows.go:85", after := #[{ on := 1, ground := Ground.data }, { on := 5, ground := Ground.data }, { on := 5, ground := Ground.chain }], guard := none }) rfl (fun K hK => ?_) AllReadyH.nil
        go_simp
        refine (KF.out _ hB6).mono ?_; rintro e w7 ⟨c7, D7, rfl, hm7, hH7, hc7, hg7⟩; (try dsimp only); have hG7 : Gz gm W w7 := (Gz.of_below hB6 (by omega)).trans hg7; have bn7 : Boxed w7 nb 23 (.int .u64 (s : Int)) := (hG7.up nb (by omega) hI.bn.lt).trans hI.bn; have cn7 := bn7.cell; have fn7 := bn7.frozen; have hst := hstep.out w7 c7 D7 hG7 hm7 hH7 hc7
        refine hK.out _ _ ?_ (fun hHeld => ?_)
        · exact hst.1
        clear hK K
        try simp only [Act.put, List.setIfInBounds_toArray, List.set_cons_zero, List.set_cons_succ]
        refine wpAnyH_take (i := 7) (oi := { dst := some 42, op := Op.binOp BinOp.add 23 (Operand.tmp 35) (Operand.tmp 41) 23, type := 23, pos := "rows.go:85", after := #[{ on := 0, ground := Ground.data }, { on := 6, ground := Ground.data }], guard := none }) (v := ?_) rfl (by kernel_rfl) (by kernel_rfl) (by kernel_rfl) (fun _ _ _ h => h) (Or.inl ⟨by rfl, ?_⟩) (by assumption) ?_
        rotate_left
        · intro w hSw; (try dsimp only at hSw); go_simp <;> with_reducible rfl
        simp only [Act.put, List.setIfInBounds_toArray, List.set_cons_zero, List.set_cons_succ]
        refine wpAnyH_ready (rs := [10]) (by kernel_rfl) (by simp) ?_
        refine AllReadyH.cons (o := { dst := some 45, op := Op.call { callee := Callee.builtin Builtin.min, args := #[Operand.tmp 42, Operand.tmp 44], argTypes := #[23, 23] }, type := 23, pos := "rows.go:85", after := #[{ on := 7, ground := Ground.data }, { on := 9, ground := Ground.data }], guard := none }) rfl (fun K hK => ?_) AllReadyH.nil
        go_simp
        refine hK.out _ _ ?_ (fun hHeld => ?_)
        · exact hHeld
        clear hK K
        try simp only [Act.put, List.setIfInBounds_toArray, List.set_cons_zero, List.set_cons_succ]
        refine wpAnyH_ready (rs := [11]) (by kernel_rfl) (by simp) ?_
        refine AllReadyH.cons (o := { dst := none, op := Op.store 23 (Operand.tmp 7) (Operand.tmp 45), type := 0, pos := "rows.go:85", after := #[{ on := 10, ground := Ground.data }, { on := 6, ground := Ground.chain }, { on := 0, ground := Ground.phase }, { on := 1, ground := Ground.phase }, { on := 2, ground := Ground.phase }, { on := 3, ground := Ground.phase }, { on := 4, ground := Ground.phase }, { on := 5, ground := Ground.phase }, { on := 6, ground := Ground.phase }, { on := 7, ground := Ground.phase }, { on := 8, ground := Ground.phase }, { on := 9, ground := Ground.phase }, { on := 10, ground := Ground.phase }], guard := none }) rfl (fun K hK => ?_) AllReadyH.nil
        go_simp
        skip
        refine hK.out _ _ ?_ (fun hHeld => ?_)
        · exact hst.2.1
        clear hK K
        try simp only [Act.put, List.setIfInBounds_toArray, List.set_cons_zero, List.set_cons_succ]
        refine wpAnyH_done (by kernel_rfl) ?_ _
        unfold onlyNormal
        clear KY KO KF hb5 hb6 hstep
        have cn8 := hst.2.2.1.bn.cell
        have cm8 := hst.2.2.1.bx.c1
        cases hq : decide (s2 = M) with
        | true =>
          have hq0 := hide' (of_decide_eq_true hq)
          have hq1 : ((s2 : Int) == (M : Int)) = true := by have := hq0.out; simp; omega
          have hX := hide' (hfinX.out hq0.out)
          clear hq hfinX hfinN
          gi_wp2
          exact ⟨hst.2.2.2.1, rfl, hst.2.2.1.mono hq0.out hX.out.1, by rw [hs2'.out]; exact hX.out.2⟩
        | false =>
          have hq0 := hide' (of_decide_eq_false hq)
          have hq1 : ((s2 : Int) == (M : Int)) = false := by have := hq0.out; simp; omega
          have hN := hide' (hfinN.out hq0.out)
          clear hq hfinX hfinN
          gi_wp2
          exact ⟨hst.2.2.2.1, hst.2.2.2.2, by rw [hs2'.out]; exact hst.2.2.1.mono hN.out.2.1 hN.out.1, .inl (by rw [hs2'.out]; exact hN.out.2.2)⟩
      refine AllReadyH.cons (o := { dst := some 41, op := Op.call { callee := Callee.value (Operand.func 11), args := #[Operand.tmp 36, Operand.tmp 40], argTypes := #[46, 49] }, type := 23, pos := "rows.go:85", after := #[{ on := 1, ground := Ground.data }, { on := 5, ground := Ground.data }, { on := 5, ground := Ground.chain }], guard := none }) rfl (fun K hK => ?_) AllReadyH.nil
      go_simp
      refine (KF.out _ hB6).mono ?_; rintro e w7 ⟨c7, D7, rfl, hm7, hH7, hc7, hg7⟩; (try dsimp only); have hG7 : Gz gm W w7 := (Gz.of_below hB6 (by omega)).trans hg7; have bn7 : Boxed w7 nb 23 (.int .u64 (s : Int)) := (hG7.up nb (by omega) hI.bn.lt).trans hI.bn; have cn7 := bn7.cell; have fn7 := bn7.frozen; have hst := hstep.out w7 c7 D7 hG7 hm7 hH7 hc7
      refine hK.out _ _ ?_ (fun hHeld => ?_)
      · exact hst.1
      clear hK K
      try simp only [Act.put, List.setIfInBounds_toArray, List.set_cons_zero, List.set_cons_succ]
      refine wpAnyH_ready (rs := [0]) (by kernel_rfl) (by simp) ?_
      refine AllReadyH.cons (o := { dst := some 35, op := Op.load 23 (Operand.tmp 7), type := 23, pos := "rows.go:85", after := #[], guard := none }) rfl (fun K hK => ?_) AllReadyH.nil
      go_simp
      refine hK.out _ _ ?_ (fun hHeld => ?_)
      · exact hHeld
      clear hK K
      try simp only [Act.put, List.setIfInBounds_toArray, List.set_cons_zero, List.set_cons_succ]
      refine wpAnyH_take (i := 7) (oi := { dst := some 42, op := Op.binOp BinOp.add 23 (Operand.tmp 35) (Operand.tmp 41) 23, type := 23, pos := "rows.go:85", after := #[{ on := 0, ground := Ground.data }, { on := 6, ground := Ground.data }], guard := none }) (v := ?_) rfl (by kernel_rfl) (by kernel_rfl) (by kernel_rfl) (fun _ _ _ h => h) (Or.inl ⟨by rfl, ?_⟩) (by assumption) ?_
      rotate_left
      · intro w hSw; (try dsimp only at hSw); go_simp <;> with_reducible rfl
      simp only [Act.put, List.setIfInBounds_toArray, List.set_cons_zero, List.set_cons_succ]
      refine wpAnyH_ready (rs := [10]) (by kernel_rfl) (by simp) ?_
      refine AllReadyH.cons (o := { dst := some 45, op := Op.call { callee := Callee.builtin Builtin.min, args := #[Operand.tmp 42, Operand.tmp 44], argTypes := #[23, 23] }, type := 23, pos := "rows.go:85", after := #[{ on := 7, ground := Ground.data }, { on := 9, ground := Ground.data }], guard := none }) rfl (fun K hK => ?_) AllReadyH.nil
      go_simp
      refine hK.out _ _ ?_ (fun hHeld => ?_)
      · exact hHeld
      clear hK K
      try simp only [Act.put, List.setIfInBounds_toArray, List.set_cons_zero, List.set_cons_succ]
      refine wpAnyH_ready (rs := [11]) (by kernel_rfl) (by simp) ?_
      refine AllReadyH.cons (o := { dst := none, op := Op.store 23 (Operand.tmp 7) (Operand.tmp 45), type := 0, pos := "rows.go:85", after := #[{ on := 10, ground := Ground.data }, { on := 6, ground := Ground.chain }, { on := 0, ground := Ground.phase }, { on := 1, ground := Ground.phase }, { on := 2, ground := Ground.phase }, { on := 3, ground := Ground.phase }, { on := 4, ground := Ground.phase }, { on := 5, ground := Ground.phase }, { on := 6, ground := Ground.phase }, { on := 7, ground := Ground.phase }, { on := 8, ground := Ground.phase }, { on := 9, ground := Ground.phase }, { on := 10, ground := Ground.phase }], guard := none }) rfl (fun K hK => ?_) AllReadyH.nil
      go_simp
      skip
      refine hK.out _ _ ?_ (fun hHeld => ?_)
      · exact hst.2.1
      clear hK K
      try simp only [Act.put, List.setIfInBounds_toArray, List.set_cons_zero, List.set_cons_succ]
      refine wpAnyH_done (by kernel_rfl) ?_ _
      unfold onlyNormal
      clear KY KO KF hb5 hb6 hstep
      have cn8 := hst.2.2.1.bn.cell
      have cm8 := hst.2.2.1.bx.c1
      cases hq : decide (s2 = M) with
      | true =>
        have hq0 := hide' (of_decide_eq_true hq)
        have hq1 : ((s2 : Int) == (M : Int)) = true := by have := hq0.out; simp; omega
        have hX := hide' (hfinX.out hq0.out)
        clear hq hfinX hfinN
        gi_wp2
        exact ⟨hst.2.2.2.1, rfl, hst.2.2.1.mono hq0.out hX.out.1, by rw [hs2'.out]; exact hX.out.2⟩
      | false =>
        have hq0 := hide' (of_decide_eq_false hq)
        have hq1 : ((s2 : Int) == (M : Int)) = false := by have := hq0.out; simp; omega
        have hN := hide' (hfinN.out hq0.out)
        clear hq hfinX hfinN
        gi_wp2
        exact ⟨hst.2.2.2.1, hst.2.2.2.2, by rw [hs2'.out]; exact hst.2.2.1.mono hN.out.2.1 hN.out.1, .inl (by rw [hs2'.out]; exact hN.out.2.2)⟩
    case done =>
      rintro Dd ys W hD hys ⟨hI, hlt⟩ hK
      rw [show plain ys = nums x from hys] at hI hlt
      have hsM : Hid (capS M (fun a : Fin 64 => ext n Pf k (d ||| 2 ^ a.val)) (nums x) < M ∧ capS M (fun a : Fin 64 => ext n Pf k (d ||| 2 ^ a.val)) (nums x) = ext n Pf (k + 1) d) := by
        have h0 := hpos.out
        rw [hext.out] at h0
        have hs : capS M (fun a : Fin 64 => ext n Pf k (d ||| 2 ^ a.val)) (nums x) < M := by
          rcases hlt.out with h | h
          · exact h
          · rw [← show plain ys = nums x from hys, h] at h0
            simp [plain] at h0
        exact ⟨hs, by rw [hext.out]; exact capS_small _ hs⟩
      generalize capS M (fun a : Fin 64 => ext n Pf k (d ||| 2 ^ a.val)) (nums x) = r at *
      have hrv : Hid (r = min (ext n Pf (k + 1) d) M) := by have := hsM.out; show _ = _; omega
      obtain ⟨c8, D8, hm8, hH8, hc8⟩ := hI.mp
      have hbd : Hid (c8 + 1 ≤ c + bE M r (k + 1)) := by
        have h1 := hsM.out
        have h2 := hpos.out
        show _ ≤ _
        unfold bE
        rw [if_pos h1.1, Nat.mul_add]
        omega
      clear hlt
      have hWs := hI.fr.low.size
      have c1 := hI.bx.c2
      have c3 := hI.bd.cell
      have cn := hI.bn.cell
      have hfr := hI.fr
      have hkey : keyOf Tryd.prog 23 (.int .u64 (d : Int)) = some (.int .u64 (d : Int)) := keyOf_int_mk Tryd.underlying23 (wfU hd64)
      have hrM : r ≤ M := by rw [hrv.out]; exact Nat.min_le_right _ _
      have hval : plainElem Tryd.prog 23 (.int .u64 (r : Int)) = some ((.lit (.int .u64 (r : Int)) : DataW Unit), []) := plainElem_int Tryd.underlying23 (wfU (by omega))
      have hroom8 : c8 < maxLen := by
        have h1 := hbd.out
        have h2 := bE_le M (k := k + 1) hrM
        unfold maxLen
        omega
      have hH9 := hide' (hH8.put (d := d) (v := r) (by rw [show n - cnt n d = k + 1 by omega]; exact hrv.out))
      have hS0 : Hid (W.drew.cell? ⟨V.heap.size, 2, none⟩ = some (.map (some gm)) ∧ W.drew.cell? ⟨V.heap.size + 1, 0, none⟩ = some (.int .u64 (d : Int)) ∧ W.drew.cell? ⟨nb, 0, none⟩ = some (.int .u64 (r : Int))) := ⟨c1, c3, cn⟩
      clear hI hpos hext hxe hsM
      go_wp2
      go_region_held3 (fun X => X.cell? ⟨V.heap.size, 2, none⟩ = some (.map (some gm)) ∧ X.cell? ⟨V.heap.size + 1, 0, none⟩ = some (.int .u64 (d : Int)) ∧ X.cell? ⟨nb, 0, none⟩ = some (.int .u64 (r : Int))) (first | assumption | (exact hS0.out) | (exact hS8) | (exact keep7 hS8 hg9 (by omega) (by omega) (by omega))) (first | (go_at_call 24; refine (word64 _ _).mono ?_; rintro e w8 ⟨rfl, hb8⟩; have hB8 : Below W.heap.size W w8 := ((Below.refl _ W).drew).trans hb8; have hS8 := And.intro (cell_over c1 hB8) (And.intro (cell_over c3 hB8) (cell_over cn hB8)); obtain ⟨w9, hup, hm9, hg9⟩ := World.ownsMap.update (t := 44) (e := 23) (map_blk hm8 (hB8.block gm (by omega))) lawU Tryd.underlying44 hroom8 hkey hval))
      all_goals
        go_wp2
        have hDD : V.heap.size ≤ Dd := by omega
        have hKD := (Array.getElem?_eq_some_iff.1 hK).1
        have hK9 := (hg9.block Dd (Nat.lt_of_lt_of_le hKD hB8.size) (by intro e; injection e; omega)).trans ((hB8.block Dd hKD).trans hK)
        have hG9 : Gz gm V w9 := (hfr.trans (Gz.of_below hB8 (by omega))).trans (Gz.grown hg9 (by have := hB8.size; omega))
        refine ⟨by simp, .inl ⟨_, _, rfl, run_takeDeferred hK9, ?_⟩⟩
        refine ⟨_, results_tmp rfl _ _ _, c8 + 1, _, (by rw [← hrv.out]; rfl), map_blk hm9 (World.putObj_heap_other (by omega)), hH9.out, (by rw [← hrv.out]; exact hbd.out), hG9.putObj hgV hDD _⟩
    case stop =>
      rintro Dd cd pre W hD hSp ⟨rfl, hI, hge⟩ hK
      have hrv : Hid (M = min (ext n Pf (k + 1) d) M) := by
        have h1 := hge.out
        have h2 := capS_le M (fun a : Fin 64 => ext n Pf k (d ||| 2 ^ a.val)) (plain pre)
        have h4 := sum_prefix (f := fun a : Fin 64 => ext n Pf k (d ||| 2 ^ a.val)) (show plain pre <+: nums x from hSp)
        rw [← hext.out] at h4
        show _ = _
        omega
      obtain ⟨c8, D8, hm8, hH8, hc8⟩ := hI.mp
      have hbd : Hid (c8 + 1 ≤ c + bE M M (k + 1)) := by
        show _ ≤ _
        unfold bE
        rw [if_neg (Nat.lt_irrefl _)]
        show _ ≤ c + (1 + 2 * (M * k) + bnd M k)
        omega
      have hsM : Hid (M ≤ M) := Nat.le_refl _
      obtain ⟨r, hr⟩ : ∃ r, r = M := ⟨_, rfl⟩
      have hrv' : Hid (r = min (ext n Pf (k + 1) d) M) := by show _ = _; rw [hr]; exact hrv.out
      have hbd' : Hid (c8 + 1 ≤ c + bE M r (k + 1)) := by show _ ≤ _; rw [hr]; exact hbd.out
      have hI' : LI V gm go M d nb bb x n Pf r (c + (2 * (M * k) + bnd M k)) W := hI.mono hr.symm (Nat.le_refl _)
      clear hI hrv hbd
      have hI := hI'
      have hrv := hrv'
      have hbd := hbd'
      clear hI' hrv' hbd' hr
      refine wpIn_wide.2 ?_
      have hWs := hI.fr.low.size
      have c1 := hI.bx.c2
      have c3 := hI.bd.cell
      have cn := hI.bn.cell
      have hfr := hI.fr
      have hkey : keyOf Tryd.prog 23 (.int .u64 (d : Int)) = some (.int .u64 (d : Int)) := keyOf_int_mk Tryd.underlying23 (wfU hd64)
      have hrM : r ≤ M := by rw [hrv.out]; exact Nat.min_le_right _ _
      have hval : plainElem Tryd.prog 23 (.int .u64 (r : Int)) = some ((.lit (.int .u64 (r : Int)) : DataW Unit), []) := plainElem_int Tryd.underlying23 (wfU (by omega))
      have hroom8 : c8 < maxLen := by
        have h1 := hbd.out
        have h2 := bE_le M (k := k + 1) hrM
        unfold maxLen
        omega
      have hH9 := hide' (hH8.put (d := d) (v := r) (by rw [show n - cnt n d = k + 1 by omega]; exact hrv.out))
      have hS0 : Hid (W.drew.cell? ⟨V.heap.size, 2, none⟩ = some (.map (some gm)) ∧ W.drew.cell? ⟨V.heap.size + 1, 0, none⟩ = some (.int .u64 (d : Int)) ∧ W.drew.cell? ⟨nb, 0, none⟩ = some (.int .u64 (r : Int))) := ⟨c1, c3, cn⟩
      clear hI hpos hext hxe hsM
      go_wp2
      go_region_held3 (fun X => X.cell? ⟨V.heap.size, 2, none⟩ = some (.map (some gm)) ∧ X.cell? ⟨V.heap.size + 1, 0, none⟩ = some (.int .u64 (d : Int)) ∧ X.cell? ⟨nb, 0, none⟩ = some (.int .u64 (r : Int))) (first | assumption | (exact hS0.out) | (exact hS8) | (exact keep7 hS8 hg9 (by omega) (by omega) (by omega))) (first | (go_at_call 24; refine (word64 _ _).mono ?_; rintro e w8 ⟨rfl, hb8⟩; have hB8 : Below W.heap.size W w8 := ((Below.refl _ W).drew).trans hb8; have hS8 := And.intro (cell_over c1 hB8) (And.intro (cell_over c3 hB8) (cell_over cn hB8)); obtain ⟨w9, hup, hm9, hg9⟩ := World.ownsMap.update (t := 44) (e := 23) (map_blk hm8 (hB8.block gm (by omega))) lawU Tryd.underlying44 hroom8 hkey hval))
      all_goals
        go_wp2
        have hDD : V.heap.size ≤ Dd := by omega
        have hKD := (Array.getElem?_eq_some_iff.1 hK).1
        have hK9 := (hg9.block Dd (Nat.lt_of_lt_of_le hKD hB8.size) (by intro e; injection e; omega)).trans ((hB8.block Dd hKD).trans hK)
        have hG9 : Gz gm V w9 := (hfr.trans (Gz.of_below hB8 (by omega))).trans (Gz.grown hg9 (by have := hB8.size; omega))
        refine ⟨by simp, .inl ⟨_, _, rfl, run_takeDeferred hK9, ?_⟩⟩
        refine ⟨_, results_tmp rfl _ _ _, c8 + 1, _, (by rw [← hrv.out]; rfl), map_blk hm9 (World.putObj_heap_other (by omega)), hH9.out, (by rw [← hrv.out]; exact hbd.out), hG9.putObj hgV hDD _⟩
theorem fromAll (ho : OrdAt w0 go gp gs n Pf Sf) (hO : Ord n R Pf Sf) (ht : Tab w0) (hg : w0.heap.size = gm) (hM : M ≤ 65536) : ∀ k, FromS w0 gm go n M Pf R k
  | 0 => from0 ho hO hg hM
  | k + 1 => fromStep ho hO ht hg hM k (fromAll ho hO ht hg hM k)
set_option maxRecDepth 100000 in
set_option maxHeartbeats 1000000 in
theorem countO (ho : OrdAt w0 go gp gs n Pf Sf) (hO : Ord n R Pf Sf) (ht : Tab w0) (q : Nat) (hq : q < 18446744073709551616) :
    Calls Tryd.prog 5 #[.pointer (some ⟨go, 0, none⟩), .int .u64 (q : Int)] w0 fun e w' => e = .returned (.int .u64 ((min (ext n Pf n 0) (min q 65536) : Nat) : Int)) ∧ Below w0.heap.size w0 w' := by
  have hmq : min (q : Int) 65536 = ((min q 65536 : Nat) : Int) := by omega
  have hM : min q 65536 ≤ 65536 := Nat.min_le_right _ _
  have hmm := @run_makeMap Tryd.prog
  have hB1 : Below w0.heap.size w0 (w0.alloc (.map #[] 0)) := (Below.refl _ _).alloc (Nat.le_refl _) _
  have hm1 : cmap (w0.alloc (.map #[] 0)) w0.heap.size 0 (.map [] : DataW Unit) := World.ownsMap_made w0 _ _ _
  have hn := hO.n64
  generalize min q 65536 = M at *
  have KF : Hid (∀ V, Below (w0.heap.size + 1) (w0.alloc (.map #[] 0)) V → Calls Tryd.prog 11 #[.agg #[.pointer (some ⟨go, 0, none⟩), .int .u64 (M : Int), .map (some w0.heap.size)], .agg #[.int .u64 0]] V fun e V' => e = .returned (.int .u64 ((min (ext n Pf n 0) M : Nat) : Int)) ∧ Below w0.heap.size w0 V') := fun V hV => by
    have hroom : 0 + (M * n + bnd M n) ≤ 1000000000000 := by
      have h1 := bnd_le M n
      have h2 := Nat.mul_le_mul hM hn
      have h3 := Nat.mul_le_mul hM (Nat.mul_le_mul hn hn)
      omega
    have hz := hV.size
    rw [World.size_alloc] at hz
    refine (fromAll ho hO ht rfl hM n 0 0 (.map []) V down_zero (by rw [cnt_zero]; omega) (hB1.trans (hV.mono (by omega))) (by omega) (map_blk hm1 (hV.block _ (by omega))) (HoldsC.nil _ _ _) hroom).mono ?_
    rintro e V' ⟨c', D', rfl, _, _, _, hG⟩
    exact ⟨rfl, (hB1.trans (hV.mono (by omega))).trans hG.low⟩
  clear hB1 hm1
  go_enter Tryd.func5, Tryd.ntmps5
  go_wp2_with (go_at_call 11; refine (KF.out _ ((Below.refl _ _).alloc (by simp) _)).mono ?_; rintro e w1 ⟨rfl, hb1⟩)
  go_ret
  exact ⟨rfl, hb1⟩
end
end Go.Proofs.YtgmnldibabdjmaaDoor

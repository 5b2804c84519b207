/- few: events in new memory. -/
import Derived.Test.YtahfobbiaimoiaaGreatDoorJ15
import Derived.Test.YtahfobbiaimoiaaGreatDoorJ28
import Derived.Test.YtahfobbiaimoiaaGreatDoorJ29
import Derived.Test.YtahfobbiaimoiaaGreatDoorJ31
import Derived.Test.YtahfobbiaimoiaaGreatDoorJ32
import Derived.Test.YtahfobbiaimoiaaGreatDoorJ35
import Derived.Test.YtahfobbiaimoiaaGreatDoorJ36
import Derived.Test.YtahfobbiaimoiaaGreatDoorJ43
import Derived.Test.YtahfobbiaimoiaaGreatDoorJ44
import Derived.Deep.RegionHeld3
import Derived.Deep.CutRange
import Derived.Laws.AppendOwnNone
namespace Go.Proofs.YtahfobbiaimoiaaGreatDoor
open Go.RowKit
/-- Between two marks nothing has turned, but for one block. -/
def Wd (lo x : Nat) (V W : World) : Prop := ∀ k, lo ≤ k → k < V.heap.size → k ≠ x → W.heap[k]? = V.heap[k]?
theorem Wd.refl (lo x : Nat) (V : World) : Wd lo x V V := fun _ _ _ _ => rfl
theorem Wd.trans {lo x : Nat} {V W W' : World} (h : Wd lo x V W) (_hs : V.heap.size ≤ W.heap.size) (k : ∀ k, lo ≤ k → k < V.heap.size → k ≠ x → W'.heap[k]? = W.heap[k]?) : Wd lo x V W' := fun j h1 h2 h3 => (k j h1 h2 h3).trans (h j h1 h2 h3)
theorem Wd.below {lo x : Nat} {V W W' : World} (h : Wd lo x V W) (hs : V.heap.size ≤ W.heap.size) (hb : Below W.heap.size W W') : Wd lo x V W' := fun j h1 h2 h3 => (hb.block j (by omega)).trans (h j h1 h2 h3)
/-- The world without its blocks. -/
def emp (W : World) : World := { W with heap := #[] }
theorem mat_win {w V W : World} {go n : Nat} {M : Nat → Nat → Bool} {ov : Value} {gr : Nat → Nat} (h : O.Mat w go n n M ov gr V) {lo x : Nat} (hlo : lo ≤ w.heap.size) (hx : x < w.heap.size) (hW : Wd lo x V W) : O.Mat (emp W) go n n M ov gr W where
  ob := (hW go (by have := h.ge; omega) (Array.getElem?_eq_some_iff.1 h.ob).1 (by have := h.ge; omega)).trans h.ob
  outer := own_down (own_same h.outer fun k hk e => by have := own_ge' h.outer e; exact hW k (by omega) hk (by omega)) (Nat.zero_le _)
  inner := fun i hi => own_down (own_same (h.inner i hi) fun k hk e => by have := own_ge' (h.inner i hi) e; exact hW k (by omega) hk (by omega)) (Nat.zero_le _)
  dist := h.dist
  ge := Nat.zero_le _
  bl := ⟨rfl, rfl, rfl, Nat.zero_le _, fun k hk => absurd hk (Nat.not_lt_zero _)⟩
/-- The document's run with what it reads. -/
structure Dc (lo : Nat) (V1 : World) (F : Fw) (gd gt : Nat) (sv rv : Value) (go ct : Nat) (Q1 : List (Sp × Value)) (Q2 : List (Rl × Value)) (ev : Value) (R : Rs) (W : World) : Prop where
  at' : ∃ sk en, RzAt W 0 gd gt F.name sv rv go ct ev R.S R.log sk en ∧ SkE R sk en
  prd : ∀ V, Wd lo gd V1 V → ∀ a : Int, Calls Tryz.prog 98 #[.pointer (some ⟨go, 0, none⟩), .int .i64 a] V fun e w' => e = .returned (.int .u64 (O.accB (fun i => O.befI (O.ordL F.steps.length (prs F.steps)) i a) F.steps.length : Int)) ∧ w' = V
  len : R.S.length = F.steps.length
  m1 : Q1.map Prod.fst = F.steps
  m2 : Q2.map Prod.fst = F.rules
  t1 : TwP lo V1 sv Q1
  t2 : TwS lo V1 rv Q2
  win : Wd lo gd V1 W
  hi : V1.heap.size ≤ W.heap.size
  gl : lo ≤ gd ∧ gd < V1.heap.size
  gt : V1.heap.size ≤ gt
  ge : ∀ g, ev.ownBlock = some g → V1.heap.size ≤ g
  kd : ∃ cs, V1.heap[gd]? = some (.cells cs 40 (0, 0))
/-- What New of the document answers. -/
def NewZ (F : Fw) (tick : Int) (w : World) (e : Ending) (w' : World) : Prop :=
  (chkF F ≠ 0 ∧ e = .returned (.tuple #[.pointer none, .int .i64 (chkF F)]) ∧ Below w.heap.size w w') ∨
  (FlOk F ∧ ∃ V1 gd gt sv rv go ct Q1 Q2 ev, e = .returned (.tuple #[.pointer (some ⟨gd, 0, none⟩), .int .i64 0]) ∧ Below w.heap.size w w' ∧ Dc w.heap.size V1 F gd gt sv rv go ct Q1 Q2 ev (newR F.steps.length tick) w')
/-- New's end: the event laid, the run stands. -/
theorem Nq.fin {F : Fw} {tick : Int} {w V1 W w' : World} {gd go gt ct : Nat} {sv rv : Value} {Q1 : List (Sp × Value)} {Q2 : List (Rl × Value)} {x : Ending} (hlo : w.heap.size ≤ gd) (hgd : gd < V1.heap.size) (hst : W.ownsRow V1.heap.size 42 4 (.slice (some ⟨gt, 0, none⟩) F.steps.length ct) F.steps.length (cellsSS (List.replicate F.steps.length ⟨0, -1, 0, 0⟩))) (hfr : FrR gd gd (.slice none 0 0) V1 W) (hb : Below w.heap.size w V1)
    (hp : ∀ V, Wd w.heap.size gd V1 V → ∀ a : Int, Calls Tryz.prog 98 #[.pointer (some ⟨go, 0, none⟩), .int .i64 a] V fun e w' => e = .returned (.int .u64 (O.accB (fun i => O.befI (O.ordL F.steps.length (prs F.steps)) i a) F.steps.length : Int)) ∧ w' = V)
    (m1 : Q1.map Prod.fst = F.steps) (m2 : Q2.map Prod.fst = F.rules) (t1 : TwP w.heap.size V1 sv Q1) (t2 : TwS w.heap.size V1 rv Q2) (hkd : ∃ cs, V1.heap[gd]? = some (.cells cs 40 (0, 0)))
    (hx : EvR W 0 gd gt F.name sv rv go ct (.slice none 0 0) (List.replicate F.steps.length ⟨0, -1, 0, 0⟩) ([] ++ [⟨tick, 1, -1, -1⟩]) false 0 x w') : x = .returned (.tuple #[]) ∧ Below w.heap.size w w' ∧ ∃ ev, Dc w.heap.size V1 F gd gt sv rv go ct Q1 Q2 ev (newR F.steps.length tick) w' := by
  obtain ⟨rfl, ev', h1, h2, h3⟩ := hx
  have hgt : V1.heap.size ≤ gt := own_ge' hst rfl
  have hb1 := hb.size
  have hz := hfr.size
  have hz2 := h2.size
  have hbl : ∀ k, k < V1.heap.size → k ≠ gd → w'.heap[k]? = V1.heap[k]? := fun k hk hn => (h2.blk k (by omega) hn (by omega) (fun e => by cases e)).trans (hfr.blk k hk hn hn (fun e => by cases e))
  refine ⟨rfl, ⟨h2.os.trans (hfr.os.trans hb.os), h2.tape.trans (hfr.tape.trans hb.tape), h2.output.trans (hfr.output.trans hb.output), by omega, fun k hk => (hbl k (by omega) (by omega)).trans (hb.block k hk)⟩, ev', ⟨⟨false, 0, h1, .inr ⟨rfl, rfl, rfl⟩⟩, hp, by simp [newR], m1, m2, t1, t2, fun k _ hk hn => hbl k hk hn, by omega, ⟨hlo, hgd⟩, hgt, fun g hg => ?_, hkd⟩⟩
  rcases h3 g hg with e | e
  · cases e
  · omega
theorem cellsSS_snoc (S : List SS) (s : SS) : cellsSS (S ++ [s]) = cellsSS S ++ sscells s := by simp [cellsSS]
theorem sscells_one (s : SS) : ∀ u ∈ sscells s, u.oneCell' = true := by
  intro u hu
  simp [sscells] at hu
  rcases hu with rfl | rfl | rfl | rfl <;> rfl
/-- The run's block and its row of states while they are made. -/
structure Nq (V1 : World) (gd : Nat) (nm : ByteArray) (sv rv : Value) (go : Nat) (o : Option Addr) (c k : Nat) (W : World) : Prop where
  ob : W.heap[gd]? = some (.cells #[.string nm, sv, rv, .pointer (some ⟨go, 0, none⟩), .slice o c k, .slice none 0 0, .bool false, .int .i64 0] 40 (0, 0))
  st : W.ownsRow V1.heap.size 42 4 (.slice o c k) c (cellsSS (List.replicate c ⟨0, -1, 0, 0⟩))
  fr : FrR gd gd (.slice none 0 0) V1 W
theorem Nq.push {V1 W w2 : World} {gd : Nat} {nm : ByteArray} {sv rv : Value} {go : Nat} {o : Option Addr} {c k g cap : Nat} (h : Nq V1 gd nm sv rv go o c k W) (hlt : gd < V1.heap.size) (ho : w2.ownsRow V1.heap.size 42 4 (.slice (some ⟨g, 0, none⟩) (c + 1) cap) (c + 1) (cellsSS (List.replicate c ⟨0, -1, 0, 0⟩) ++ sscells ⟨0, -1, 0, 0⟩)) (hg : W.grownBy w2 (Value.slice o c k).ownBlock) :
    (w2.cell? ⟨gd, 4, none⟩ = some (.slice o c k) ∧ w2.frozen? ⟨gd, 4, none⟩ = false) ∧ Nq V1 gd nm sv rv go (some ⟨g, 0, none⟩) (c + 1) cap (w2.setCell ⟨gd, 4, none⟩ (.slice (some ⟨g, 0, none⟩) (c + 1) cap)) := by
  have hz := h.fr.size
  have hne : ∀ x, (Value.slice o c k).ownBlock = some x → V1.heap.size ≤ x := fun x e => own_ge' h.st e
  have k1 : w2.heap[gd]? = W.heap[gd]? := hg.block gd (by omega) fun e => by have := hne _ e.symm; omega
  have ob2 := k1.trans h.ob
  have ho2 : w2.ownsRow V1.heap.size 42 4 (.slice (some ⟨g, 0, none⟩) (c + 1) cap) (c + 1) (cellsSS (List.replicate (c + 1) ⟨0, -1, 0, 0⟩)) := by
    rw [List.replicate_succ', cellsSS_snoc]; exact ho
  refine ⟨⟨by simp [World.cell?, ob2], by simp [World.frozen?, ob2]⟩, heap_set_at _ ob2, own_same ho2 fun x _ e => Below.heap_setCell _ _ _ _ fun e2 => ?_, FrR.set ⟨hg.os.trans h.fr.os, hg.tape.trans h.fr.tape, hg.output.trans h.fr.output, Nat.le_trans hz hg.size, fun x hx h1 h2 h3 => (hg.block x (by omega) fun e => by have := hne _ e.symm; omega).trans (h.fr.blk x hx h1 h2 h3)⟩ 4 _⟩
  have := own_ge' ho2 e
  subst e2
  omega
set_option maxRecDepth 100000 in
set_option maxHeartbeats 8000000 in
theorem newD (F : Fw) (v : Value) (tick : Int) (w : World) (hv : flV w v F) (hB : FlB F) : Calls Tryz.prog 51 #[v, .int .i64 tick] w (NewZ F tick w) := by
  have hv0 := hide' hv
  obtain ⟨sv0, rv0, rfl, hs, hr⟩ := hv
  have hs0 := hide' hs
  obtain ⟨oa, cap, rfl⟩ := hs.shape
  obtain ⟨ob, cb, rfl⟩ := hr.shape
  have KC : Hid (∀ W, Below w.heap.size w W → Calls Tryz.prog 50 #[.agg #[.string F.name, .slice oa F.steps.length cap, .slice ob F.rules.length cb]] W (flErr W (chkF F))) := fun W hW => checkD F _ W (hv0.out.below hW (Nat.le_refl _)) hB
  have KT : Hid (∀ W, Below w.heap.size w W → Calls Tryz.prog 84 #[.agg #[.string F.name, .slice oa F.steps.length cap, .slice ob F.rules.length cb]] W (CopR W F)) := fun W hW => twinD F _ W (hv0.out.below hW (Nat.le_refl _)) hB
  have KP : Hid (∀ W, Below w.heap.size w W → Calls Tryz.prog 83 #[.agg #[.string F.name, .slice oa F.steps.length cap, .slice ob F.rules.length cb]] W fun e w' => ∃ v', e = .returned v' ∧ O.PairsAt w' v' (prs F.steps) ∧ Below W.heap.size W w') := fun W h => pairsD _ _ _ ob F.rules.length cb W (hs0.out.below h (Nat.le_refl _)) hB.sl (fun s hs => (hB.st s hs).1)
  have KO : Hid (∀ W v, O.PairsAt W v (prs F.steps) → Calls Tryz.prog 82 #[.int .i64 (F.steps.length : Nat), v] W fun e w' => ∃ po z, e = .returned (.tuple #[.pointer po, .int .i64 z]) ∧ Hid (O.RefC W (F.steps.length : Nat) (prs F.steps) po z w') ∧ Below W.heap.size W w') := fun W v h => O.refT _ v _ W h (by have := prT_len (L := F.steps) (fun s hs => (hB.st s hs).1) F.steps.length; have := hB.sl; show (prT F.steps F.steps.length).length ≤ _; omega)
  have hOk : Hid (chkF F = 0 → FlOk F) := fun h => chkF_zero h
  have hR1 : Hid (∀ w', chkF F ≠ 0 → Below w.heap.size w w' → NewZ F tick w (.returned (.tuple #[.pointer none, .int .i64 (chkF F)])) w') := fun w' h1 h2 => .inl ⟨h1, rfl, h2⟩
  have hR2 : Hid (∀ V1 gd gt sv rv go ct Q1 Q2 ev w', FlOk F → Below w.heap.size w w' → Dc w.heap.size V1 F gd gt sv rv go ct Q1 Q2 ev (newR F.steps.length tick) w' → NewZ F tick w (.returned (.tuple #[.pointer (some ⟨gd, 0, none⟩), .int .i64 0])) w') := fun V1 gd gt sv rv go ct Q1 Q2 ev w' h1 h2 h3 => .inr ⟨h1, V1, gd, gt, sv, rv, go, ct, Q1, Q2, ev, rfl, h2, h3⟩
  generalize NewZ F tick w = QQ at *
  clear hs hr hs0 hv0 hB
  have D1 := hide' (heap_alloc_new w (.cells #[.string F.name, .slice oa F.steps.length cap, .slice ob F.rules.length cb] 25))
  have B0 : Hid (Below w.heap.size w (w.alloc (.cells #[.string F.name, .slice oa F.steps.length cap, .slice ob F.rules.length cb] 25))) := (Below.refl _ w).alloc (Nat.le_refl _) _
  have B1 : Hid (w.heap.size + 1 = (w.alloc (.cells #[.string F.name, .slice oa F.steps.length cap, .slice ob F.rules.length cb] 25)).heap.size) := by show _ = _; simp
  go_enter Tryz.func51, Tryz.ntmps51
  go_wp2_with fail
  generalize w.alloc (.cells #[.string F.name, .slice oa F.steps.length cap, .slice ob F.rules.length cb] 25) = W1 at *
  have hK : Hid (∀ W, Below W1.heap.size W1 W → Below w.heap.size w W ∧ W.cell? ⟨w.heap.size, 0, none⟩ = some (.string F.name) ∧ W.cell? ⟨w.heap.size, 1, none⟩ = some (.slice oa F.steps.length cap) ∧ W.cell? ⟨w.heap.size, 2, none⟩ = some (.slice ob F.rules.length cb)) := fun W hW => by
    have e1 := (hW.block _ (Array.getElem?_eq_some_iff.1 D1.out).1).trans D1.out
    exact ⟨B0.out.trans (hW.mono B0.out.size), by simp [World.cell?, e1], by simp [World.cell?, e1], by simp [World.cell?, e1]⟩
  clear D1
  refine (KC.out _ B0.out).mono ?_
  rintro e w2 ⟨rfl, hb2⟩
  obtain ⟨hB2, k0, k1, k2⟩ := hK.out w2 hb2
  have B2 := hide' hB2
  have b2 := hide' hb2
  clear hb2 hB2 KC B0
  by_cases h0 : chkF F = 0
  · have ok := hide' (hOk.out h0)
    rw [h0]
    clear hR1 hOk h0
    go_wp2_with fail
    refine (KT.out _ B2.out).mono ?_
    intro e w3 hC
    obtain ⟨o1, c1, o2, c2, P1, P2, rfl, hF, hb3⟩ := hC.open
    have B3 := hide' (B2.out.trans (hb3.mono B2.out.size))
    have b3 := hide' (b2.out.trans (hb3.mono b2.out.size))
    have Z3 : Hid (w.heap.size + 1 ≤ w3.heap.size) := by show _ ≤ _; rw [B1.out]; exact b3.out.size
    have hF3 := hide' (hF.over ((Below.refl _ w3).alloc (Nat.le_refl _) (.cells #[.string F.name, .slice o1 F.steps.length c1, .slice o2 F.rules.length c2, .pointer none, .slice none 0 0, .slice none 0 0, .bool false, .int .i64 0] 40)))
    have D4 := hide' (heap_alloc_new w3 (.cells #[.string F.name, .slice o1 F.steps.length c1, .slice o2 F.rules.length c2, .pointer none, .slice none 0 0, .slice none 0 0, .bool false, .int .i64 0] 40))
    have B4 := hide' (B3.out.alloc B3.out.size (.cells #[.string F.name, .slice o1 F.steps.length c1, .slice o2 F.rules.length c2, .pointer none, .slice none 0 0, .slice none 0 0, .bool false, .int .i64 0] 40))
    have b4 := hide' (b3.out.alloc b3.out.size (.cells #[.string F.name, .slice o1 F.steps.length c1, .slice o2 F.rules.length c2, .pointer none, .slice none 0 0, .slice none 0 0, .bool false, .int .i64 0] 40))
    have hgd4 : Hid (w3.heap.size < (w3.alloc (.cells #[.string F.name, .slice o1 F.steps.length c1, .slice o2 F.rules.length c2, .pointer none, .slice none 0 0, .slice none 0 0, .bool false, .int .i64 0] 40)).heap.size) := by show _ < _; simp
    have hw2 : w.heap.size ≤ w2.heap.size := B2.out.size
    clear KT hC hF hb3 B3 b3 B2 b2
    go_wp2_with fail
    generalize hgd : w3.heap.size = gd at *
    generalize w3.alloc (.cells #[.string F.name, .slice o1 F.steps.length c1, .slice o2 F.rules.length c2, .pointer none, .slice none 0 0, .slice none 0 0, .bool false, .int .i64 0] 40) = W4 at *
    clear hgd k0 k1 k2
    have B4d := hide' (B4.out.drew)
    have b4d := hide' (b4.out.drew)
    have hlo : Hid (w.heap.size ≤ gd) := by show _ ≤ _; have := Z3.out; omega
    have hS : Hid (∀ V, Below W4.heap.size W4 V → (V.cell? ⟨w.heap.size, 0, none⟩ = some (.string F.name) ∧ V.cell? ⟨w.heap.size, 1, none⟩ = some (.slice oa F.steps.length cap) ∧ V.cell? ⟨w.heap.size, 2, none⟩ = some (.slice ob F.rules.length cb))) := fun V hV => (hK.out V (b4.out.trans (hV.mono b4.out.size))).2
    have hS2 : Hid (∀ V u, Below W4.heap.size W4 V → ((V.setCell ⟨gd, 3, none⟩ u).cell? ⟨w.heap.size, 0, none⟩ = some (.string F.name) ∧ (V.setCell ⟨gd, 3, none⟩ u).cell? ⟨w.heap.size, 1, none⟩ = some (.slice oa F.steps.length cap) ∧ (V.setCell ⟨gd, 3, none⟩ u).cell? ⟨w.heap.size, 2, none⟩ = some (.slice ob F.rules.length cb))) := fun V u hV => by
      obtain ⟨e0, e1, e2⟩ := hS.out V hV
      have := Z3.out
      have eb := Below.heap_setCell V ⟨gd, 3, none⟩ u w.heap.size (show w.heap.size ≠ gd by omega)
      exact ⟨blk_cell e0 eb, blk_cell e1 eb, blk_cell e2 eb⟩
    have hG : Hid (∀ V, Below W4.heap.size W4 V → V.cell? ⟨gd, 3, none⟩ = some (.pointer none) ∧ V.frozen? ⟨gd, 3, none⟩ = false ∧ V.heap[gd]? = some (.cells #[.string F.name, .slice o1 F.steps.length c1, .slice o2 F.rules.length c2, .pointer none, .slice none 0 0, .slice none 0 0, .bool false, .int .i64 0] 40 (0, 0))) := fun V hV => by
      have e := (hV.block gd hgd4.out).trans D4.out
      exact ⟨by simp [World.cell?, e], by simp [World.frozen?, e], e⟩
    have hd0 : Hid (Below W4.heap.size W4 W4.drew) := (Below.refl _ _).drew
    go_region_held3 (fun V => V.cell? ⟨w.heap.size, 0, none⟩ = some (.string F.name) ∧ V.cell? ⟨w.heap.size, 1, none⟩ = some (.slice oa F.steps.length cap) ∧ V.cell? ⟨w.heap.size, 2, none⟩ = some (.slice ob F.rules.length cb)) (first | (exact hS.out _ hd0.out) | (exact hS.out _ h6.out) | (exact hS.out _ h7.out) | (exact hS2.out _ _ h7.out)) (first | (go_at_call 82; refine (KO.out _ _ hpa).mono ?_; rintro e w7 ⟨po, z, rfl, hC7, hb7⟩; have h7 := hide' (h6.out.trans (hb7.mono h6.out.size)); obtain ⟨d7, f7, e7⟩ := hG.out _ h7.out) | (go_at_call 83; refine (KP.out _ B4d.out).mono ?_; rintro e w6 ⟨pv, rfl, hpa, hb6⟩; have h6 : Hid (Below W4.heap.size W4 w6) := hd0.out.trans hb6))
    obtain ⟨go, ov, gq, hpo, hM⟩ : ∃ go ov gq, (po = some ⟨go, 0, none⟩ ∧ z = 0) ∧ O.Mat w6 go F.steps.length F.steps.length (O.ordL F.steps.length (prs F.steps)) ov gq w7 := by
      rcases hC7.out with ⟨h, _⟩ | ⟨_, h, _⟩ | ⟨_, _, e, go', ov, gq, e2, hM⟩
      · exact absurd (prs_good (by have := ok.out.le; omega) ok.out.st) h
      · exact absurd h ok.out.cy
      · exact ⟨go', ov, gq, ⟨e2, e⟩, hM⟩
    obtain ⟨rfl, rfl⟩ := hpo
    have hn12 := ok.out.le
    have hn0 := ok.out.ne
    have hg6 : Hid (gd < w6.heap.size) := Nat.lt_of_lt_of_le hgd4.out h6.out.size
    have hg7 : Hid (gd < w7.heap.size) := Nat.lt_of_lt_of_le hgd4.out h7.out.size
    have hb7' : Hid (Below w.heap.size w w7) := (hS.out w7 h7.out) |> fun _ => (hK.out w7 (b4.out.trans (h7.out.mono b4.out.size))).1
    have hpr : Hid (∀ V, Wd w.heap.size gd w7 V → ∀ a : Int, Calls Tryz.prog 98 #[.pointer (some ⟨go, 0, none⟩), .int .i64 a] V fun e w' => e = .returned (.int .u64 (O.accB (fun i => O.befI (O.ordL F.steps.length (prs F.steps)) i a) F.steps.length : Int)) ∧ w' = V) := fun V hV a => O.refPreds (mat_win hM (lo := w.heap.size) (x := gd) (by have := hlo.out; have := hg6.out; omega) hg6.out hV) (by omega) (fun a b hab => O.ordL_in (prs_good (by omega) ok.out.st).2 a b hab) a
    have hF7 := hide' (hF3.out.over h7.out)
    have hN0 : Hid (Nq w7 gd F.name (.slice o1 F.steps.length c1) (.slice o2 F.rules.length c2) go none 0 0 (w7.setCell ⟨gd, 3, none⟩ (.pointer (some ⟨go, 0, none⟩)))) := ⟨heap_set_at _ e7, World.ownsRow_nil _ _ _ _, (FrR.refl gd gd _ w7).set 3 _⟩
    have hkd : Hid (∃ cs, w7.heap[gd]? = some (.cells cs 40 (0, 0))) := ⟨_, e7⟩
    have t1 := hide' (hF7.out.t1.down hw2)
    have t2 := hide' (hF7.out.t2.down hw2)
    have m1 := hF7.out.m1
    have m2 := hF7.out.m2
    have c1V : Hid (∀ V, FrR gd gd (.slice none 0 0) w7 V → V.cell? ⟨w.heap.size, 1, none⟩ = some (.slice oa F.steps.length cap)) := fun V hV => by
      have e := (hS.out w7 h7.out).2.1
      have := Z3.out
      exact blk_cell e (hV.blk w.heap.size (cell_lt e) (by omega) (by omega) (fun e => by cases e))
    generalize w7.setCell ⟨gd, 3, none⟩ (.pointer (some ⟨go, 0, none⟩)) = W8 at *
    clear hM hC7 hpa KO KP hS hS2 hG hF7 hF3 hK h6 h7 hb6 hb7 B4 b4 B4d b4d D4 hd0 d7 f7 e7 hgd4
    go_wp2
    go_loopw [8] (fun j wr => ∃ (c : Nat) (o : Option Addr) (k : Nat), c ≤ F.steps.length ∧ j = .int .i64 c ∧ Hid (Nq w7 gd F.name (.slice o1 F.steps.length c1) (.slice o2 F.rules.length c2) go o c k wr)) (fun j _ => ((F.steps.length : Int) - intOf j).toNat)
    case atStart => exact ⟨0, none, 0, Nat.zero_le _, rfl, hN0⟩
    case round =>
      clear hN0
      obtain ⟨c, o, k, hcl, rfl, hN⟩ := hrel
      have k1 := c1V.out wr hN.out.fr
      have hcell : wr.cell? ⟨gd, 4, none⟩ = some (.slice o c k) := by simp [World.cell?, hN.out.ob]
      by_cases hlt : c < F.steps.length
      · have hB7 : w7.heap.size ≤ wr.heap.size := hN.out.fr.size
        go_wp2_with (at_builtin; refine app1L elS rfl (.tmp 41) (.tmp 43) rfl w7.heap.size wr (.slice o c k) c (cellsSS (List.replicate c ⟨0, -1, 0, 0⟩)) (sscells ⟨0, -1, 0, 0⟩) rfl rfl hN.out.st rfl (sscells_one _) hB7 (by omega) ?_; intro g cap9 w9 hown hgr hnw; obtain ⟨⟨d9, f9⟩, hN9⟩ := hN.out.push hg7.out hown hgr; have hN9' := hide' hN9; clear hown hgr hnw hN9)
        exact ⟨⟨c + 1, _, _, by omega, by go_num, hN9'⟩, by simp [intOf]; omega⟩
      · obtain rfl : c = F.steps.length := by omega
        obtain ⟨gt, rfl⟩ : ∃ gt, o = some ⟨gt, 0, none⟩ := by
          rcases hN.out.st.2 with ⟨_, h⟩ | ⟨g, _, _, e, _⟩
          · exact absurd h hn0
          · exact ⟨g, by cases e; rfl⟩
        have hZ : RzAt wr 0 gd gt F.name (.slice o1 F.steps.length c1) (.slice o2 F.rules.length c2) go k (.slice none 0 0) (List.replicate F.steps.length ⟨0, -1, 0, 0⟩) [] false 0 := ⟨by rw [List.length_replicate]; exact hN.out.ob, by rw [List.length_replicate]; exact own_down hN.out.st (Nat.zero_le _), World.ownsRow_nil _ _ _ _⟩
        have KE : Hid (Calls Tryz.prog 85 #[.pointer (some ⟨gd, 0, none⟩), .int .i64 tick, .int .i64 1, .int .i64 (-1), .int .i64 (-1)] wr fun x w' => x = .returned (.tuple #[]) ∧ Hid (QQ (.returned (.tuple #[.pointer (some ⟨gd, 0, none⟩), .int .i64 0])) w')) := (eventD hZ (by simp) (Nat.zero_le _) ⟨tick, 1, -1, -1⟩).mono fun x w' hx => by
          obtain ⟨e1, e2, ev', hD⟩ := Nq.fin hlo.out hg7.out hN.out.st hN.out.fr hb7'.out hpr.out m1 m2 t1.out t2.out hkd.out hx
          exact ⟨e1, hR2.out _ _ _ _ _ _ _ _ _ _ _ ok.out e2 hD⟩
        clear hN hZ hR2 hpr hkd t1 t2 ok hb7' c1V m1 m2
        go_wp2_with (go_at_call 85; refine KE.out.mono ?_; rintro e w9 ⟨rfl, hF9⟩)
        exact hF9.out
  · have hz : (chkF F == 0) = false := by rw [beq_eq_false_iff_ne]; exact h0
    have hF := hide' (hR1.out _ h0 B2.out)
    clear hR1 hR2 hOk h0
    generalize chkF F = z at *
    go_wp2
    exact hF.out
end Go.Proofs.YtahfobbiaimoiaaGreatDoor
namespace Go.Proofs.YtahfobbiaimoiaaGreatDoor
open Go.RowKit
theorem TwP.keptB {B : Nat} {W W' : World} {v : Value} {P : List (Sp × Value)} (h : TwP B W v P) (hk : ∀ k, B ≤ k → k < W.heap.size → W'.heap[k]? = W.heap[k]?) : TwP B W' v P := ⟨own_same h.row fun k hs e => hk k (own_ge' h.row e) hs, fun p hp => own_same (h.inner p hp) fun k hs e => hk k (own_ge' (h.inner p hp) e) hs⟩
theorem TwS.keptB {B : Nat} {W W' : World} {v : Value} {P : List (Rl × Value)} (h : TwS B W v P) (hk : ∀ k, B ≤ k → k < W.heap.size → W'.heap[k]? = W.heap[k]?) : TwS B W' v P := ⟨own_same h.row fun k hs e => hk k (own_ge' h.row e) hs, fun p hp => own_same (h.inner p hp) fun k hs e => hk k (own_ge' (h.inner p hp) e) hs⟩
section
variable {W : World} {B gr gt : Nat} {nm : ByteArray} {sv rv : Value} {go ct : Nat} {lv : Value} {R : Rs}
theorem RnAt.cf (h : RnAt W B gr gt nm sv rv go ct lv R) : W.cell? ⟨gr, 0, none⟩ = some (.string nm) ∧ W.cell? ⟨gr, 1, none⟩ = some sv ∧ W.cell? ⟨gr, 2, none⟩ = some rv := by
  refine ⟨?_, ?_, ?_⟩ <;> simp [World.cell?, h.ob]
set_option maxRecDepth 100000 in
set_option maxHeartbeats 1000000 in
theorem flowF {F : Fw} (h : RnAt W B gr gt F.name sv rv go ct lv R) (hv : ∀ V, Below W.heap.size W V → flV V (.agg #[.string F.name, sv, rv]) F) (hB : FlB F) :
    Calls Tryz.prog 22 #[.pointer (some ⟨gr, 0, none⟩)] W (CopR W F) := by
  have hb0 := (Below.refl _ W).alloc (Nat.le_refl _) (.cells #[.string ⟨#[]⟩, .slice none 0 0, .slice none 0 0] 25)
  obtain ⟨c0, c1, c2⟩ := (h.over hb0).cf
  have KC := hide' (copyOfF F _ _ (hv _ hb0) hB)
  have hQ : Hid (∀ w1 x, CopR (W.alloc (.cells #[.string ⟨#[]⟩, .slice none 0 0, .slice none 0 0] 25)) F x w1 → ∃ o1 n1 k1 o2 n2 k2, x = .returned (.agg #[.string F.name, .slice o1 n1 k1, .slice o2 n2 k2]) ∧ w1.heap[W.heap.size]? = some (.cells #[.string ⟨#[]⟩, .slice none 0 0, .slice none 0 0] 25 (0, 0)) ∧ CopR W F x (((w1.setCell ⟨W.heap.size, 0, none⟩ (.string F.name)).setCell ⟨W.heap.size, 1, none⟩ (.slice o1 n1 k1)).setCell ⟨W.heap.size, 2, none⟩ (.slice o2 n2 k2))) := fun w1 x ⟨s1, r1, P1, P2, e, m1, m2, t1, t2, hb⟩ => by
    obtain ⟨o1, n1, k1, e1⟩ := t1.shp
    obtain ⟨o2, n2, k2, e2⟩ := t2.shp
    subst e1 e2
    have hsz : (W.alloc (.cells #[.string ⟨#[]⟩, .slice none 0 0, .slice none 0 0] 25)).heap.size = W.heap.size + 1 := by simp
    have hkp : ∀ k, W.heap.size + 1 ≤ k → (((w1.setCell ⟨W.heap.size, 0, none⟩ (.string F.name)).setCell ⟨W.heap.size, 1, none⟩ (.slice o1 n1 k1)).setCell ⟨W.heap.size, 2, none⟩ (.slice o2 n2 k2)).heap[k]? = w1.heap[k]? := fun k hk => by
      rw [Below.heap_setCell _ _ _ _ (show k ≠ W.heap.size by omega), Below.heap_setCell _ _ _ _ (show k ≠ W.heap.size by omega), Below.heap_setCell _ _ _ _ (show k ≠ W.heap.size by omega)]
    rw [hsz] at t1 t2 hb
    refine ⟨o1, n1, k1, o2, n2, k2, e, (hb.block W.heap.size (by omega)).trans (heap_alloc_new _ _), _, _, P1, P2, e, m1, m2, (t1.keptB fun k hk _ => hkp k hk).down (by omega), (t2.keptB fun k hk _ => hkp k hk).down (by omega), ?_⟩
    have h1 : Below W.heap.size W w1 := ((Below.refl _ W).alloc (Nat.le_refl _) _).trans (hb.mono (by omega))
    exact ((h1.setCell (p := ⟨W.heap.size, 0, none⟩) (Nat.le_refl _) _).setCell (p := ⟨W.heap.size, 1, none⟩) (Nat.le_refl _) _).setCell (p := ⟨W.heap.size, 2, none⟩) (Nat.le_refl _) _
  clear h hv hB hb0
  go_enter Tryz.func22, Tryz.ntmps22
  go_wp2_with fail
  refine KC.out.mono ?_
  intro x w1 hX
  obtain ⟨o1, n1, k1, o2, n2, k2, rfl, hbk, hF⟩ := hQ.out w1 x hX
  have hF' := hide' hF
  obtain ⟨d0, d1, d2⟩ : w1.cell? ⟨W.heap.size, 0, none⟩ = some (.string ⟨#[]⟩) ∧ w1.cell? ⟨W.heap.size, 1, none⟩ = some (.slice none 0 0) ∧ w1.cell? ⟨W.heap.size, 2, none⟩ = some (.slice none 0 0) := by simp [World.cell?, hbk]
  obtain ⟨f0, f1, f2⟩ : w1.frozen? ⟨W.heap.size, 0, none⟩ = false ∧ w1.frozen? ⟨W.heap.size, 1, none⟩ = false ∧ w1.frozen? ⟨W.heap.size, 2, none⟩ = false := by simp [World.frozen?, hbk]
  have hz : W.heap.size < w1.heap.size := (Array.getElem?_eq_some_iff.1 hbk).1
  have r0 : (((w1.setCell ⟨W.heap.size, 0, none⟩ (.string F.name)).setCell ⟨W.heap.size, 1, none⟩ (.slice o1 n1 k1)).setCell ⟨W.heap.size, 2, none⟩ (.slice o2 n2 k2)).heap[W.heap.size]? = some (.cells #[.string F.name, .slice o1 n1 k1, .slice o2 n2 k2] 25 (0, 0)) := by
    rw [heap_set_at _ (heap_set_at _ (heap_set_at _ hbk))]
    rfl
  clear hQ KC hX hF hbk
  go_wp2
  exact bodyPost_ret (v := .agg #[.string F.name, .slice o1 n1 k1, .slice o2 n2 k2]) (by simp [results, Tryz.results22, go_sem, World.cell?, r0]) rfl hF'.out
theorem take_fill {l : List Int} {n c : Nat} {x : Int} (hl : l.length = n) (hx : l[c]? = some x) : (l.take c ++ List.replicate (n - c) 0).set c x = l.take (c + 1) ++ List.replicate (n - (c + 1)) 0 := by
  subst hl
  have hc := (List.getElem?_eq_some_iff.1 hx).1
  have m1 : min c l.length = c := Nat.min_eq_left (by omega)
  have m2 : min (c + 1) l.length = c + 1 := Nat.min_eq_left (by omega)
  apply List.ext_getElem?
  intro j
  rw [List.getElem?_set, List.getElem?_append, List.getElem?_append, List.getElem?_take, List.getElem?_take]
  simp only [List.length_append, List.length_take, List.length_replicate, List.getElem?_replicate, m1, m2]
  by_cases e : c = j
  · subst e
    rw [if_pos rfl, if_pos (by omega), if_pos (by omega), if_pos (by omega), hx]
  · rw [if_neg e]
    by_cases hj : j < c
    · simp [hj, show j < c + 1 by omega]
    · by_cases h2 : j < l.length
      · simp [hj, show ¬ j < c + 1 by omega, show j - c < l.length - c by omega, show j - (c + 1) < l.length - (c + 1) by omega]
      · simp [hj, show ¬ j < c + 1 by omega, show ¬ j - c < l.length - c by omega, show ¬ j - (c + 1) < l.length - (c + 1) by omega]
theorem cellsI_set (l : List Int) (c : Nat) (x : Int) : (cellsI l).set c (.int .i64 x) = cellsI (l.set c x) := by simp [cellsI, List.map_set]
theorem made1 (m : Nat) : (madeCells #[.int .i64 0] m).toList = cellsI (List.replicate m 0) := by
  apply List.ext_getElem?
  intro i
  simp only [madeCells, Array.toList_map, Array.toList_range, List.getElem?_map, cellsI, List.getElem?_replicate]
  by_cases h : i < m
  · simp [h, Nat.mod_one]
  · simp [h]
theorem makeIR (m : Nat) (hm : m ≤ 200) (W : World) : (Instr.makeSlice 53 (.int .i64 (m : Int)) (.int .i64 (m : Int))).run Tryz.prog W = .ok (.slice (some ⟨W.heap.size, 0, none⟩) m m) (W.alloc (.cells (cellsI (List.replicate m 0)).toArray 3)) := by
  obtain ⟨i, hi, hz, hs, hb⟩ := info_parts info3
  have hr := run_make (P := Tryz.prog) W 53 3 i _ Tryz.underlying53 hi hz .i64 .i64 m m (by omega) (Int.le_refl _) (by rw [hb]; omega) (by omega)
  simp only [Int.toNat_natCast, hs, Nat.mul_one] at hr
  rw [← made1]
  exact hr
set_option maxRecDepth 100000 in
set_option maxHeartbeats 2000000 in
theorem fixedF (h : RnAt W B gr gt nm sv rv go ct lv R) (hn : R.S.length ≤ 200) :
    Calls Tryz.prog 37 #[.pointer (some ⟨gr, 0, none⟩)] W fun e w' => ∃ v', e = .returned v' ∧ w'.ownsRow W.heap.size 3 1 v' R.S.length (cellsI (usL R.S)) ∧ Below W.heap.size W w' := by
  have hA : Hid (∀ V, Below W.heap.size W V → V.cell? ⟨gr, 4, none⟩ = some (.slice (some ⟨gt, 0, none⟩) R.S.length ct) ∧ ∀ i s, R.S[i]? = some s → V.cell? ⟨gt, i * 4, none⟩ = some (.int .i64 s.st) ∧ V.cell? ⟨gt, i * 4 + 1, none⟩ = some (.int .i64 s.us) ∧ V.cell? ⟨gt, i * 4 + 2, none⟩ = some (.int .i64 s.ca) ∧ V.cell? ⟨gt, i * 4 + 3, none⟩ = some (.int .i64 s.da)) := fun V hV => ⟨(h.over hV).c4, fun i s hs => (h.over hV).at hs⟩
  have hcap := h.cap
  clear h
  generalize R.S = S at *
  have hul : (usL S).length = S.length := by simp [usL]
  have hmk := fun V => makeIR S.length hn V
  have c4 := (hA.out W (Below.refl _ _)).1
  have hb0 := (Below.refl _ W).alloc (Nat.le_refl _) (.cells (cellsI (List.replicate S.length 0)).toArray 3)
  have c4' := (hA.out _ hb0).1
  have hst : Hid ((W.alloc (.cells (cellsI (List.replicate S.length 0)).toArray 3)).ownsRow W.heap.size 3 1 (.slice (some ⟨W.heap.size, 0, none⟩) S.length S.length) S.length (cellsI ((usL S).take 0 ++ List.replicate (S.length - 0) 0))) := by
    refine ⟨by simp [cellsI], .inr ⟨W.heap.size, S.length, _, rfl, Nat.le_refl _, heap_new W _, Nat.le_refl _, by unfold maxLen; omega, by simp [cellsI], ?_⟩⟩
    simp [cellsI]
  have hb0' := hide' hb0
  clear hb0
  go_enter Tryz.func37, Tryz.ntmps37
  go_wp2
  generalize W.alloc (.cells (cellsI (List.replicate S.length 0)).toArray 3) = W1 at *
  clear hmk c4
  go_loopw [17] (fun j wr => ∃ (c : Nat), c ≤ S.length ∧ j = .int .i64 c ∧ Hid (wr.ownsRow W.heap.size 3 1 (.slice (some ⟨W.heap.size, 0, none⟩) S.length S.length) S.length (cellsI ((usL S).take c ++ List.replicate (S.length - c) 0))) ∧ Hid (Below W.heap.size W wr)) (fun j _ => ((S.length : Int) - intOf j).toNat)
  case atStart => exact ⟨0, Nat.zero_le _, rfl, hst, hb0'⟩
  case round =>
    clear hst hb0' c4'
    obtain ⟨c, hcl, rfl, hO, hB⟩ := hrel
    obtain ⟨c4, hat⟩ := hA.out wr hB.out
    by_cases hlt : c < S.length
    · obtain ⟨s, hx⟩ : ∃ x, S[c]? = some x := ⟨_, List.getElem?_eq_getElem hlt⟩
      obtain ⟨a0, a1, a2, a3⟩ := hat c s hx
      have hux : (usL S)[c]? = some s.us := by simp [usL, hx]
      have hq := hide' (take_fill hul hux)
      have hz : W.heap.size < wr.heap.size := own_lt' hO.out rfl
      have hcell : wr.cell? ⟨W.heap.size, c, none⟩ = some (.int .i64 0) := by
        have := hO.out.cellAt c (by omega)
        rw [cellsI, List.getElem?_map, List.getElem?_append_right (by rw [List.length_take]; omega), List.length_take, hul, Nat.min_eq_left hcl, Nat.sub_self, List.getElem?_replicate, if_pos (by omega)] at this
        exact this
      have hfz : wr.frozen? ⟨W.heap.size, c, none⟩ = false := hO.out.frozenAt c
      have hO2 : Hid (((wr.setCell ⟨W.heap.size, c, none⟩ (.int .i64 s.us)).alloc (.cells #[.int .i64 s.st, .int .i64 s.us, .int .i64 s.ca, .int .i64 s.da] 42)).ownsRow W.heap.size 3 1 (.slice (some ⟨W.heap.size, 0, none⟩) S.length S.length) S.length (cellsI ((usL S).take (c + 1) ++ List.replicate (S.length - (c + 1)) 0))) := by
        show World.ownsRow _ _ _ _ _ _ _
        rw [← hq.out, ← cellsI_set]
        exact (own_setcell hO.out c _).alloc _
      have hB2 : Hid (Below W.heap.size W ((wr.setCell ⟨W.heap.size, c, none⟩ (.int .i64 s.us)).alloc (.cells #[.int .i64 s.st, .int .i64 s.us, .int .i64 s.ca, .int .i64 s.da] 42))) := (hB.out.setCell (p := ⟨W.heap.size, c, none⟩) (Nat.le_refl _) _).alloc (by simpa using hB.out.size) _
      clear hat hx hux hq hO hB hA
      generalize s.st = t0 at *
      generalize s.us = t1 at *
      generalize s.ca = t2 at *
      generalize s.da = t3 at *
      go_wp2
      exact ⟨⟨c + 1, by omega, by go_num, hO2, hB2⟩, by simp [intOf]; omega⟩
    · obtain rfl : c = S.length := by omega
      rw [Nat.sub_self, List.replicate_zero, List.append_nil, List.take_of_length_le (by omega)] at hO
      clear hat hA
      go_wp2
      go_ret
      exact ⟨_, rfl, hO.out, hB.out⟩
end
set_option maxRecDepth 100000 in
set_option maxHeartbeats 4000000 in
/-- Two like flows. -/
theorem keepFlowF (F : Fw) (va vb : Value) (w : World) (ha : flV w va F) (hb : flV w vb F) (hs : F.steps.length ≤ 1000) (hst : ∀ s ∈ F.steps, s.after.length ≤ 1000) (hl : F.rules.length ≤ 1000) (hm : ∀ r ∈ F.rules, r.steps.length ≤ 1000) :
    Calls Tryz.prog 21 #[va, vb] w fun e w' => e = .returned (.bool true) ∧ Below w.heap.size w w' := by
  obtain ⟨sa, ra, rfl, h1, h2⟩ := ha
  obtain ⟨sb, rb, rfl, h3, h4⟩ := hb
  obtain ⟨oa, ca, rfl, _, hca⟩ := h1
  obtain ⟨ob, cb, rfl, _, hcb⟩ := h3
  obtain ⟨oa2, ca2, rfl, _, _⟩ := id h2
  obtain ⟨ob2, cb2, rfl, _, _⟩ := id h4
  have KR : Hid (∀ W, Below w.heap.size w W → Calls Tryz.prog 59 #[.slice oa2 F.rules.length ca2, .slice ob2 F.rules.length cb2] W fun e w' => e = .returned (.bool true) ∧ Below W.heap.size W w') := fun W hW => keepRules F.rules _ _ W (h2.below hW (Nat.le_refl _)) (h4.below hW (Nat.le_refl _)) hl hm
  have hB2 : Hid (Below w.heap.size w ((w.alloc (.cells #[.string F.name, .slice oa F.steps.length ca, .slice oa2 F.rules.length ca2] 25)).alloc (.cells #[.string F.name, .slice ob F.steps.length cb, .slice ob2 F.rules.length cb2] 25))) := ((Below.refl _ w).alloc (Nat.le_refl _) _).alloc (by simp) _
  have hbx : Hid (∀ V, Below (w.heap.size + 2) ((w.alloc (.cells #[.string F.name, .slice oa F.steps.length ca, .slice oa2 F.rules.length ca2] 25)).alloc (.cells #[.string F.name, .slice ob F.steps.length cb, .slice ob2 F.rules.length cb2] 25)) V → V.cell? ⟨w.heap.size, 1, none⟩ = some (.slice oa F.steps.length ca) ∧ V.cell? ⟨w.heap.size + 1, 1, none⟩ = some (.slice ob F.steps.length cb)) := fun V hV => by
    have e1 := hV.block w.heap.size (by omega)
    have e2 := hV.block (w.heap.size + 1) (by omega)
    have d2 := heap_alloc_new (w.alloc (.cells #[.string F.name, .slice oa F.steps.length ca, .slice oa2 F.rules.length ca2] 25)) (.cells #[.string F.name, .slice ob F.steps.length cb, .slice ob2 F.rules.length cb2] 25)
    have d1 := heap_alloc_new w (.cells #[.string F.name, .slice oa F.steps.length ca, .slice oa2 F.rules.length ca2] 25)
    have d1' := (((Below.refl _ (w.alloc (.cells #[.string F.name, .slice oa F.steps.length ca, .slice oa2 F.rules.length ca2] 25))).alloc (Nat.le_refl _) (.cells #[.string F.name, .slice ob F.steps.length cb, .slice ob2 F.rules.length cb2] 25)).block w.heap.size (by simp)).trans d1
    rw [World.size_alloc] at d2
    rw [d1'] at e1
    rw [d2] at e2
    simp [World.cell?, e1, e2]
  have hca' := hide' hca
  have hcb' := hide' hcb
  have hst' := hide' hst
  clear hca hcb h2 h4 hst hm hl
  generalize F.name = nm at *
  generalize F.rules.length = nr at *
  generalize F.steps = L at *
  go_enter Tryz.func21, Tryz.ntmps21
  go_wp2_with (go_at_call 59; refine (KR.out _ hB2.out).mono ?_; rintro e w1 ⟨rfl, hb1⟩)
  have hb2 : Hid (Below (w.heap.size + 2) ((w.alloc (.cells #[.string nm, .slice oa L.length ca, .slice oa2 nr ca2] 25)).alloc (.cells #[.string nm, .slice ob L.length cb, .slice ob2 nr cb2] 25)) w1) := hb1.mono (by simp only [World.size_alloc]; omega)
  have hB1 : Hid (Below w.heap.size w w1) := hB2.out.trans (hb1.mono hB2.out.size)
  clear KR hB2 hb1
  generalize ((w.alloc (.cells #[.string nm, .slice oa L.length ca, .slice oa2 nr ca2] 25)).alloc (.cells #[.string nm, .slice ob L.length cb, .slice ob2 nr cb2] 25)) = W2 at *
  have hz1 : Hid (w.heap.size + 2 ≤ w1.heap.size) := by
    have e2 := (hbx.out w1 hb2.out).2
    have := cell_lt e2
    exact this
  go_loopw [5] (fun k wr => ∃ c : Nat, c ≤ L.length ∧ k = .int .i64 c ∧ Hid (Below w.heap.size w wr) ∧ Hid (Below (w.heap.size + 2) W2 wr ∧ w.heap.size + 2 ≤ wr.heap.size)) (fun k _ => ((L.length : Int) - intOf k).toNat)
  case atStart => exact ⟨0, Nat.zero_le _, rfl, hB1, hb2.out, hz1.out⟩
  case round =>
    clear hB1 hb2 hz1
    obtain ⟨c, hcl, rfl, hB, h2⟩ := hrel
    obtain ⟨x0, y0⟩ := hbx.out wr h2.out.1
    by_cases hlt : c < L.length
    · obtain ⟨s, hx⟩ : ∃ x, L[c]? = some x := ⟨_, List.getElem?_eq_getElem hlt⟩
      obtain ⟨g, o, sva, rfl, a0, a1, a2, ra⟩ := hca'.out c s hx
      obtain ⟨g', o', svb, rfl, b0, b1, b2, rb⟩ := hcb'.out c s hx
      have hlen := hst'.out s (List.mem_of_getElem? hx)
      have KI : Hid (∀ V, Below wr.heap.size wr V → Calls Tryz.prog 27 #[sva, svb] V fun e w' => e = .returned (.bool true) ∧ Below V.heap.size V w') := fun V hV => by
        have := keepInts s.after s.after sva svb V ((ra.below hB.out (Nat.le_refl _)).below hV (Nat.le_refl _)) ((rb.below hB.out (Nat.le_refl _)).below hV (Nat.le_refl _)) (by omega) (by omega)
        simpa using this
      have hC : Hid (∀ V, Below wr.heap.size wr V → V.cell? ⟨w.heap.size, 1, none⟩ = some (.slice (some ⟨g, o, none⟩) L.length ca) ∧ V.cell? ⟨w.heap.size + 1, 1, none⟩ = some (.slice (some ⟨g', o', none⟩) L.length cb) ∧ V.cell? ⟨g, o + c * 3, none⟩ = some (.string s.name) ∧ V.cell? ⟨g, o + c * 3 + 1, none⟩ = some (.string s.duty) ∧ V.cell? ⟨g, o + c * 3 + 2, none⟩ = some sva ∧ V.cell? ⟨g', o' + c * 3, none⟩ = some (.string s.name) ∧ V.cell? ⟨g', o' + c * 3 + 1, none⟩ = some (.string s.duty) ∧ V.cell? ⟨g', o' + c * 3 + 2, none⟩ = some svb) := fun V hV => ⟨cell_ovN x0 hV, cell_ovN y0 hV, cell_ovN (cell_ovN a0 hB.out) hV, cell_ovN (cell_ovN a1 hB.out) hV, cell_ovN (cell_ovN a2 hB.out) hV, cell_ovN (cell_ovN b0 hB.out) hV, cell_ovN (cell_ovN b1 hB.out) hV, cell_ovN (cell_ovN b2 hB.out) hV⟩
      have hE : Hid (∀ V, Below wr.heap.size wr V → (∃ c' : Nat, c' ≤ L.length ∧ (Value.int .i64 ((c : Int) + 1)) = .int .i64 c' ∧ Hid (Below w.heap.size w V) ∧ Hid (Below (w.heap.size + 2) W2 V ∧ w.heap.size + 2 ≤ V.heap.size))) := fun V hV => ⟨c + 1, by omega, by go_num, hB.out.trans (hV.mono hB.out.size), h2.out.1.trans (hV.mono h2.out.2), Nat.le_trans h2.out.2 hV.size⟩
      obtain ⟨os, cs, rfl, _, _⟩ := ra
      obtain ⟨os', cs', rfl, _, _⟩ := rb
      clear hca' hcb' hx a0 a1 a2 b0 b1 b2 hst' hbx hB h2
      generalize s.name = sn at *
      generalize s.duty = sd at *
      generalize s.after.length = q at *
      go_wp2_with fail
      go_region_held3 (fun V => V.cell? ⟨w.heap.size, 1, none⟩ = some (.slice (some ⟨g, o, none⟩) L.length ca) ∧ V.cell? ⟨w.heap.size + 1, 1, none⟩ = some (.slice (some ⟨g', o', none⟩) L.length cb) ∧ V.cell? ⟨g, o + c * 3, none⟩ = some (.string sn) ∧ V.cell? ⟨g, o + c * 3 + 1, none⟩ = some (.string sd) ∧ V.cell? ⟨g, o + c * 3 + 2, none⟩ = some (.slice os q cs) ∧ V.cell? ⟨g', o' + c * 3, none⟩ = some (.string sn) ∧ V.cell? ⟨g', o' + c * 3 + 1, none⟩ = some (.string sd) ∧ V.cell? ⟨g', o' + c * 3 + 2, none⟩ = some (.slice os' q cs')) (first | (refine hC.out _ ?_; repeat' (first | exact Below.refl _ _ | refine Below.drew ?_ | refine Below.alloc ?_ ?_ _ | refine Below.setCell ?_ ?_ _ | (simp; done) | (simp; omega)))) (first | fail)
      all_goals
        go_wp2_with (go_at_call 27; refine (KI.out _ (by repeat' (first | exact Below.refl _ _ | refine Below.drew ?_ | refine Below.alloc ?_ ?_ _ | refine Below.setCell ?_ ?_ _ | (simp; done) | (simp; omega)))).mono ?_; rintro e w9 ⟨rfl, hb9⟩)
        exact ⟨hE.out _ (Below.trans (by repeat' (first | exact Below.refl _ _ | refine Below.drew ?_ | refine Below.alloc ?_ ?_ _ | refine Below.setCell ?_ ?_ _ | (simp; done) | (simp; omega))) (hb9.mono (by simp; omega))), by simp [intOf]; omega⟩
    · obtain rfl : c = L.length := by omega
      clear hca' hcb'
      go_wp2
      go_ret
      exact ⟨rfl, hB.out⟩
end Go.Proofs.YtahfobbiaimoiaaGreatDoor
namespace Go.Proofs.YtahfobbiaimoiaaGreatDoor
open Go.RowKit
theorem RnAt.down {W : World} {B C gr gt : Nat} {nm : ByteArray} {sv rv : Value} {go ct : Nat} {lv : Value} {R : Rs} (h : RnAt W B gr gt nm sv rv go ct lv R) (hc : C ≤ B) : RnAt W C gr gt nm sv rv go ct lv R := ⟨h.ob, own_down h.st hc, own_down h.lg hc⟩
/-- The program's run with what it reads. -/
structure Pr (lo : Nat) (V0 : World) (F : Fw) (gr gt : Nat) (sv rv : Value) (go gp gs ct : Nat) (Pf Sf : Nat → Nat) (P1 : List (Sp × Value)) (P2 : List (Rl × Value)) (lv : Value) (R : Rs) (W : World) : Prop where
  run : RnAt W 0 gr gt F.name sv rv go ct lv R
  og : lo ≤ go ∧ lo ≤ gp ∧ lo ≤ gs
  ord : O.OrdAt V0 go gp gs F.steps.length Pf Sf
  wrd : O.Ord F.steps.length (O.ordL F.steps.length (prs F.steps)) Pf Sf
  len : R.S.length = F.steps.length
  m1 : P1.map Prod.fst = F.steps
  m2 : P2.map Prod.fst = F.rules
  t1 : TwP lo V0 sv P1
  t2 : TwS lo V0 rv P2
  win : Wd lo gr V0 W
  hi : V0.heap.size ≤ W.heap.size
  ger : V0.heap.size ≤ gr
  get : V0.heap.size ≤ gt
  gel : ∀ g, lv.ownBlock = some g → V0.heap.size ≤ g
theorem cell_win {lo x : Nat} {V W : World} {b i : Nat} {v : Value} (hW : Wd lo x V W) (h : V.cell? ⟨b, i, none⟩ = some v) (h1 : lo ≤ b) (h2 : b ≠ x) : W.cell? ⟨b, i, none⟩ = some v := blk_cell h (hW b h1 (cell_lt h) h2)
theorem Pr.ordW {lo : Nat} {V0 : World} {F : Fw} {gr gt : Nat} {sv rv : Value} {go gp gs ct : Nat} {Pf Sf : Nat → Nat} {P1 : List (Sp × Value)} {P2 : List (Rl × Value)} {lv : Value} {R : Rs} {W : World} (h : Pr lo V0 F gr gt sv rv go gp gs ct Pf Sf P1 P2 lv R W) : O.OrdAt W go gp gs R.S.length Pf Sf := by
  have hg := h.ger
  have e : ∀ b i v, lo ≤ b → V0.cell? ⟨b, i, none⟩ = some v → W.cell? ⟨b, i, none⟩ = some v := fun b i v hb hc => cell_win h.win hc hb (by have := cell_lt hc; omega)
  rw [h.len]
  exact ⟨e _ _ _ h.og.1 h.ord.o0, e _ _ _ h.og.1 h.ord.o1, fun i hi => e _ _ _ h.og.2.1 (h.ord.pc i hi), fun i hi => e _ _ _ h.og.2.2 (h.ord.sc i hi)⟩
/-- What a side is made of. -/
structure SdK where
  F : Fw
  lo : Nat
  V0 : World
  gr : Nat
  gt : Nat
  sv : Value
  rv : Value
  go : Nat
  gp : Nat
  gs : Nat
  ct : Nat
  Pf : Nat → Nat
  Sf : Nat → Nat
  P1 : List (Sp × Value)
  P2 : List (Rl × Value)
  lo1 : Nat
  V1 : World
  gd : Nat
  hd : Nat
  sv1 : Value
  rv1 : Value
  go1 : Nat
  ct1 : Nat
  Q1 : List (Sp × Value)
  Q2 : List (Rl × Value)
def SdK.P (k : SdK) (lv : Value) (R : Rs) (W : World) : Prop := Pr k.lo k.V0 k.F k.gr k.gt k.sv k.rv k.go k.gp k.gs k.ct k.Pf k.Sf k.P1 k.P2 lv R W
def SdK.D (k : SdK) (ev : Value) (R : Rs) (W : World) : Prop := Dc k.lo1 k.V1 k.F k.gd k.hd k.sv1 k.rv1 k.go1 k.ct1 k.Q1 k.Q2 ev R W
/-- What is written, and what is read or written. -/
def SdK.wp (k : SdK) (lv : Value) (b : Nat) : Prop := b = k.gr ∨ b = k.gt ∨ lv.ownBlock = some b
def SdK.wd (k : SdK) (ev : Value) (b : Nat) : Prop := b = k.gd ∨ b = k.hd ∨ ev.ownBlock = some b
def SdK.fp (k : SdK) (lv : Value) (b : Nat) : Prop := k.wp lv b ∨ (k.lo ≤ b ∧ b < k.V0.heap.size)
def SdK.fd (k : SdK) (ev : Value) (b : Nat) : Prop := k.wd ev b ∨ (k.lo1 ≤ b ∧ b < k.V1.heap.size)
def SdK.wr (k : SdK) (lv ev : Value) (b : Nat) : Prop := k.wp lv b ∨ k.wd ev b
def SdK.ft (k : SdK) (lv ev : Value) (b : Nat) : Prop := k.fp lv b ∨ k.fd ev b
/-- A frame: but for these blocks all is as it was. -/
structure Zf (f : Nat → Prop) (W W' : World) : Prop where
  os : W'.os = W.os
  tape : W'.tape = W.tape
  output : W'.output = W.output
  size : W.heap.size ≤ W'.heap.size
  blk : ∀ k, k < W.heap.size → ¬ f k → W'.heap[k]? = W.heap[k]?
theorem Zf.of_below {f : Nat → Prop} {W W' : World} (h : Below W.heap.size W W') : Zf f W W' := ⟨h.os, h.tape, h.output, h.size, fun k hk _ => h.block k hk⟩
theorem Zf.refl (f : Nat → Prop) (W : World) : Zf f W W := .of_below (Below.refl _ _)
theorem Zf.mono {f g : Nat → Prop} {W W' : World} (h : Zf f W W') (k : ∀ b, b < W.heap.size → f b → g b) : Zf g W W' := ⟨h.os, h.tape, h.output, h.size, fun b hb hn => h.blk b hb fun e => hn (k b hb e)⟩
/-- What may be written later was so ahead, or is new. -/
def Nf (n : Nat) (f g : Nat → Prop) : Prop := ∀ b, g b → f b ∨ n ≤ b
theorem Nf.refl (n : Nat) (f : Nat → Prop) : Nf n f f := fun _ h => .inl h
theorem Zf.trans {f g : Nat → Prop} {W W1 W2 : World} (h : Zf f W W1) (k : Zf g W1 W2) (n : Nf W.heap.size f g) : Zf f W W2 :=
  ⟨k.os.trans h.os, k.tape.trans h.tape, k.output.trans h.output, Nat.le_trans h.size k.size, fun b hb hn => (k.blk b (Nat.lt_of_lt_of_le hb h.size) fun e => by
    rcases n b e with e1 | e1
    · exact hn e1
    · omega).trans (h.blk b hb hn)⟩
theorem Nf.trans {n m : Nat} {a b c : Nat → Prop} (h : Nf n a b) (k : Nf m b c) (hm : n ≤ m) : Nf n a c := fun x hx => by
  rcases k x hx with e | e
  · exact h x e
  · exact .inr (by omega)
theorem Zf.toBelow {f : Nat → Prop} {B : Nat} {W W' : World} (h : Zf f W W') (hB : B ≤ W.heap.size) (hf : ∀ b, f b → B ≤ b) : Below B W W' := ⟨h.os, h.tape, h.output, h.size, fun b hb => h.blk b (by omega) fun e => by have := hf b e; omega⟩
theorem FrR.zf {gr gt : Nat} {lv : Value} {W W' : World} (h : FrR gr gt lv W W') : Zf (fun b => b = gr ∨ b = gt ∨ lv.ownBlock = some b) W W' := ⟨h.os, h.tape, h.output, h.size, fun b hb hn => h.blk b hb (fun e => hn (.inl e)) (fun e => hn (.inr (.inl e))) (fun e => hn (.inr (.inr e)))⟩
section
variable {k : SdK} {lv ev : Value} {R Rd : Rs} {W W' : World}
theorem SdK.P.lt (h : k.P lv R W) : ∀ b, k.fp lv b → b < W.heap.size := by
  rintro b ((rfl | rfl | e) | ⟨_, e⟩)
  · exact h.run.lt
  · exact h.run.gt_lt
  · exact own_lt' h.run.lg e
  · exact Nat.lt_of_lt_of_le e h.hi
theorem SdK.D.lt (h : k.D ev R W) : ∀ b, k.fd ev b → b < W.heap.size := by
  obtain ⟨sk, en, h1, _⟩ := h.at'
  rintro b ((rfl | rfl | e) | ⟨_, e⟩)
  · exact h1.lt
  · exact h1.gt_lt
  · exact own_lt' h1.lg e
  · exact Nat.lt_of_lt_of_le e h.hi
theorem SdK.P.kept (h : k.P lv R W) (hz : W.heap.size ≤ W'.heap.size) (hk : ∀ b, b < W.heap.size → k.fp lv b → W'.heap[b]? = W.heap[b]?) : k.P lv R W' :=
  { h with
    run := h.run.kept fun b hb e => hk b hb (.inl e)
    win := h.win.trans h.hi fun b h1 h2 _ => hk b (Nat.lt_of_lt_of_le h2 h.hi) (.inr ⟨h1, h2⟩)
    hi := Nat.le_trans h.hi hz }
theorem SdK.D.kept (h : k.D ev R W) (hz : W.heap.size ≤ W'.heap.size) (hk : ∀ b, b < W.heap.size → k.fd ev b → W'.heap[b]? = W.heap[b]?) : k.D ev R W' := by
  obtain ⟨sk, en, h1, h2⟩ := h.at'
  exact { h with
    at' := ⟨sk, en, h1.kept fun b hb e => hk b hb (.inl e), h2⟩
    win := h.win.trans h.hi fun b h1 h2 _ => hk b (Nat.lt_of_lt_of_le h2 h.hi) (.inr ⟨h1, h2⟩)
    hi := Nat.le_trans h.hi hz }
/-- A call of the program's run. -/
theorem SdK.P.op {v : Value} {R' : Rs} {e : Ending} (h : k.P lv R W) (ho : OpR W 0 k.gr k.gt k.F.name k.sv k.rv k.go k.ct lv v R' e W') (hl : R'.S.length = R.S.length) : e = .returned v ∧ ∃ lv', k.P lv' R' W' ∧ Zf (k.wp lv) W W' ∧ Nf W.heap.size (k.wp lv) (k.wp lv') := by
  obtain ⟨rfl, lv', h1, h2, h3⟩ := ho
  have hg := h.ger
  have ht := h.get
  have hz := h.hi
  have nf : ∀ g, lv'.ownBlock = some g → k.V0.heap.size ≤ g := fun g hg => by
    rcases h3 g hg with e | e
    · exact h.gel g e
    · exact Nat.le_trans h.hi e
  refine ⟨rfl, lv', { h with run := h1, len := hl.trans h.len, win := h.win.trans h.hi fun b h5 h6 h7 => h2.blk b (by omega) h7 (by omega) (fun e => by have := h.gel b e; omega), hi := Nat.le_trans h.hi h2.size, gel := nf }, h2.zf, fun b hb => ?_⟩
  rcases hb with e | e | e
  · exact .inl (.inl e)
  · exact .inl (.inr (.inl e))
  · rcases h3 b e with e | e
    · exact .inl (.inr (.inr e))
    · exact .inr e
/-- A call of the document's run. -/
theorem SdK.D.op {v : Value} {R' : Rs} {e : Ending} (h : k.D ev R W) (ho : OpZ W 0 k.gd k.hd k.F.name k.sv1 k.rv1 k.go1 k.ct1 ev v R' e W') (hl : R'.S.length = R.S.length) : e = .returned v ∧ ∃ ev', k.D ev' R' W' ∧ Zf (k.wd ev) W W' ∧ Nf W.heap.size (k.wd ev) (k.wd ev') := by
  obtain ⟨rfl, ev', sk, en, h1, hs, h2, h3⟩ := ho
  have ht := h.gt
  have hz := h.hi
  refine ⟨rfl, ev', { h with at' := ⟨sk, en, h1, hs⟩, len := hl.trans h.len, win := h.win.trans h.hi fun b h5 h6 h7 => h2.blk b (by omega) h7 (by omega) (fun e => by have := h.ge b e; omega), hi := Nat.le_trans h.hi h2.size, ge := fun g hg => ?_ }, h2.zf, fun b hb => ?_⟩
  · rcases h3 g hg with e | e
    · exact h.ge g e
    · exact Nat.le_trans h.hi e
  · rcases hb with e | e | e
    · exact .inl (.inl e)
    · exact .inl (.inr (.inl e))
    · rcases h3 b e with e | e
      · exact .inl (.inr (.inr e))
      · exact .inr e
end
/-- Both: the program's stands at R, the document's at Rd. -/
structure Sd (k : SdK) (lv ev : Value) (R Rd : Rs) (W : World) : Prop where
  p : k.P lv R W
  d : k.D ev Rd W
  x1 : ∀ b, k.wp lv b → ¬ k.fd ev b
  x2 : ∀ b, k.wd ev b → ¬ k.fp lv b
section
variable {k : SdK} {lv ev : Value} {R Rd : Rs} {W W' : World}
theorem Sd.lt (h : Sd k lv ev R Rd W) : ∀ b, k.ft lv ev b → b < W.heap.size := by
  rintro b (e | e)
  · exact h.p.lt b e
  · exact h.d.lt b e
theorem wr_ft {b : Nat} (h : k.wr lv ev b) : k.ft lv ev b := by
  rcases h with e | e
  · exact .inl (.inl e)
  · exact .inr (.inl e)
theorem Sd.kept (h : Sd k lv ev R Rd W) (hz : W.heap.size ≤ W'.heap.size) (hk : ∀ b, b < W.heap.size → k.ft lv ev b → W'.heap[b]? = W.heap[b]?) : Sd k lv ev R Rd W' :=
  ⟨h.p.kept hz fun b hb e => hk b hb (.inl e), h.d.kept hz fun b hb e => hk b hb (.inr e), h.x1, h.x2⟩
theorem Sd.over (h : Sd k lv ev R Rd W) (hb : Below W.heap.size W W') : Sd k lv ev R Rd W' := h.kept hb.size fun b hb' _ => hb.block b hb'
theorem Sd.opP {v : Value} {R' : Rs} {e : Ending} (h : Sd k lv ev R Rd W) (ho : OpR W 0 k.gr k.gt k.F.name k.sv k.rv k.go k.ct lv v R' e W') (hl : R'.S.length = R.S.length) : e = .returned v ∧ ∃ lv', Sd k lv' ev R' Rd W' ∧ Zf (k.wr lv ev) W W' ∧ Nf W.heap.size (k.wr lv ev) (k.wr lv' ev) := by
  obtain ⟨he, lv', h1, h2, h3⟩ := h.p.op ho hl
  refine ⟨he, lv', ⟨h1, h.d.kept h2.size fun b hb hf => h2.blk b hb fun e => h.x1 b e hf, fun b hb hf => ?_, fun b hb hf => ?_⟩, h2.mono fun b _ e => .inl e, fun b hb => ?_⟩
  · rcases h3 b hb with e | e
    · exact h.x1 b e hf
    · have := h.d.lt b hf; omega
  · rcases hf with hf | hf
    · rcases h3 b hf with e | e
      · exact h.x1 b e (.inl hb)
      · have := h.d.lt b (.inl hb); omega
    · exact h.x2 b hb (.inr hf)
  · rcases hb with e | e
    · rcases h3 b e with e | e
      · exact .inl (.inl e)
      · exact .inr e
    · exact .inl (.inr e)
theorem Sd.opD {v : Value} {R' : Rs} {e : Ending} (h : Sd k lv ev R Rd W) (ho : OpZ W 0 k.gd k.hd k.F.name k.sv1 k.rv1 k.go1 k.ct1 ev v R' e W') (hl : R'.S.length = Rd.S.length) : e = .returned v ∧ ∃ ev', Sd k lv ev' R R' W' ∧ Zf (k.wr lv ev) W W' ∧ Nf W.heap.size (k.wr lv ev) (k.wr lv ev') := by
  obtain ⟨he, ev', h1, h2, h3⟩ := h.d.op ho hl
  refine ⟨he, ev', ⟨h.p.kept h2.size fun b hb hf => h2.blk b hb fun e => h.x2 b e hf, h1, fun b hb hf => ?_, fun b hb hf => ?_⟩, h2.mono fun b _ e => .inr e, fun b hb => ?_⟩
  · rcases hf with hf | hf
    · rcases h3 b hf with e | e
      · exact h.x2 b e (.inl hb)
      · have := h.p.lt b (.inl hb); omega
    · exact h.x1 b hb (.inr hf)
  · rcases h3 b hb with e | e
    · exact h.x2 b e hf
    · have := h.p.lt b hf; omega
  · rcases hb with e | e
    · exact .inl (.inl e)
    · rcases h3 b e with e | e
      · exact .inl (.inr e)
      · exact .inr e
end
end Go.Proofs.YtahfobbiaimoiaaGreatDoor
namespace Go.Proofs.YtahfobbiaimoiaaGreatDoor
open Go.RowKit
section
variable {k : SdK} {ev : Value} {R : Rs} {W W' : World} {n : Nat}
/-- What a call of the document's run leaves. -/
def StE (k : SdK) (ev : Value) (W : World) (v : Value) (R' : Rs) (e : Ending) (w' : World) : Prop := e = .returned v ∧ ∃ ev', k.D ev' R' w' ∧ Zf (k.wd ev) W w' ∧ Nf W.heap.size (k.wd ev) (k.wd ev')
theorem SdK.D.prdN (h : k.D ev R W) (hO : O.Ord k.F.steps.length (O.ordL k.F.steps.length (prs k.F.steps)) k.Pf k.Sf) : ∀ a : Nat, a < R.S.length → Calls Tryz.prog 98 #[.pointer (some ⟨k.go1, 0, none⟩), .int .i64 (a : Int)] W fun e w' => e = .returned (.int .u64 (k.Pf a : Int)) ∧ w' = W := fun a ha => by
  have := h.prd W h.win (a : Int)
  rwa [(hO.preN (by rw [← h.len]; exact ha)).1] at this
theorem SdK.D.n64 (h : k.D ev R W) (hO : O.Ord k.F.steps.length (O.ordL k.F.steps.length (prs k.F.steps)) k.Pf k.Sf) : R.S.length ≤ 64 := by rw [h.len]; exact hO.n64
theorem claimE (h : k.D ev R W) (hO : O.Ord k.F.steps.length (O.ordL k.F.steps.length (prs k.F.steps)) k.Pf k.Sf) (hl : R.log.length ≤ 90000) (step user tick : Int) : Calls Tryz.prog 86 #[.pointer (some ⟨k.gd, 0, none⟩), .int .i64 step, .int .i64 user, .int .i64 tick] W (StE k ev W (.int .i64 (canC k.Pf R step)) (clmR k.Pf R step user tick)) := by
  obtain ⟨sk, en, h1, h2⟩ := h.at'
  exact (claimD h1 h2 (h.n64 hO) (h.prdN hO) (fun a ha => hO.pre_lt (by rw [← h.len]; exact ha)) (by omega) (Nat.zero_le _) step user tick).mono fun _ _ ho => h.op ho (clmR_len _ _ _ _ _)
theorem doneE (h : k.D ev R W) (hO : O.Ord k.F.steps.length (O.ordL k.F.steps.length (prs k.F.steps)) k.Pf k.Sf) (ok : RsOk n R) (hl : R.log.length ≤ 90000) (step user tick : Int) : Calls Tryz.prog 87 #[.pointer (some ⟨k.gd, 0, none⟩), .int .i64 step, .int .i64 user, .int .i64 tick] W (StE k ev W (.int .i64 (canD R step user)) (donR R step user tick)) := by
  obtain ⟨sk, en, h1, h2⟩ := h.at'
  exact (doneD h1 h2 (h.n64 hO) ok.st hl (Nat.zero_le _) step user tick).mono fun _ _ ho => h.op ho (donR_len _ _ _ _)
theorem abortE (h : k.D ev R W) (hl : R.log.length ≤ 90000) (tick : Int) : Calls Tryz.prog 88 #[.pointer (some ⟨k.gd, 0, none⟩), .int .i64 tick] W (StE k ev W (.int .i64 (if endd R = true then 30 else 0)) (aboR R tick)) := by
  obtain ⟨sk, en, h1, h2⟩ := h.at'
  exact (abortD h1 h2 hl (Nat.zero_le _) tick).mono fun _ _ ho => h.op ho (aboR_len _ _)
theorem markE (h : k.D ev R W) (hl : R.log.length ≤ 90000) (b : Bool) (tick : Int) : Calls Tryz.prog 89 #[.pointer (some ⟨k.gd, 0, none⟩), .bool b, .int .i64 tick] W (StE k ev W (.bool (mrkB R b)) (mrkR R b tick)) := by
  obtain ⟨sk, en, h1, h2⟩ := h.at'
  exact (markD h1 h2 hl (Nat.zero_le _) b tick).mono fun _ _ ho => h.op ho (mrkR_len _ _ _)
/-- The row of events of the document's run. -/
theorem SdK.D.evs (h : k.D ev R W) : W.cell? ⟨k.gd, 5, none⟩ = some ev ∧ EvQ W ev R.log := by
  obtain ⟨sk, en, h1, h2⟩ := h.at'
  exact ⟨h1.cs.2.2.1, .of_owns h1.lg⟩
theorem SdK.D.over (h : k.D ev R W) (hb : Below W.heap.size W W') : k.D ev R W' := h.kept hb.size fun b hb' _ => hb.block b hb'
set_option maxRecDepth 100000 in
set_option maxHeartbeats 4000000 in
theorem againD (h : k.D ev R W) (ok : RsOk n R) (hO : O.Ord k.F.steps.length (O.ordL k.F.steps.length (prs k.F.steps)) k.Pf k.Sf) (hl : R.log.length ≤ 80000) (e : Ev) :
    Calls Tryz.prog 52 #[.pointer (some ⟨k.gd, 0, none⟩), .agg #[.int .i64 e.tick, .int .i64 e.kind, .int .i64 e.step, .int .i64 e.user]] W (StE k ev W (.bool (decide ((agR k.Pf R e).log[R.log.length]? = some e))) (agR k.Pf R e)) := by
  obtain ⟨t, kd, s, u⟩ := e
  show Calls Tryz.prog 52 #[.pointer (some ⟨k.gd, 0, none⟩), .agg #[.int .i64 t, .int .i64 kd, .int .i64 s, .int .i64 u]] W _
  have hB1 := hide' ((Below.refl _ W).alloc (Nat.le_refl _) (.cells #[.int .i64 t, .int .i64 kd, .int .i64 s, .int .i64 u] 76))
  have h1 := h.over hB1.out
  obtain ⟨c5, hE⟩ := h1.evs
  obtain ⟨oe, ce, hev, _, _⟩ := hE
  have hl2 := agR_len k.Pf R ⟨t, kd, s, u⟩
  have hXb := hide' (heap_alloc_new W (.cells #[.int .i64 t, .int .i64 kd, .int .i64 s, .int .i64 u] 76))
  have hwd : Hid (∀ b, k.wd ev b → b < W.heap.size) := fun b hb => h.lt b (.inl hb)
  -- what stands behind the call
  have HT : Hid (∀ ev' w', k.D ev' (agR k.Pf R ⟨t, kd, s, u⟩) w' → Zf (k.wd ev) (W.alloc (.cells #[.int .i64 t, .int .i64 kd, .int .i64 s, .int .i64 u] 76)) w' → Nf (W.alloc (.cells #[.int .i64 t, .int .i64 kd, .int .i64 s, .int .i64 u] 76)).heap.size (k.wd ev) (k.wd ev') → (w'.cell? ⟨k.gd, 5, none⟩ = some ev' ∧ EvQ w' ev' (agR k.Pf R ⟨t, kd, s, u⟩).log ∧ w'.cell? ⟨W.heap.size, 0, none⟩ = some (.int .i64 t) ∧ w'.cell? ⟨W.heap.size, 1, none⟩ = some (.int .i64 kd) ∧ w'.cell? ⟨W.heap.size, 2, none⟩ = some (.int .i64 s) ∧ w'.cell? ⟨W.heap.size, 3, none⟩ = some (.int .i64 u)) ∧ ∀ w2, Below w'.heap.size w' w2 → ∀ b : Bool, b = decide ((agR k.Pf R ⟨t, kd, s, u⟩).log[R.log.length]? = some ⟨t, kd, s, u⟩) → StE k ev W (.bool (decide ((agR k.Pf R ⟨t, kd, s, u⟩).log[R.log.length]? = some ⟨t, kd, s, u⟩))) (agR k.Pf R ⟨t, kd, s, u⟩) (.returned (.bool b)) w2) := fun ev' w' hD hz hn => by
    have hX : w'.heap[W.heap.size]? = some (.cells #[.int .i64 t, .int .i64 kd, .int .i64 s, .int .i64 u] 76 (0, 0)) := (hz.blk _ (Array.getElem?_eq_some_iff.1 hXb.out).1 fun e => by have := hwd.out _ e; omega).trans hXb.out
    obtain ⟨x0, x1, x2, x3⟩ := bx4 hX
    have hs : W.heap.size ≤ (W.alloc (.cells #[.int .i64 t, .int .i64 kd, .int .i64 s, .int .i64 u] 76)).heap.size := by simp
    have hnf : Nf W.heap.size (k.wd ev) (k.wd ev') := fun b hb => by
      rcases hn b hb with e | e
      · exact .inl e
      · exact .inr (by omega)
    exact ⟨⟨hD.evs.1, hD.evs.2, x0, x1, x2, x3⟩, fun w2 h2 b hb => ⟨by rw [hb], ev', hD.over h2, ((Zf.of_below hB1.out).trans hz (Nf.refl _ _)).trans (Zf.of_below h2) (Nf.refl _ _), hnf⟩⟩
  have H0 := hide' h1
  have hlt := hide' hl
  have hlE : Hid (R.log.length ≤ 90000) := by show _ ≤ _; omega
  generalize StE k ev W (.bool (decide ((agR k.Pf R ⟨t, kd, s, u⟩).log[R.log.length]? = some ⟨t, kd, s, u⟩))) (agR k.Pf R ⟨t, kd, s, u⟩) = QQ at *
  have hl2' := hide' hl2
  clear hl2
  by_cases k2 : kd = 2
  · as_aux_lemma =>
    subst k2
    have K0 : Calls Tryz.prog 86 #[.pointer (some ⟨k.gd, 0, none⟩), .int .i64 s, .int .i64 u, .int .i64 t] (W.alloc (.cells #[.int .i64 t, .int .i64 2, .int .i64 s, .int .i64 u] 76)) (StE k ev (W.alloc (.cells #[.int .i64 t, .int .i64 2, .int .i64 s, .int .i64 u] 76)) (.int .i64 (canC k.Pf R s)) (agR k.Pf R ⟨t, 2, s, u⟩)) := claimE H0.out hO hlE.out s u t
    have K := hide' K0
    clear K0 H0 hO ok h h1 hl hlE hlt hl2'
    generalize agR k.Pf R ⟨t, 2, s, u⟩ = R2 at *
    generalize R.log.length = nl at *
    generalize k.gd = gd at *
    subst hev
    obtain ⟨x0, x1, x2, x3⟩ := bx4 hXb.out
    clear hXb hwd hB1
    skip
    go_enter Tryz.func52, Tryz.ntmps52
    go_wp2_with fail
    refine K.out.mono ?_
    rintro e w1 ⟨rfl, ev', hD2, hz2, hn2⟩
    clear K x0 x1 x2 x3 c5
    obtain ⟨⟨d5, hE2, y0, y1, y2, y3⟩, hQ⟩ := HT.out _ _ hD2 hz2 hn2
    obtain ⟨o2, c2, rfl, ⟨hc2, _⟩, hel⟩ := hE2
    have hQ' := hide' hQ
    clear HT hD2 hz2 hn2 hQ
    by_cases hgt : nl < R2.log.length
    · obtain ⟨x, hx⟩ : ∃ x, R2.log[nl]? = some x := ⟨_, List.getElem?_eq_getElem hgt⟩
      obtain ⟨g2, f2, rfl, a0, a1, a2, a3⟩ := hel _ x hx
      have hcmp : ∀ V : World, (Op.equalIn 10000 76 (.agg #[.int .i64 x.tick, .int .i64 x.kind, .int .i64 x.step, .int .i64 x.user]) (.agg #[.int .i64 t, .int .i64 2, .int .i64 s, .int .i64 u])).run Tryz.prog V = .ok (decide (x = ⟨t, 2, s, u⟩)) V := fun V => ev_cmp _ _ _ _ _ _ _ _ V
      have hb : Hid (decide (x = ⟨t, 2, s, u⟩) = decide (R2.log[nl]? = some ⟨t, 2, s, u⟩)) := by show _ = _; rw [hx]; simp
      have hgt' : (nl : Int) < (R2.log.length : Int) := by omega
      clear hel hx
      generalize decide (x = ⟨t, 2, s, u⟩) = bb at *
      generalize x.tick = q0 at *
      generalize x.kind = q1 at *
      generalize x.step = q2 at *
      generalize x.user = q3 at *
      generalize R2.log.length = n2 at *
      go_wp2
      go_quiet (fail)
      go_wp2
      exact hQ'.out _ (below_drewR (Below.refl _ _) _) _ hb.out
    · have hb : Hid (false = decide (R2.log[nl]? = some ⟨t, 2, s, u⟩)) := by show _ = _; rw [List.getElem?_eq_none (by omega)]; rfl
      have hgt' : ¬ (nl : Int) < (R2.log.length : Int) := by omega
      clear hel
      generalize R2.log.length = n2 at *
      go_wp2
      go_quiet (fail)
      go_wp2
      exact hQ'.out _ (below_drewR (Below.refl _ _) _) _ hb.out
  have n2 : (kd == 2) = false := by rw [beq_eq_false_iff_ne]; exact k2
  by_cases k3 : kd = 3
  · as_aux_lemma =>
    subst k3
    have K0 : Calls Tryz.prog 87 #[.pointer (some ⟨k.gd, 0, none⟩), .int .i64 s, .int .i64 u, .int .i64 t] (W.alloc (.cells #[.int .i64 t, .int .i64 3, .int .i64 s, .int .i64 u] 76)) (StE k ev (W.alloc (.cells #[.int .i64 t, .int .i64 3, .int .i64 s, .int .i64 u] 76)) (.int .i64 (canD R s u)) (agR k.Pf R ⟨t, 3, s, u⟩)) := doneE H0.out hO ok hlE.out s u t
    have K := hide' K0
    clear K0 H0 hO ok h h1 hl hlE hlt hl2'
    generalize agR k.Pf R ⟨t, 3, s, u⟩ = R2 at *
    generalize R.log.length = nl at *
    generalize k.gd = gd at *
    subst hev
    obtain ⟨x0, x1, x2, x3⟩ := bx4 hXb.out
    clear hXb hwd hB1
    skip
    go_enter Tryz.func52, Tryz.ntmps52
    go_wp2_with fail
    refine K.out.mono ?_
    rintro e w1 ⟨rfl, ev', hD2, hz2, hn2⟩
    clear K x0 x1 x2 x3 c5
    obtain ⟨⟨d5, hE2, y0, y1, y2, y3⟩, hQ⟩ := HT.out _ _ hD2 hz2 hn2
    obtain ⟨o2, c2, rfl, ⟨hc2, _⟩, hel⟩ := hE2
    have hQ' := hide' hQ
    clear HT hD2 hz2 hn2 hQ
    by_cases hgt : nl < R2.log.length
    · obtain ⟨x, hx⟩ : ∃ x, R2.log[nl]? = some x := ⟨_, List.getElem?_eq_getElem hgt⟩
      obtain ⟨g2, f2, rfl, a0, a1, a2, a3⟩ := hel _ x hx
      have hcmp : ∀ V : World, (Op.equalIn 10000 76 (.agg #[.int .i64 x.tick, .int .i64 x.kind, .int .i64 x.step, .int .i64 x.user]) (.agg #[.int .i64 t, .int .i64 3, .int .i64 s, .int .i64 u])).run Tryz.prog V = .ok (decide (x = ⟨t, 3, s, u⟩)) V := fun V => ev_cmp _ _ _ _ _ _ _ _ V
      have hb : Hid (decide (x = ⟨t, 3, s, u⟩) = decide (R2.log[nl]? = some ⟨t, 3, s, u⟩)) := by show _ = _; rw [hx]; simp
      have hgt' : (nl : Int) < (R2.log.length : Int) := by omega
      clear hel hx
      generalize decide (x = ⟨t, 3, s, u⟩) = bb at *
      generalize x.tick = q0 at *
      generalize x.kind = q1 at *
      generalize x.step = q2 at *
      generalize x.user = q3 at *
      generalize R2.log.length = n2 at *
      go_wp2
      go_quiet (fail)
      go_wp2
      exact hQ'.out _ (below_drewR (Below.refl _ _) _) _ hb.out
    · have hb : Hid (false = decide (R2.log[nl]? = some ⟨t, 3, s, u⟩)) := by show _ = _; rw [List.getElem?_eq_none (by omega)]; rfl
      have hgt' : ¬ (nl : Int) < (R2.log.length : Int) := by omega
      clear hel
      generalize R2.log.length = n2 at *
      go_wp2
      go_quiet (fail)
      go_wp2
      exact hQ'.out _ (below_drewR (Below.refl _ _) _) _ hb.out
  have n3 : (kd == 3) = false := by rw [beq_eq_false_iff_ne]; exact k3
  by_cases k4 : kd = 4
  · as_aux_lemma =>
    subst k4
    have K0 : Calls Tryz.prog 88 #[.pointer (some ⟨k.gd, 0, none⟩), .int .i64 t] (W.alloc (.cells #[.int .i64 t, .int .i64 4, .int .i64 s, .int .i64 u] 76)) (StE k ev (W.alloc (.cells #[.int .i64 t, .int .i64 4, .int .i64 s, .int .i64 u] 76)) (.int .i64 (if endd R = true then 30 else 0)) (agR k.Pf R ⟨t, 4, s, u⟩)) := abortE H0.out hlE.out t
    have K := hide' K0
    clear K0 H0 hO ok h h1 hl hlE hlt hl2'
    generalize agR k.Pf R ⟨t, 4, s, u⟩ = R2 at *
    generalize R.log.length = nl at *
    generalize k.gd = gd at *
    subst hev
    obtain ⟨x0, x1, x2, x3⟩ := bx4 hXb.out
    clear hXb hwd hB1
    generalize (if endd R = true then (30 : Int) else 0) = zz at *
    go_enter Tryz.func52, Tryz.ntmps52
    go_wp2_with fail
    refine K.out.mono ?_
    rintro e w1 ⟨rfl, ev', hD2, hz2, hn2⟩
    clear K x0 x1 x2 x3 c5
    obtain ⟨⟨d5, hE2, y0, y1, y2, y3⟩, hQ⟩ := HT.out _ _ hD2 hz2 hn2
    obtain ⟨o2, c2, rfl, ⟨hc2, _⟩, hel⟩ := hE2
    have hQ' := hide' hQ
    clear HT hD2 hz2 hn2 hQ
    by_cases hgt : nl < R2.log.length
    · obtain ⟨x, hx⟩ : ∃ x, R2.log[nl]? = some x := ⟨_, List.getElem?_eq_getElem hgt⟩
      obtain ⟨g2, f2, rfl, a0, a1, a2, a3⟩ := hel _ x hx
      have hcmp : ∀ V : World, (Op.equalIn 10000 76 (.agg #[.int .i64 x.tick, .int .i64 x.kind, .int .i64 x.step, .int .i64 x.user]) (.agg #[.int .i64 t, .int .i64 4, .int .i64 s, .int .i64 u])).run Tryz.prog V = .ok (decide (x = ⟨t, 4, s, u⟩)) V := fun V => ev_cmp _ _ _ _ _ _ _ _ V
      have hb : Hid (decide (x = ⟨t, 4, s, u⟩) = decide (R2.log[nl]? = some ⟨t, 4, s, u⟩)) := by show _ = _; rw [hx]; simp
      have hgt' : (nl : Int) < (R2.log.length : Int) := by omega
      clear hel hx
      generalize decide (x = ⟨t, 4, s, u⟩) = bb at *
      generalize x.tick = q0 at *
      generalize x.kind = q1 at *
      generalize x.step = q2 at *
      generalize x.user = q3 at *
      generalize R2.log.length = n2 at *
      go_wp2
      go_quiet (fail)
      go_wp2
      exact hQ'.out _ (below_drewR (Below.refl _ _) _) _ hb.out
    · have hb : Hid (false = decide (R2.log[nl]? = some ⟨t, 4, s, u⟩)) := by show _ = _; rw [List.getElem?_eq_none (by omega)]; rfl
      have hgt' : ¬ (nl : Int) < (R2.log.length : Int) := by omega
      clear hel
      generalize R2.log.length = n2 at *
      go_wp2
      go_quiet (fail)
      go_wp2
      exact hQ'.out _ (below_drewR (Below.refl _ _) _) _ hb.out
  have n4 : (kd == 4) = false := by rw [beq_eq_false_iff_ne]; exact k4
  by_cases k5 : kd = 5
  · as_aux_lemma =>
    subst k5
    have K0 : Calls Tryz.prog 89 #[.pointer (some ⟨k.gd, 0, none⟩), .bool true, .int .i64 t] (W.alloc (.cells #[.int .i64 t, .int .i64 5, .int .i64 s, .int .i64 u] 76)) (StE k ev (W.alloc (.cells #[.int .i64 t, .int .i64 5, .int .i64 s, .int .i64 u] 76)) (.bool (mrkB R true)) (agR k.Pf R ⟨t, 5, s, u⟩)) := markE H0.out hlE.out true t
    have K := hide' K0
    clear K0 H0 hO ok h h1 hl hlE hlt hl2'
    generalize agR k.Pf R ⟨t, 5, s, u⟩ = R2 at *
    generalize R.log.length = nl at *
    generalize k.gd = gd at *
    subst hev
    obtain ⟨x0, x1, x2, x3⟩ := bx4 hXb.out
    clear hXb hwd hB1
    skip
    go_enter Tryz.func52, Tryz.ntmps52
    go_wp2_with fail
    refine K.out.mono ?_
    rintro e w1 ⟨rfl, ev', hD2, hz2, hn2⟩
    clear K x0 x1 x2 x3 c5
    obtain ⟨⟨d5, hE2, y0, y1, y2, y3⟩, hQ⟩ := HT.out _ _ hD2 hz2 hn2
    obtain ⟨o2, c2, rfl, ⟨hc2, _⟩, hel⟩ := hE2
    have hQ' := hide' hQ
    clear HT hD2 hz2 hn2 hQ
    by_cases hgt : nl < R2.log.length
    · obtain ⟨x, hx⟩ : ∃ x, R2.log[nl]? = some x := ⟨_, List.getElem?_eq_getElem hgt⟩
      obtain ⟨g2, f2, rfl, a0, a1, a2, a3⟩ := hel _ x hx
      have hcmp : ∀ V : World, (Op.equalIn 10000 76 (.agg #[.int .i64 x.tick, .int .i64 x.kind, .int .i64 x.step, .int .i64 x.user]) (.agg #[.int .i64 t, .int .i64 5, .int .i64 s, .int .i64 u])).run Tryz.prog V = .ok (decide (x = ⟨t, 5, s, u⟩)) V := fun V => ev_cmp _ _ _ _ _ _ _ _ V
      have hb : Hid (decide (x = ⟨t, 5, s, u⟩) = decide (R2.log[nl]? = some ⟨t, 5, s, u⟩)) := by show _ = _; rw [hx]; simp
      have hgt' : (nl : Int) < (R2.log.length : Int) := by omega
      clear hel hx
      generalize decide (x = ⟨t, 5, s, u⟩) = bb at *
      generalize x.tick = q0 at *
      generalize x.kind = q1 at *
      generalize x.step = q2 at *
      generalize x.user = q3 at *
      generalize R2.log.length = n2 at *
      go_wp2
      go_quiet (fail)
      go_wp2
      exact hQ'.out _ (below_drewR (Below.refl _ _) _) _ hb.out
    · have hb : Hid (false = decide (R2.log[nl]? = some ⟨t, 5, s, u⟩)) := by show _ = _; rw [List.getElem?_eq_none (by omega)]; rfl
      have hgt' : ¬ (nl : Int) < (R2.log.length : Int) := by omega
      clear hel
      generalize R2.log.length = n2 at *
      go_wp2
      go_quiet (fail)
      go_wp2
      exact hQ'.out _ (below_drewR (Below.refl _ _) _) _ hb.out
  have n5 : (kd == 5) = false := by rw [beq_eq_false_iff_ne]; exact k5
  by_cases k6 : kd = 6
  · as_aux_lemma =>
    subst k6
    have K0 : Calls Tryz.prog 89 #[.pointer (some ⟨k.gd, 0, none⟩), .bool false, .int .i64 t] (W.alloc (.cells #[.int .i64 t, .int .i64 6, .int .i64 s, .int .i64 u] 76)) (StE k ev (W.alloc (.cells #[.int .i64 t, .int .i64 6, .int .i64 s, .int .i64 u] 76)) (.bool (mrkB R false)) (agR k.Pf R ⟨t, 6, s, u⟩)) := markE H0.out hlE.out false t
    have K := hide' K0
    clear K0 H0 hO ok h h1 hl hlE hlt hl2'
    generalize agR k.Pf R ⟨t, 6, s, u⟩ = R2 at *
    generalize R.log.length = nl at *
    generalize k.gd = gd at *
    subst hev
    obtain ⟨x0, x1, x2, x3⟩ := bx4 hXb.out
    clear hXb hwd hB1
    skip
    go_enter Tryz.func52, Tryz.ntmps52
    go_wp2_with fail
    refine K.out.mono ?_
    rintro e w1 ⟨rfl, ev', hD2, hz2, hn2⟩
    clear K x0 x1 x2 x3 c5
    obtain ⟨⟨d5, hE2, y0, y1, y2, y3⟩, hQ⟩ := HT.out _ _ hD2 hz2 hn2
    obtain ⟨o2, c2, rfl, ⟨hc2, _⟩, hel⟩ := hE2
    have hQ' := hide' hQ
    clear HT hD2 hz2 hn2 hQ
    by_cases hgt : nl < R2.log.length
    · obtain ⟨x, hx⟩ : ∃ x, R2.log[nl]? = some x := ⟨_, List.getElem?_eq_getElem hgt⟩
      obtain ⟨g2, f2, rfl, a0, a1, a2, a3⟩ := hel _ x hx
      have hcmp : ∀ V : World, (Op.equalIn 10000 76 (.agg #[.int .i64 x.tick, .int .i64 x.kind, .int .i64 x.step, .int .i64 x.user]) (.agg #[.int .i64 t, .int .i64 6, .int .i64 s, .int .i64 u])).run Tryz.prog V = .ok (decide (x = ⟨t, 6, s, u⟩)) V := fun V => ev_cmp _ _ _ _ _ _ _ _ V
      have hb : Hid (decide (x = ⟨t, 6, s, u⟩) = decide (R2.log[nl]? = some ⟨t, 6, s, u⟩)) := by show _ = _; rw [hx]; simp
      have hgt' : (nl : Int) < (R2.log.length : Int) := by omega
      clear hel hx
      generalize decide (x = ⟨t, 6, s, u⟩) = bb at *
      generalize x.tick = q0 at *
      generalize x.kind = q1 at *
      generalize x.step = q2 at *
      generalize x.user = q3 at *
      generalize R2.log.length = n2 at *
      go_wp2
      go_quiet (fail)
      go_wp2
      exact hQ'.out _ (below_drewR (Below.refl _ _) _) _ hb.out
    · have hb : Hid (false = decide (R2.log[nl]? = some ⟨t, 6, s, u⟩)) := by show _ = _; rw [List.getElem?_eq_none (by omega)]; rfl
      have hgt' : ¬ (nl : Int) < (R2.log.length : Int) := by omega
      clear hel
      generalize R2.log.length = n2 at *
      go_wp2
      go_quiet (fail)
      go_wp2
      exact hQ'.out _ (below_drewR (Below.refl _ _) _) _ hb.out
  have n6 : (kd == 6) = false := by rw [beq_eq_false_iff_ne]; exact k6
  have hag : agR k.Pf R ⟨t, kd, s, u⟩ = R := by unfold agR; simp [k2, k3, k4, k5, k6]
  obtain ⟨hQ0, hQ⟩ := HT.out ev _ (by rw [hag]; exact H0.out) (Zf.refl _ _) (Nf.refl _ _)
  obtain ⟨-, -, x0, x1, x2, x3⟩ := hQ0
  have hQ' := hide' hQ
  have hb : Hid (false = decide ((agR k.Pf R ⟨t, kd, s, u⟩).log[R.log.length]? = some ⟨t, kd, s, u⟩)) := by show _ = _; rw [hag, List.getElem?_eq_none (Nat.le_refl _)]; rfl
  clear HT hQ H0 hag hO ok h h1 hl hlE hl2'
  generalize agR k.Pf R ⟨t, kd, s, u⟩ = R2 at *
  have hgt' : ¬ (R.log.length : Int) < (R.log.length : Int) := by omega
  subst hev
  generalize R.log.length = nl at *
  generalize k.gd = gd at *
  clear hXb hwd hB1 k2 k3 k4 k5 k6
  go_enter Tryz.func52, Tryz.ntmps52
  go_wp2
  go_quiet (fail)
  go_wp2
  exact hQ'.out _ (below_drewR (Below.refl _ _) _) _ hb.out
end
end Go.Proofs.YtahfobbiaimoiaaGreatDoor
namespace Go.Proofs.YtahfobbiaimoiaaGreatDoor
open Go.RowKit
theorem SdK.D.wdge {k : SdK} {ev : Value} {R : Rs} {W : World} (h : k.D ev R W) : ∀ b, k.wd ev b → k.lo1 ≤ b := by
  have h1 := h.gl
  have h2 := h.gt
  rintro b (rfl | rfl | e)
  · exact h1.1
  · omega
  · have := h.ge b e; omega
/-- What the document's Replay answers. -/
def RdP (Pf Sf : Nat → Nat) (F : Fw) (L : List Ev) (w : World) (e : Ending) (w' : World) : Prop :=
  ∃ xa z, e = .returned (.tuple #[.pointer xa, .int .i64 z]) ∧ Below w.heap.size w w' ∧
    ((chkF F ≠ 0 ∧ xa = none ∧ z = chkF F) ∨ (chkF F = 0 ∧ xa = none ∧ z = 3 ∧ dcQ Pf F.steps.length L = none) ∨
     (chkF F = 0 ∧ z = 0 ∧ ∃ (k : SdK) (ev : Value) (R : Rs), k.F = F ∧ k.Pf = Pf ∧ k.Sf = Sf ∧ xa = some ⟨k.gd, 0, none⟩ ∧ dcQ Pf F.steps.length L = some R ∧ k.D ev R w'))
theorem dcQ_cons (Pf : Nat → Nat) (n : Nat) (x : Ev) (t : List Ev) (h : (⟨x.tick, 1, -1, -1⟩ : Ev) = x) : dcQ Pf n (x :: t) = (match dcR Pf 1 t (newR n x.tick) with | some R => if R.log.length = (x :: t).length then some R else none | none => none) := by
  show (if (⟨x.tick, 1, -1, -1⟩ : Ev) = x then _ else none) = _
  rw [if_pos h]
  cases dcR Pf 1 t (newR n x.tick) <;> rfl
theorem dcQ_no (Pf : Nat → Nat) (n : Nat) (x : Ev) (t : List Ev) (h : ¬ (⟨x.tick, 1, -1, -1⟩ : Ev) = x) : dcQ Pf n (x :: t) = none := by
  show (if (⟨x.tick, 1, -1, -1⟩ : Ev) = x then _ else none) = _
  rw [if_neg h]
/-- A flow that lies well, in the document's New. -/
theorem newZ_ok {F : Fw} {tick : Int} {w w' : World} {e : Ending} (h0 : chkF F = 0) (h : NewZ F tick w e w') (Pf Sf : Nat → Nat) : ∃ (k : SdK) (ev : Value), k.F = F ∧ k.Pf = Pf ∧ k.Sf = Sf ∧ k.lo1 = w.heap.size ∧ e = .returned (.tuple #[.pointer (some ⟨k.gd, 0, none⟩), .int .i64 0]) ∧ Below w.heap.size w w' ∧ k.D ev (newR F.steps.length tick) w' := by
  rcases h with ⟨h1, _⟩ | ⟨ok, V1, gd, gt, sv, rv, go, ct, Q1, Q2, ev, rfl, hb, hD⟩
  · exact absurd h0 h1
  · exact ⟨⟨F, 0, V1, 0, 0, sv, rv, 0, 0, 0, 0, Pf, Sf, [], [], w.heap.size, V1, gd, gt, sv, rv, go, ct, Q1, Q2⟩, ev, rfl, rfl, rfl, rfl, rfl, hb, hD⟩
set_option maxRecDepth 100000 in
set_option maxHeartbeats 4000000 in
theorem replayD (Pf Sf : Nat → Nat) (F : Fw) (L : List Ev) (v vl : Value) (w : World) (hv : flV w v F) (hB : FlB F) (hl : EvQ w vl L) (hn : L.length ≤ 300) (hO : chkF F = 0 → O.Ord F.steps.length (O.ordL F.steps.length (prs F.steps)) Pf Sf) : Calls Tryz.prog 12 #[v, vl] w (RdP Pf Sf F L w) := by
  have hv0 := hide' hv
  have hl0 : Hid (∀ V, Below w.heap.size w V → EvQ V vl L) := fun V hV => hl.over hV
  obtain ⟨sv0, rv0, rfl, hs, hr⟩ := hv
  obtain ⟨oa, cap, rfl⟩ := hs.shape
  obtain ⟨ob, cb, rfl⟩ := hr.shape
  obtain ⟨ol, cl, rfl, hcl, _⟩ := hl
  have KC : Hid (∀ V, Below w.heap.size w V → Calls Tryz.prog 50 #[.agg #[.string F.name, .slice oa F.steps.length cap, .slice ob F.rules.length cb]] V (flErr V (chkF F))) := fun V hV => checkD F _ V (hv0.out.below hV (Nat.le_refl _)) hB
  have hR1 : Hid (∀ w', chkF F ≠ 0 → Below w.heap.size w w' → RdP Pf Sf F L w (.returned (.tuple #[.pointer none, .int .i64 (chkF F)])) w') := fun w' h1 h2 => ⟨_, _, rfl, h2, .inl ⟨h1, rfl, rfl⟩⟩
  have hR2 : Hid (chkF F = 0 → ∀ w', Below w.heap.size w w' → dcQ Pf F.steps.length L = none → RdP Pf Sf F L w (.returned (.tuple #[.pointer none, .int .i64 3])) w') := fun h0 w' h2 h3 => ⟨_, _, rfl, h2, .inr (.inl ⟨h0, rfl, rfl, h3⟩)⟩
  have hR3 : Hid (chkF F = 0 → ∀ (k : SdK) (ev : Value) (R : Rs) w', k.F = F → k.Pf = Pf → k.Sf = Sf → Below w.heap.size w w' → dcQ Pf F.steps.length L = some R → k.D ev R w' → RdP Pf Sf F L w (.returned (.tuple #[.pointer (some ⟨k.gd, 0, none⟩), .int .i64 0])) w') := fun h0 k ev R w' e1 e2 e3 h2 h3 h4 => ⟨_, _, rfl, h2, .inr (.inr ⟨h0, rfl, k, ev, R, e1, e2, e3, rfl, h3, h4⟩)⟩
  have KN : Hid (chkF F = 0 → ∀ V, Below w.heap.size w V → ∀ t, Calls Tryz.prog 51 #[.agg #[.string F.name, .slice oa F.steps.length cap, .slice ob F.rules.length cb], .int .i64 t] V fun e w' => ∃ (k : SdK) (ev : Value), k.F = F ∧ k.Pf = Pf ∧ k.Sf = Sf ∧ k.lo1 = V.heap.size ∧ e = .returned (.tuple #[.pointer (some ⟨k.gd, 0, none⟩), .int .i64 0]) ∧ Below V.heap.size V w' ∧ k.D ev (newR F.steps.length t) w') := fun h0 V hV t => (newD F _ t V (hv0.out.below hV (Nat.le_refl _)) hB).mono fun _ _ h => newZ_ok h0 h Pf Sf
  have hnz : Hid (chkF F = 0 → F.steps.length ≠ 0) := fun h => (chkF_zero h).ne
  clear hs hr hv0 hB
  generalize RdP Pf Sf F L w = QQ at *
  have D1 := hide' (heap_alloc_new w (.cells #[.string F.name, .slice oa F.steps.length cap, .slice ob F.rules.length cb] 25))
  have B0 : Hid (Below w.heap.size w (w.alloc (.cells #[.string F.name, .slice oa F.steps.length cap, .slice ob F.rules.length cb] 25))) := (Below.refl _ w).alloc (Nat.le_refl _) _
  obtain ⟨x0, x1, x2⟩ := bx3 D1.out
  go_enter Tryz.func12, Tryz.ntmps12
  go_wp2_with fail
  clear x0 x1 x2
  generalize w.alloc (.cells #[.string F.name, .slice oa F.steps.length cap, .slice ob F.rules.length cb] 25) = W1 at *
  have hK : Hid (∀ V, Below W1.heap.size W1 V → Below w.heap.size w V ∧ V.cell? ⟨w.heap.size, 0, none⟩ = some (.string F.name) ∧ V.cell? ⟨w.heap.size, 1, none⟩ = some (.slice oa F.steps.length cap) ∧ V.cell? ⟨w.heap.size, 2, none⟩ = some (.slice ob F.rules.length cb)) := fun V hW => by
    have e1 := (hW.block _ (Array.getElem?_eq_some_iff.1 D1.out).1).trans D1.out
    exact ⟨B0.out.trans (hW.mono B0.out.size), by simp [World.cell?, e1], by simp [World.cell?, e1], by simp [World.cell?, e1]⟩
  clear D1
  refine (KC.out _ B0.out).mono ?_
  rintro e w2 ⟨rfl, hb2⟩
  have B2 := hide' hb2
  have B2w := hide' (hK.out _ hb2).1
  clear KC hb2 B0
  by_cases h0 : chkF F = 0
  rotate_left
  · have hF := hide' (hR1.out _ h0 B2w.out)
    have h0' : (chkF F == 0) = false := by rw [beq_eq_false_iff_ne]; exact h0
    clear hR1 hR2 hR3 KN hK hnz hO hl0
    generalize chkF F = z at *
    go_wp2
    exact hF.out
  rw [h0]
  have hO' := hide' (hO h0)
  have hR2' := hide' (hR2.out h0)
  have hR3' := hide' (hR3.out h0)
  have KN' := hide' (KN.out h0)
  have hnz' := hide' (hnz.out h0)
  clear hR1 hR2 hR3 KN hnz hO h0
  cases L with
  | nil =>
    have hF := hide' (hR2'.out _ B2w.out rfl)
    clear hR2' hR3' KN' hO' hnz' hl0 hK
    rw [show (([] : List Ev).length : Nat) = 0 from rfl]
    go_wp2
    exact hF.out
  | cons x t =>
  have hpos : (((x :: t).length : Int) == 0) = false := by rw [beq_eq_false_iff_ne, List.length_cons]; omega
  have hpos3 : 0 < (x :: t).length := by rw [List.length_cons]; omega
  have hpos2 : (0 : Int) < ((x :: t).length : Int) := by rw [List.length_cons]; omega
  have hel : Hid (∀ V, Below w.heap.size w V → ∀ i e, (x :: t)[i]? = some e → ∃ g f, ol = some ⟨g, f, none⟩ ∧ V.cell? ⟨g, f + i * 4, none⟩ = some (.int .i64 e.tick) ∧ V.cell? ⟨g, f + i * 4 + 1, none⟩ = some (.int .i64 e.kind) ∧ V.cell? ⟨g, f + i * 4 + 2, none⟩ = some (.int .i64 e.step) ∧ V.cell? ⟨g, f + i * 4 + 3, none⟩ = some (.int .i64 e.user)) := fun V hV i e he => by
    obtain ⟨_, _, e1, _, h1⟩ := hl0.out V hV
    injection e1 with e1 _ _
    subst e1
    exact h1 i e he
  clear hl0
  obtain ⟨g0, f0, rfl, -, -, -, -⟩ := hel.out _ (Below.refl _ w) 0 x rfl
  have hd : Hid (Below W1.heap.size W1 w2.drew) := B2.out.drew
  have hh : Hid (∀ V, Below w.heap.size w V → V.cell? ⟨g0, f0, none⟩ = some (.int .i64 x.tick)) := fun V hV => by
    obtain ⟨_, _, e1, h1, _⟩ := hel.out V hV 0 x rfl
    cases e1
    rwa [Nat.zero_mul, Nat.add_zero] at h1
  generalize hNL : (x :: t).length = NL at *
  have KX : Hid (∀ V, Below W1.heap.size W1 V → Calls Tryz.prog 51 #[.agg #[.string F.name, .slice oa F.steps.length cap, .slice ob F.rules.length cb], .int .i64 x.tick] V fun e w' => ∃ (k : SdK) (ev : Value), k.F = F ∧ k.Pf = Pf ∧ k.Sf = Sf ∧ w.heap.size ≤ k.lo1 ∧ e = .returned (.tuple #[.pointer (some ⟨k.gd, 0, none⟩), .int .i64 0]) ∧ Below W1.heap.size W1 w' ∧ Below w.heap.size w w' ∧ k.D ev (newR F.steps.length x.tick) w') := fun V hV => (KN'.out V (hK.out V hV).1 x.tick).mono fun e w' ⟨k, ev, h1, h2, h3, h4, h5, h6, h7⟩ => ⟨k, ev, h1, h2, h3, by rw [h4]; exact (hK.out V hV).1.size, h5, hV.trans (h6.mono hV.size), (hK.out _ (hV.trans (h6.mono hV.size))).1, h7⟩
  clear KN'
  go_upto_region 6 with fail
  go_region_held3 (fun V => V.cell? ⟨w.heap.size, 0, none⟩ = some (.string F.name) ∧ V.cell? ⟨w.heap.size, 1, none⟩ = some (.slice oa F.steps.length cap) ∧ V.cell? ⟨w.heap.size, 2, none⟩ = some (.slice ob F.rules.length cb) ∧ V.cell? ⟨g0, f0, none⟩ = some (.int .i64 x.tick)) (first | (exact ⟨(hK.out _ B3.out).2.1, (hK.out _ B3.out).2.2.1, (hK.out _ B3.out).2.2.2, hh.out _ B3w.out⟩) | (exact ⟨(hK.out _ hd.out).2.1, (hK.out _ hd.out).2.2.1, (hK.out _ hd.out).2.2.2, hh.out _ (hK.out _ hd.out).1⟩)) (first | (go_at_call 51; refine (KX.out _ hd.out).mono ?_; rintro e w3 ⟨k, ev, hkF, hkP, hkS, hk1, rfl, hb3, hb3w, hD⟩; have B3 := hide' hb3; have B3w := hide' hb3w; have hD3 := hide' hD; clear hb3 hb3w hD; (try dsimp only)))
  clear KX B2 B2w B3 hd hK hh
  subst hkF hkP hkS
  obtain ⟨c5, oe, ce, rfl, ⟨hce, _⟩, hee⟩ := hD3.out.evs
  obtain ⟨ge, fe, rfl, a0, a1, a2, a3⟩ := hee 0 ⟨x.tick, 1, -1, -1⟩ rfl
  obtain ⟨_, _, e1, b0, b1, b2, b3⟩ := hel.out w3 B3w.out 0 x rfl
  cases e1
  rw [Nat.zero_mul, Nat.add_zero] at a0 a1 a2 a3 b0 b1 b2 b3
  rw [show (newR k.F.steps.length x.tick).log.length = 1 from rfl] at c5 hce
  have hcmp : ∀ V : World, (Op.equalIn 10000 76 (.agg #[.int .i64 x.tick, .int .i64 1, .int .i64 (-1), .int .i64 (-1)]) (.agg #[.int .i64 x.tick, .int .i64 x.kind, .int .i64 x.step, .int .i64 x.user])).run Tryz.prog V = .ok (decide ((⟨x.tick, 1, -1, -1⟩ : Ev) = x)) V := fun V => ev_cmp _ _ _ _ _ _ _ _ V
  have hok0 := hide' (newR_ok k.F.steps.length hnz'.out x.tick)
  have hQn : Hid (¬ (⟨x.tick, 1, -1, -1⟩ : Ev) = x → ∀ w', Below w.heap.size w w' → QQ (.returned (.tuple #[.pointer none, .int .i64 3])) w') := fun h w' hb => hR2'.out w' hb (dcQ_no _ _ _ _ h)
  have hQc : Hid ((⟨x.tick, 1, -1, -1⟩ : Ev) = x → dcQ k.Pf k.F.steps.length (x :: t) = (match dcR k.Pf 1 t (newR k.F.steps.length x.tick) with | some R => if R.log.length = NL then some R else none | none => none)) := fun h => by
    show dcQ k.Pf k.F.steps.length (x :: t) = _
    rw [dcQ_cons _ _ _ _ h, hNL]
  by_cases hx : (⟨x.tick, 1, -1, -1⟩ : Ev) = x
  rotate_left
  · have hF := hide' (hQn.out hx)
    rw [decide_eq_false hx] at hcmp
    clear hQn hQc hR2' hR3' hD3 hee hel hx hok0 hO' hNL
    generalize x.tick = q0 at *
    generalize x.kind = q1 at *
    generalize x.step = q2 at *
    generalize x.user = q3 at *
    go_wp2
    go_quiet (fail)
    go_wp2
    exact hF.out _ (below_drewR B3w.out _)
  rw [decide_eq_true hx] at hcmp
  have hQc' := hide' (hQc.out hx)
  have hel' : Hid (∀ V, Below w.heap.size w V → ∀ i e, (x :: t)[i]? = some e → V.cell? ⟨g0, f0 + i * 4, none⟩ = some (.int .i64 e.tick) ∧ V.cell? ⟨g0, f0 + i * 4 + 1, none⟩ = some (.int .i64 e.kind) ∧ V.cell? ⟨g0, f0 + i * 4 + 2, none⟩ = some (.int .i64 e.step) ∧ V.cell? ⟨g0, f0 + i * 4 + 3, none⟩ = some (.int .i64 e.user)) := fun V hV i e he => by
    obtain ⟨_, _, e1, h1⟩ := hel.out V hV i e he
    cases e1
    exact h1
  have hL0 : Hid ((x :: t).drop 1 = t) := rfl
  have hnd : Hid (NL ≤ 300) := hn
  clear hQn hQc hee hel hx hnz'
  generalize hR0 : newR k.F.steps.length x.tick = R0 at *
  have hl0 : Hid (R0.log.length ≤ 2 * 1 + 1) := by show _ ≤ _; rw [← hR0, show (newR k.F.steps.length x.tick).log.length = 1 from rfl]; omega
  clear hR0
  generalize x.tick = q0 at *
  generalize x.kind = q1 at *
  generalize x.step = q2 at *
  generalize x.user = q3 at *
  generalize hLL : x :: t = LL at *
  clear hLL
  go_wp2
  go_quiet (fail)
  go_wp2
  go_loopw [9] (fun j wr => ∃ (c : Nat) (ev : Value) (R : Rs), 1 ≤ c ∧ c ≤ NL ∧ j = .int .i64 (c : Int) ∧ Hid (k.D ev R wr) ∧ Hid (Below w.heap.size w wr) ∧ Hid (dcR k.Pf 1 t R0 = dcR k.Pf c (LL.drop c) R) ∧ Hid (RsOk k.F.steps.length R) ∧ Hid (R.log.length ≤ 2 * c + 1)) (fun j _ => ((NL : Int) - intOf j).toNat)
  case atStart =>
    exact ⟨1, _, R0, Nat.le_refl _, by omega, rfl, hD3.out.over (below_drewR (Below.refl _ w3) _), below_drewR B3w.out _, (by show _ = _; rw [hL0.out]), hok0, hl0⟩
  case round =>
    as_aux_lemma =>
    clear hD3 hok0 hl0 c5 a0 a1 a2 a3 b0 b1 b2 b3 hcmp hce hL0
    obtain ⟨c, ev, R, hc1, hcN, rfl, hD, hBl, hdc, hok, hRl⟩ := hrel
    obtain ⟨c5, oe, ce, rfl, ⟨hce, _⟩, hee⟩ := hD.out.evs
    have hRb : R.log.length ≤ 1000 := by have h1 := hRl.out; have h2 := hnd.out; omega
    by_cases hlt : c < NL
    · obtain ⟨y, hy⟩ : ∃ y, LL[c]? = some y := ⟨_, List.getElem?_eq_getElem (by rw [hNL]; exact hlt)⟩
      have hdrop : LL.drop c = y :: LL.drop (c + 1) := by
        obtain ⟨h1, h2⟩ := List.getElem?_eq_some_iff.1 hy
        rw [List.drop_eq_getElem_cons h1, h2]
      rw [hdrop] at hdc
      obtain ⟨b0, b1, b2, b3⟩ := hel'.out wr hBl.out c y hy
      by_cases hlt2 : c < R.log.length
      · obtain ⟨z, hz⟩ : ∃ z, R.log[c]? = some z := ⟨_, List.getElem?_eq_getElem hlt2⟩
        obtain ⟨ge, fe, rfl, a0, a1, a2, a3⟩ := hee c z hz
        have hcmp : ∀ V : World, (Op.equalIn 10000 76 (.agg #[.int .i64 z.tick, .int .i64 z.kind, .int .i64 z.step, .int .i64 z.user]) (.agg #[.int .i64 y.tick, .int .i64 y.kind, .int .i64 y.step, .int .i64 y.user])).run Tryz.prog V = .ok (decide (z = y)) V := fun V => ev_cmp _ _ _ _ _ _ _ _ V
        have hYes : Hid (z = y → dcR k.Pf 1 t R0 = dcR k.Pf (c + 1) (LL.drop (c + 1)) R) := fun e => hdc.out.trans (by rw [dcR, if_pos hlt2, if_pos (by rw [hz, e])])
        have hNo : Hid (z ≠ y → ∀ w', Below w.heap.size w w' → QQ (.returned (.tuple #[.pointer none, .int .i64 3])) w') := fun e w' hb => hR2'.out w' hb (by
          rw [hQc'.out, hdc.out, dcR, if_pos hlt2, if_neg (by rw [hz]; exact fun h => e (Option.some.inj h))])
        have hlt2' : (c : Int) < (R.log.length : Int) := by omega
        clear hee hdc hR2' hR3' hQc' hel' hy hz hdrop hO'
        generalize y.tick = p0 at *
        generalize y.kind = p1 at *
        generalize y.step = p2 at *
        generalize y.user = p3 at *
        generalize z.tick = s0 at *
        generalize z.kind = s1 at *
        generalize z.step = s2 at *
        generalize z.user = s3 at *
        by_cases hzy : z = y
        · rw [decide_eq_true hzy] at hcmp
          have hY := hide' (hYes.out hzy)
          have hRl' : Hid (R.log.length ≤ 2 * (c + 1) + 1) := by show _ ≤ _; have := hRl.out; omega
          clear hYes hNo hzy
          go_wp2
          go_quiet (fail)
          go_wp2
          exact ⟨⟨c + 1, _, R, by omega, by omega, by go_num, hD.out.over (below_drewR (Below.refl _ _) _), below_drewR hBl.out _, hY, hok, hRl'⟩, by simp [intOf]; omega⟩
        · rw [decide_eq_false hzy] at hcmp
          have hF := hide' (hNo.out hzy)
          clear hYes hNo hzy
          go_wp2
          go_quiet (fail)
          go_wp2
          exact hF.out _ (below_drewR hBl.out _)
      · have KA := hide' (againD hD.out hok.out hO'.out (by omega) y)
        have hYes : Hid ((agR k.Pf R y).log[R.log.length]? = some y → dcR k.Pf 1 t R0 = dcR k.Pf (c + 1) (LL.drop (c + 1)) (agR k.Pf R y)) := fun e => hdc.out.trans (by rw [dcR, if_neg hlt2, if_pos e])
        have hNo : Hid (¬ (agR k.Pf R y).log[R.log.length]? = some y → ∀ w', Below w.heap.size w w' → QQ (.returned (.tuple #[.pointer none, .int .i64 3])) w') := fun e w' hb => hR2'.out w' hb (by
          rw [hQc'.out, hdc.out, dcR, if_neg hlt2, if_neg e])
        have hlt2' : ¬ (c : Int) < (R.log.length : Int) := by omega
        have hok2 := hide' (agR_ok k.Pf hok.out y)
        have hRl2 : Hid ((agR k.Pf R y).log.length ≤ 2 * (c + 1) + 1) := by show _ ≤ _; have h1 := agR_len k.Pf R y; have := hRl.out; omega
        have hbw : Hid (∀ w', Zf (k.wd (.slice oe R.log.length ce)) wr w' → Below w.heap.size w w') := fun w' hz => hBl.out.trans (hz.toBelow hBl.out.size fun b hb => Nat.le_trans hk1 (hD.out.wdge b hb))
        clear hee hdc hR2' hR3' hQc' hel' hy hdrop hO' hok hRl hBl
        generalize agR k.Pf R y = R2 at *
        generalize hDD : decide (R2.log[R.log.length]? = some y) = DD at *
        have hDD' := hide' hDD
        clear hDD hD
        generalize R.log.length = nl at *
        generalize y.tick = p0 at *
        generalize y.kind = p1 at *
        generalize y.step = p2 at *
        generalize y.user = p3 at *
        go_wp2_with fail
        refine KA.out.mono ?_
        rintro e w5 ⟨rfl, ev2, hD5, hz5, _⟩
        have hB5 := hide' (hbw.out _ hz5)
        have hD5' := hide' hD5
        clear KA hD5 hz5 hbw c5 b0 b1 b2 b3
        by_cases hq : R2.log[nl]? = some y
        · have hY := hide' (hYes.out hq)
          obtain rfl : DD = true := by rw [← hDD'.out]; exact decide_eq_true hq
          clear hYes hNo hq hDD'
          go_wp2
          exact ⟨⟨c + 1, _, R2, by omega, by omega, by go_num, hD5', hB5, hY, hok2, hRl2⟩, by simp [intOf]; omega⟩
        · have hF := hide' (hNo.out hq _ hB5.out)
          obtain rfl : DD = false := by rw [← hDD'.out]; exact decide_eq_false hq
          clear hYes hNo hq hDD'
          go_wp2
          exact hF.out
    · obtain rfl : c = NL := by omega
      have hdn : dcR k.Pf 1 t R0 = some R := hdc.out.trans (by rw [List.drop_of_length_le (by omega)]; rfl)
      have hYes : Hid (R.log.length = c → ∀ w', Below wr.heap.size wr w' → QQ (.returned (.tuple #[.pointer (some ⟨k.gd, 0, none⟩), .int .i64 0])) w') := fun e w' hb => hR3'.out k _ R w' rfl rfl rfl (hBl.out.trans (hb.mono hBl.out.size)) (by rw [hQc'.out, hdn]; exact if_pos e) (hD.out.over hb)
      have hNo : Hid (¬ R.log.length = c → ∀ w', Below wr.heap.size wr w' → QQ (.returned (.tuple #[.pointer none, .int .i64 3])) w') := fun e w' hb => hR2'.out w' (hBl.out.trans (hb.mono hBl.out.size)) (by rw [hQc'.out, hdn]; exact if_neg e)
      clear hdn hee hdc hR2' hR3' hQc' hel' hO' hok hRl hBl hD hNL
      generalize R.log.length = nl at *
      by_cases hq : nl = c
      · subst hq
        have hF := hide' (hYes.out rfl)
        clear hYes hNo
        go_wp2
        exact hF.out _ (Below.refl _ _)
      · have hF := hide' (hNo.out hq)
        have hq' : ((nl : Int) == (c : Int)) = false := by rw [beq_eq_false_iff_ne]; omega
        clear hYes hNo
        go_wp2
        exact hF.out _ (Below.refl _ _)
end Go.Proofs.YtahfobbiaimoiaaGreatDoor
namespace Go.Proofs.YtahfobbiaimoiaaGreatDoor
open Go.RowKit
theorem RnX.fl {V0 : World} {F : Fw} {gr gt : Nat} {sv rv : Value} {go gp gs ct : Nat} {Pf Sf : Nat → Nat} {P1 : List (Sp × Value)} {P2 : List (Rl × Value)} {lv : Value} {R : Rs} {W : World} (h : RnX V0 F gr gt sv rv go gp gs ct Pf Sf P1 P2 lv R W) : flV W (.agg #[.string F.name, sv, rv]) F := by
  have r1 := (h.t1.over h.bl).rowS
  have r2 := (h.t2.over h.bl).rowR
  rw [h.m1] at r1
  rw [h.m2] at r2
  exact ⟨_, _, rfl, r1, r2⟩
/-- The program's run and the document's, of one log. -/
structure Bo (F : Fw) (L : List Ev) (gr : Nat) (k : SdK) (ev lv : Value) (R : Rs) (gt : Nat) (sv rv : Value) (go ct gp gs : Nat) (V0 : World) (P1 : List (Sp × Value)) (P2 : List (Rl × Value)) (W : World) : Prop where
  x : RnX V0 F gr gt sv rv go gp gs ct k.Pf k.Sf P1 P2 lv R W
  d : k.D ev R W
  f : k.F = F
  ok : FlOk F
  lg : R.log = L
  rs : RsOk F.steps.length R
  eq : R = rpR k.Pf (newR F.steps.length (ftk L)) L
/-- What both leave. -/
def BoP (F : Fw) (L : List Ev) (pa xa : Option Addr) (W : World) : Prop :=
  (pa = none ∧ xa = none) ∨ ∃ gr k ev lv R gt sv rv go ct gp gs V0 P1 P2, pa = some ⟨gr, 0, none⟩ ∧ xa = some ⟨SdK.gd k, 0, none⟩ ∧ Bo F L gr k ev lv R gt sv rv go ct gp gs V0 P1 P2 W
theorem replayB {F : Fw} {L : List Ev} {w w6 : World} {e : Ending} (h : RpP F L w e w6) : ∃ pa z, e = .returned (.tuple #[.pointer pa, .int .i64 z]) ∧ Below w.heap.size w w6 ∧ ∀ (v vl : Value) (W : World), Below w6.heap.size w6 W → flV W v F → FlB F → EvQ W vl L → L.length ≤ 300 → Calls Tryz.prog 12 #[v, vl] W fun e w' => ∃ xa, e = .returned (.tuple #[.pointer xa, .int .i64 z]) ∧ Below W.heap.size W w' ∧ BoP F L pa xa w' := by
  obtain ⟨pa, z, rfl, hb, h⟩ := h
  refine ⟨pa, z, rfl, hb, fun v vl W hW hv hB hl hn => ?_⟩
  rcases h with ⟨h0, rfl, rfl⟩ | ⟨ok, V0, gr, gt, sv, rv, go, gp, gs, ct, Pf, Sf, P1, P2, lv, _, _, hX, h⟩
  · refine (replayD (fun _ => 0) (fun _ => 0) F L v vl W hv hB hl hn (fun e => absurd e h0)).mono ?_
    rintro e w' ⟨xa, z, rfl, hb', h⟩
    rcases h with ⟨_, rfl, rfl⟩ | ⟨h1, _⟩ | ⟨h1, _⟩
    · exact ⟨_, rfl, hb', .inl ⟨rfl, rfl⟩⟩
    · exact absurd h1 h0
    · exact absurd h1 h0
  · refine (replayD Pf Sf F L v vl W hv hB hl hn (fun _ => hX.wrd)).mono ?_
    rintro e w' ⟨xa, z', rfl, hb', h'⟩
    have h0 := chkF_ok ok
    have hq := dcQ_eq Pf F.steps.length L
    rcases h' with ⟨h1, _⟩ | ⟨_, rfl, rfl, h2⟩ | ⟨_, rfl, k, ev, R, rfl, rfl, rfl, rfl, h2, h3⟩
    · exact absurd h0 h1
    · rw [h2] at hq
      rcases h with ⟨h4, _⟩ | ⟨_, rfl, rfl⟩
      · rw [if_pos h4] at hq; cases hq
      · exact ⟨_, rfl, hb', .inl ⟨rfl, rfl⟩⟩
    · rw [h2] at hq
      rcases h with ⟨h4, rfl, rfl⟩ | ⟨h4, _⟩
      · rw [if_pos h4] at hq
        injection hq with hq
        subst hq
        exact ⟨_, rfl, hb', .inr ⟨gr, k, ev, lv, _, gt, sv, rv, go, ct, gp, gs, V0, P1, P2, rfl, rfl, ⟨(hX.over (hW)).over hb', h3, rfl, ok, h4, rpR_ok k.Pf L (newR_ok _ ok.ne _), rfl⟩⟩⟩
      · rw [if_neg h4] at hq; cases hq
theorem st_eqA (a b c d : Int) (w : World) : (Op.equalIn 10000 42 (.agg #[.int .i64 a, .int .i64 b, .int .i64 c, .int .i64 d]) (.agg #[.int .i64 a, .int .i64 b, .int .i64 c, .int .i64 d])).run Tryz.prog w = .ok true w := by
  have u3 := Tryz.underlying3
  have a3 := Tryz.isAgg3
  have z3 := Tryz.sizeOf3
  rw [show (10000 : Nat) = 9999 + 1 from rfl, run_equalIn_struct w 9999 _ _ _ (by simp [Program.fieldsOf, Tryz.underlying42]) (by kernel_rfl)]
  simp only [Program.fieldsOf, Tryz.underlying42]
  go_simp
section
variable {F : Fw} {L : List Ev} {gr : Nat} {k : SdK} {ev lv : Value} {R : Rs} {gt : Nat} {sv rv : Value} {go ct gp gs : Nat} {V0 : World} {P1 : List (Sp × Value)} {P2 : List (Rl × Value)} {W W' : World}
theorem Bo.over (h : Bo F L gr k ev lv R gt sv rv go ct gp gs V0 P1 P2 W) (hb : Below W.heap.size W W') : Bo F L gr k ev lv R gt sv rv go ct gp gs V0 P1 P2 W' := ⟨h.x.over hb, h.d.over hb, h.f, h.ok, h.lg, h.rs, h.eq⟩
theorem Bo.ord (h : Bo F L gr k ev lv R gt sv rv go ct gp gs V0 P1 P2 W) : O.Ord k.F.steps.length (O.ordL k.F.steps.length (prs k.F.steps)) k.Pf k.Sf := by rw [h.f]; exact h.x.wrd
theorem Bo.ne (h : Bo F L gr k ev lv R gt sv rv go ct gp gs V0 P1 P2 W) : R.log ≠ [] := by rw [h.eq]; exact rpR_ne _ _ _ _
theorem Bo.statusD (h : Bo F L gr k ev lv R gt sv rv go ct gp gs V0 P1 P2 W) : Calls Tryz.prog 16 #[.pointer (some ⟨k.gd, 0, none⟩)] W fun e w' => e = .returned (.int .i64 R.stat) ∧ w' = W := by
  obtain ⟨sk, en, h1, h2⟩ := h.d.at'
  exact Go.Proofs.YtahfobbiaimoiaaGreatDoor.statusD h1 h2
theorem Bo.readyD (h : Bo F L gr k ev lv R gt sv rv go ct gp gs V0 P1 P2 W) : Calls Tryz.prog 18 #[.pointer (some ⟨k.gd, 0, none⟩)] W fun e w' => e = .returned (.int .u64 (rdyR R.S.length k.Pf R : Nat)) ∧ w' = W := by
  obtain ⟨sk, en, h1, h2⟩ := h.d.at'
  have hw := h.ord
  rw [← h.d.len] at hw
  exact Go.Proofs.YtahfobbiaimoiaaGreatDoor.readyD h1 h2 hw (h.d.prdN h.ord)
theorem Bo.sts (h : Bo F L gr k ev lv R gt sv rv go ct gp gs V0 P1 P2 W) : W.cell? ⟨k.gd, 4, none⟩ = some (.slice (some ⟨k.hd, 0, none⟩) R.S.length k.ct1) ∧ R.S.length ≤ k.ct1 ∧ ∀ i s, R.S[i]? = some s → W.cell? ⟨k.hd, i * 4, none⟩ = some (.int .i64 s.st) ∧ W.cell? ⟨k.hd, i * 4 + 1, none⟩ = some (.int .i64 s.us) ∧ W.cell? ⟨k.hd, i * 4 + 2, none⟩ = some (.int .i64 s.ca) ∧ W.cell? ⟨k.hd, i * 4 + 3, none⟩ = some (.int .i64 s.da) := by
  obtain ⟨sk, en, h1, h2⟩ := h.d.at'
  exact ⟨h1.cs.2.1, h1.cap, fun i s hs => h1.at hs⟩
end
end Go.Proofs.YtahfobbiaimoiaaGreatDoor
namespace Go.Proofs.YtahfobbiaimoiaaGreatDoor
open Go.RowKit
theorem evs_news {w : World} {ad : Addr} {L : List Ev} (hc : ∀ i e, L[i]? = some e → ∃ g f, some ad = some ⟨g, f, none⟩ ∧ w.cell? ⟨g, f + i * 4, none⟩ = some (.int .i64 e.tick) ∧ w.cell? ⟨g, f + i * 4 + 1, none⟩ = some (.int .i64 e.kind) ∧ w.cell? ⟨g, f + i * 4 + 2, none⟩ = some (.int .i64 e.step) ∧ w.cell? ⟨g, f + i * 4 + 3, none⟩ = some (.int .i64 e.user)) : ∀ j u, (cellsEv L)[j]? = some u → w.cell? (ad.add j) = some u := by
  intro j u hu
  have hj : j = j / 4 * 4 + j % 4 := by omega
  have h4 : j % 4 < 4 := Nat.mod_lt _ (by omega)
  unfold cellsEv at hu
  rw [hj, four_at evcells evcells_len L _ _ h4] at hu
  cases he : L[j / 4]? with
  | none => rw [he] at hu; cases hu
  | some e =>
    rw [he] at hu
    obtain ⟨g, f, e1, a0, a1, a2, a3⟩ := hc _ e he
    cases e1
    rw [hj, Addr.add_lit]
    have hr : j % 4 = 0 ∨ j % 4 = 1 ∨ j % 4 = 2 ∨ j % 4 = 3 := by omega
    rcases hr with h | h | h | h <;> rw [h] at hu ⊢ <;> cases hu
    · exact a0
    · exact a1
    · exact a2
    · exact a3
theorem owns_zeroE (w : World) : (w.alloc (.cells #[] 76)).ownsRow w.heap.size 76 4 (.slice (some ⟨w.heap.size, 0, none⟩) 0 0) 0 (cellsEv []) := ⟨rfl, .inr ⟨_, 0, #[], rfl, Nat.le_refl _, heap_new w _, Nat.le_refl _, by unfold maxLen; omega, rfl, rfl⟩⟩
set_option maxRecDepth 100000 in
set_option maxHeartbeats 1000000 in
theorem fewE (L : List Ev) (v : Value) (w : World) (hr : EvQ w v L) :
    Calls Tryz.prog 10 #[v] w fun e w' => ∃ v', e = .returned v' ∧ w'.ownsRow w.heap.size 76 4 v' (L.take 300).length (cellsEv (L.take 300)) ∧ Below w.heap.size w w' := by
  obtain ⟨oa, cap, rfl, hcap, hc⟩ := hr
  obtain ⟨i0, z0, hi, hz0, hz1, hz2, hz3⟩ := elE.inf
  have hc' := hide' hc
  clear hc
  go_enter Tryz.func10, Tryz.ntmps10
  by_cases hlong : 300 < L.length
  · obtain ⟨ad, rfl⟩ : ∃ ad, oa = some ad := by
      cases oa with
      | none => have := hcap.2 rfl; omega
      | some ad => exact ⟨ad, rfl⟩
    obtain ⟨g, o, e, _⟩ := hc'.out 0 L[0] (List.getElem?_eq_getElem (by omega))
    cases e
    have hcap1 := hcap.1
    have hlen : (cellsEv (L.take 300)).length = 300 * 4 := by rw [cellsEv_len, List.length_take]; omega
    have hnews : ∀ j u, (cellsEv (L.take 300))[j]? = some u → (w.alloc (.cells #[] 76)).cell? (Addr.add ⟨g, o, none⟩ j) = some u := fun j u hu => by
      have h := evs_news (L := L.take 300) (fun i e he => hc'.out i e (by
        obtain ⟨hj, _⟩ := List.getElem?_eq_some_iff.1 he
        rw [List.length_take] at hj
        rwa [List.getElem?_take_of_lt (by omega)] at he)) j u hu
      exact (((Below.refl w.heap.size w).alloc (Nat.le_refl _) _).cell (World.block_lt_of_cell? w _ h)).trans h
    have hone := evcells_one (L.take 300)
    clear hcap
    go_wp2_with (at_builtin; refine wpList_append_own _ rfl _ _ 26 rfl w.heap.size 76 i0 z0 4 32 Tryz.underlying26 hi hz0 hz1 hz2 hz3 (by decide) _ 0 (cellsEv []) rfl (owns_zeroE w) ⟨g, o, none⟩ 300 cap (cellsEv (L.take 300)) rfl hlen hnews hone (by unfold maxLen; omega) (by omega) (by simp) ?_; intro v1 w1 hown1 hgrow1 hnil)
    go_ret
    have hown : w1.ownsRow w.heap.size 76 4 v1 (0 + 300) (cellsEv (L.take 300)) := hown1
    rw [show 0 + 300 = (L.take 300).length by rw [List.length_take]; omega] at hown
    exact ⟨_, rfl, hown, ((Below.refl _ w).alloc (Nat.le_refl _) _).grown hgrow1 (by simp) (fun j ej => by cases ej; exact Nat.le_refl _)⟩
  · have hle : L.length ≤ 300 := by omega
    rw [List.take_of_length_le hle]
    cases oa with
    | none =>
      obtain ⟨h1, h2⟩ := hcap
      have := h2 rfl
      subst this
      have : L = [] := List.eq_nil_of_length_eq_zero (by omega)
      subst this
      go_wp2_with (at_builtin; refine wpList_append_own_none rfl _ _ 26 rfl w.heap.size 76 i0 4 Tryz.underlying26 hi _ 0 (cellsEv []) rfl (owns_zeroE w) rfl ?_)
      go_ret
      exact ⟨_, rfl, owns_zeroE w, (Below.refl _ w).alloc (Nat.le_refl _) _⟩
    | some ad =>
      have hnews : ∀ j u, (cellsEv L)[j]? = some u → (w.alloc (.cells #[] 76)).cell? (ad.add j) = some u := fun j u hu => by
        have h := evs_news hc'.out j u hu
        exact (((Below.refl w.heap.size w).alloc (Nat.le_refl _) _).cell (World.block_lt_of_cell? w _ h)).trans h
      have hlen := cellsEv_len L
      have hone := evcells_one L
      have hlong' : ¬ (300 : Int) < (L.length : Int) := by omega
      clear hcap
      go_wp2_with (at_builtin; refine wpList_append_own _ rfl _ _ 26 rfl w.heap.size 76 i0 z0 4 32 Tryz.underlying26 hi hz0 hz1 hz2 hz3 (by decide) _ 0 (cellsEv []) rfl (owns_zeroE w) ad L.length cap (cellsEv L) rfl hlen hnews hone (by unfold maxLen; omega) (by omega) (by simp) ?_; intro v1 w1 hown1 hgrow1 hnil)
      go_ret
      have hown : w1.ownsRow w.heap.size 76 4 v1 (0 + L.length) (cellsEv L) := hown1
      rw [Nat.zero_add] at hown
      exact ⟨_, rfl, hown, ((Below.refl _ w).alloc (Nat.le_refl _) _).grown hgrow1 (by simp) (fun j ej => by cases ej; exact Nat.le_refl _)⟩
end Go.Proofs.YtahfobbiaimoiaaGreatDoor

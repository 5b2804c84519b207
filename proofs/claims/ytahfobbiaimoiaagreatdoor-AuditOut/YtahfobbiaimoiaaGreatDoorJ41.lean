/- few: events in new memory. -/
import Derived.Test.YtahfobbiaimoiaaGreatDoorJ15
import Derived.Test.YtahfobbiaimoiaaGreatDoorJ28
import Derived.Test.YtahfobbiaimoiaaGreatDoorJ32
import Derived.Test.YtahfobbiaimoiaaGreatDoorJ35
import Derived.Test.YtahfobbiaimoiaaGreatDoorJ36
import Derived.Test.YtahfobbiaimoiaaGreatDoorJ40
import Derived.Deep.RegionHeld3
import Derived.Laws.AppendOwnNone
namespace Go.Proofs.YtahfobbiaimoiaaGreatDoor
open Go.RowKit
/-- Between two marks nothing has turned, but for one block. -/
def Wd (lo x : Nat) (V W : World) : Prop := ∀ k, lo ≤ k → k < V.heap.size → k ≠ x → W.heap[k]? = V.heap[k]?
theorem Wd.refl (lo x : Nat) (V : World) : Wd lo x V V := fun _ _ _ _ => rfl
theorem Wd.trans {lo x : Nat} {V W W' : World} (h : Wd lo x V W) (_hs : V.heap.size ≤ W.heap.size) (k : ∀ k, lo ≤ k → k < V.heap.size → k ≠ x → W'.heap[k]? = W.heap[k]?) : Wd lo x V W' := fun j h1 h2 h3 => (k j h1 h2 h3).trans (h j h1 h2 h3)
theorem Wd.below {lo x : Nat} {V W W' : World} (h : Wd lo x V W) (hs : V.heap.size ≤ W.heap.size) (hb : Below W.heap.size W W') : Wd lo x V W' := fun j h1 h2 h3 => (hb.block j (by omega)).trans (h j h1 h2 h3)
/-- The world without its blocks. -/
def emp (W : World) : World := { W with heap := #[] }
theorem mat_win {w V W : World} {go n : Nat} {M : Nat → Nat → Bool} {ov : Value} {gr : Nat → Nat} (h : O.Mat w go n n M ov gr V) {lo x : Nat} (hlo : lo ≤ w.heap.size) (hx : x < w.heap.size) (hW : Wd lo x V W) : O.Mat (emp W) go n n M ov gr W where
  ob := (hW go (by have := h.ge; omega) (Array.getElem?_eq_some_iff.1 h.ob).1 (by have := h.ge; omega)).trans h.ob
  outer := own_down (own_same h.outer fun k hk e => by have := own_ge' h.outer e; exact hW k (by omega) hk (by omega)) (Nat.zero_le _)
  inner := fun i hi => own_down (own_same (h.inner i hi) fun k hk e => by have := own_ge' (h.inner i hi) e; exact hW k (by omega) hk (by omega)) (Nat.zero_le _)
  dist := h.dist
  ge := Nat.zero_le _
  bl := ⟨rfl, rfl, rfl, Nat.zero_le _, fun k hk => absurd hk (Nat.not_lt_zero _)⟩
/-- The document's run with what it reads. -/
structure Dc (lo : Nat) (V1 : World) (F : Fw) (gd gt : Nat) (sv rv : Value) (go ct : Nat) (Q1 : List (Sp × Value)) (Q2 : List (Rl × Value)) (ev : Value) (R : Rs) (W : World) : Prop where
  at' : ∃ sk en, RzAt W 0 gd gt F.name sv rv go ct ev R.S R.log sk en ∧ SkE R sk en
  prd : ∀ V, Wd lo gd V1 V → ∀ a : Int, Calls Tryz.prog 98 #[.pointer (some ⟨go, 0, none⟩), .int .i64 a] V fun e w' => e = .returned (.int .u64 (O.accB (fun i => O.befI (O.ordL F.steps.length (prs F.steps)) i a) F.steps.length : Int)) ∧ w' = V
  len : R.S.length = F.steps.length
  m1 : Q1.map Prod.fst = F.steps
  m2 : Q2.map Prod.fst = F.rules
  t1 : TwP lo V1 sv Q1
  t2 : TwS lo V1 rv Q2
  win : Wd lo gd V1 W
  hi : V1.heap.size ≤ W.heap.size
  gl : lo ≤ gd ∧ gd < V1.heap.size
  gt : V1.heap.size ≤ gt
  ge : ∀ g, ev.ownBlock = some g → V1.heap.size ≤ g
  kd : ∃ cs, V1.heap[gd]? = some (.cells cs 40 (0, 0))
/-- What New of the document answers. -/
def NewZ (F : Fw) (tick : Int) (w : World) (e : Ending) (w' : World) : Prop :=
  (chkF F ≠ 0 ∧ e = .returned (.tuple #[.pointer none, .int .i64 (chkF F)]) ∧ Below w.heap.size w w') ∨
  (FlOk F ∧ ∃ V1 gd gt sv rv go ct Q1 Q2 ev, e = .returned (.tuple #[.pointer (some ⟨gd, 0, none⟩), .int .i64 0]) ∧ Below w.heap.size w w' ∧ Dc w.heap.size V1 F gd gt sv rv go ct Q1 Q2 ev (newR F.steps.length tick) w')
/-- New's end: the event laid, the run stands. -/
theorem Nq.fin {F : Fw} {tick : Int} {w V1 W w' : World} {gd go gt ct : Nat} {sv rv : Value} {Q1 : List (Sp × Value)} {Q2 : List (Rl × Value)} {x : Ending} (hlo : w.heap.size ≤ gd) (hgd : gd < V1.heap.size) (hst : W.ownsRow V1.heap.size 42 4 (.slice (some ⟨gt, 0, none⟩) F.steps.length ct) F.steps.length (cellsSS (List.replicate F.steps.length ⟨0, -1, 0, 0⟩))) (hfr : FrR gd gd (.slice none 0 0) V1 W) (hb : Below w.heap.size w V1)
    (hp : ∀ V, Wd w.heap.size gd V1 V → ∀ a : Int, Calls Tryz.prog 98 #[.pointer (some ⟨go, 0, none⟩), .int .i64 a] V fun e w' => e = .returned (.int .u64 (O.accB (fun i => O.befI (O.ordL F.steps.length (prs F.steps)) i a) F.steps.length : Int)) ∧ w' = V)
    (m1 : Q1.map Prod.fst = F.steps) (m2 : Q2.map Prod.fst = F.rules) (t1 : TwP w.heap.size V1 sv Q1) (t2 : TwS w.heap.size V1 rv Q2) (hkd : ∃ cs, V1.heap[gd]? = some (.cells cs 40 (0, 0)))
    (hx : EvR W 0 gd gt F.name sv rv go ct (.slice none 0 0) (List.replicate F.steps.length ⟨0, -1, 0, 0⟩) ([] ++ [⟨tick, 1, -1, -1⟩]) false 0 x w') : x = .returned (.tuple #[]) ∧ Below w.heap.size w w' ∧ ∃ ev, Dc w.heap.size V1 F gd gt sv rv go ct Q1 Q2 ev (newR F.steps.length tick) w' := by
  obtain ⟨rfl, ev', h1, h2, h3⟩ := hx
  have hgt : V1.heap.size ≤ gt := own_ge' hst rfl
  have hb1 := hb.size
  have hz := hfr.size
  have hz2 := h2.size
  have hbl : ∀ k, k < V1.heap.size → k ≠ gd → w'.heap[k]? = V1.heap[k]? := fun k hk hn => (h2.blk k (by omega) hn (by omega) (fun e => by cases e)).trans (hfr.blk k hk hn hn (fun e => by cases e))
  refine ⟨rfl, ⟨h2.os.trans (hfr.os.trans hb.os), h2.tape.trans (hfr.tape.trans hb.tape), h2.output.trans (hfr.output.trans hb.output), by omega, fun k hk => (hbl k (by omega) (by omega)).trans (hb.block k hk)⟩, ev', ⟨⟨false, 0, h1, .inr ⟨rfl, rfl, rfl⟩⟩, hp, by simp [newR], m1, m2, t1, t2, fun k _ hk hn => hbl k hk hn, by omega, ⟨hlo, hgd⟩, hgt, fun g hg => ?_, hkd⟩⟩
  rcases h3 g hg with e | e
  · cases e
  · omega
theorem cellsSS_snoc (S : List SS) (s : SS) : cellsSS (S ++ [s]) = cellsSS S ++ sscells s := by simp [cellsSS]
theorem sscells_one (s : SS) : ∀ u ∈ sscells s, u.oneCell' = true := by
  intro u hu
  simp [sscells] at hu
  rcases hu with rfl | rfl | rfl | rfl <;> rfl
/-- The run's block and its row of states while they are made. -/
structure Nq (V1 : World) (gd : Nat) (nm : ByteArray) (sv rv : Value) (go : Nat) (o : Option Addr) (c k : Nat) (W : World) : Prop where
  ob : W.heap[gd]? = some (.cells #[.string nm, sv, rv, .pointer (some ⟨go, 0, none⟩), .slice o c k, .slice none 0 0, .bool false, .int .i64 0] 40 (0, 0))
  st : W.ownsRow V1.heap.size 42 4 (.slice o c k) c (cellsSS (List.replicate c ⟨0, -1, 0, 0⟩))
  fr : FrR gd gd (.slice none 0 0) V1 W
theorem Nq.push {V1 W w2 : World} {gd : Nat} {nm : ByteArray} {sv rv : Value} {go : Nat} {o : Option Addr} {c k g cap : Nat} (h : Nq V1 gd nm sv rv go o c k W) (hlt : gd < V1.heap.size) (ho : w2.ownsRow V1.heap.size 42 4 (.slice (some ⟨g, 0, none⟩) (c + 1) cap) (c + 1) (cellsSS (List.replicate c ⟨0, -1, 0, 0⟩) ++ sscells ⟨0, -1, 0, 0⟩)) (hg : W.grownBy w2 (Value.slice o c k).ownBlock) :
    (w2.cell? ⟨gd, 4, none⟩ = some (.slice o c k) ∧ w2.frozen? ⟨gd, 4, none⟩ = false) ∧ Nq V1 gd nm sv rv go (some ⟨g, 0, none⟩) (c + 1) cap (w2.setCell ⟨gd, 4, none⟩ (.slice (some ⟨g, 0, none⟩) (c + 1) cap)) := by
  have hz := h.fr.size
  have hne : ∀ x, (Value.slice o c k).ownBlock = some x → V1.heap.size ≤ x := fun x e => own_ge' h.st e
  have k1 : w2.heap[gd]? = W.heap[gd]? := hg.block gd (by omega) fun e => by have := hne _ e.symm; omega
  have ob2 := k1.trans h.ob
  have ho2 : w2.ownsRow V1.heap.size 42 4 (.slice (some ⟨g, 0, none⟩) (c + 1) cap) (c + 1) (cellsSS (List.replicate (c + 1) ⟨0, -1, 0, 0⟩)) := by
    rw [List.replicate_succ', cellsSS_snoc]; exact ho
  refine ⟨⟨by simp [World.cell?, ob2], by simp [World.frozen?, ob2]⟩, heap_set_at _ ob2, own_same ho2 fun x _ e => Below.heap_setCell _ _ _ _ fun e2 => ?_, FrR.set ⟨hg.os.trans h.fr.os, hg.tape.trans h.fr.tape, hg.output.trans h.fr.output, Nat.le_trans hz hg.size, fun x hx h1 h2 h3 => (hg.block x (by omega) fun e => by have := hne _ e.symm; omega).trans (h.fr.blk x hx h1 h2 h3)⟩ 4 _⟩
  have := own_ge' ho2 e
  subst e2
  omega
set_option maxRecDepth 100000 in
set_option maxHeartbeats 8000000 in
theorem newD (F : Fw) (v : Value) (tick : Int) (w : World) (hv : flV w v F) (hB : FlB F) : Calls Tryz.prog 51 #[v, .int .i64 tick] w (NewZ F tick w) := by
  have hv0 := hide' hv
  obtain ⟨sv0, rv0, rfl, hs, hr⟩ := hv
  have hs0 := hide' hs
  obtain ⟨oa, cap, rfl⟩ := hs.shape
  obtain ⟨ob, cb, rfl⟩ := hr.shape
  have KC : Hid (∀ W, Below w.heap.size w W → Calls Tryz.prog 50 #[.agg #[.string F.name, .slice oa F.steps.length cap, .slice ob F.rules.length cb]] W (flErr W (chkF F))) := fun W hW => checkD F _ W (hv0.out.below hW (Nat.le_refl _)) hB
  have KT : Hid (∀ W, Below w.heap.size w W → Calls Tryz.prog 84 #[.agg #[.string F.name, .slice oa F.steps.length cap, .slice ob F.rules.length cb]] W (CopR W F)) := fun W hW => twinD F _ W (hv0.out.below hW (Nat.le_refl _)) hB
  have KP : Hid (∀ W, Below w.heap.size w W → Calls Tryz.prog 83 #[.agg #[.string F.name, .slice oa F.steps.length cap, .slice ob F.rules.length cb]] W fun e w' => ∃ v', e = .returned v' ∧ O.PairsAt w' v' (prs F.steps) ∧ Below W.heap.size W w') := fun W h => pairsD _ _ _ ob F.rules.length cb W (hs0.out.below h (Nat.le_refl _)) hB.sl (fun s hs => (hB.st s hs).1)
  have KO : Hid (∀ W v, O.PairsAt W v (prs F.steps) → Calls Tryz.prog 82 #[.int .i64 (F.steps.length : Nat), v] W fun e w' => ∃ po z, e = .returned (.tuple #[.pointer po, .int .i64 z]) ∧ Hid (O.RefC W (F.steps.length : Nat) (prs F.steps) po z w') ∧ Below W.heap.size W w') := fun W v h => O.refT _ v _ W h (by have := prT_len (L := F.steps) (fun s hs => (hB.st s hs).1) F.steps.length; have := hB.sl; show (prT F.steps F.steps.length).length ≤ _; omega)
  have hOk : Hid (chkF F = 0 → FlOk F) := fun h => chkF_zero h
  have hR1 : Hid (∀ w', chkF F ≠ 0 → Below w.heap.size w w' → NewZ F tick w (.returned (.tuple #[.pointer none, .int .i64 (chkF F)])) w') := fun w' h1 h2 => .inl ⟨h1, rfl, h2⟩
  have hR2 : Hid (∀ V1 gd gt sv rv go ct Q1 Q2 ev w', FlOk F → Below w.heap.size w w' → Dc w.heap.size V1 F gd gt sv rv go ct Q1 Q2 ev (newR F.steps.length tick) w' → NewZ F tick w (.returned (.tuple #[.pointer (some ⟨gd, 0, none⟩), .int .i64 0])) w') := fun V1 gd gt sv rv go ct Q1 Q2 ev w' h1 h2 h3 => .inr ⟨h1, V1, gd, gt, sv, rv, go, ct, Q1, Q2, ev, rfl, h2, h3⟩
  generalize NewZ F tick w = QQ at *
  clear hs hr hs0 hv0 hB
  have D1 := hide' (heap_alloc_new w (.cells #[.string F.name, .slice oa F.steps.length cap, .slice ob F.rules.length cb] 25))
  have B0 : Hid (Below w.heap.size w (w.alloc (.cells #[.string F.name, .slice oa F.steps.length cap, .slice ob F.rules.length cb] 25))) := (Below.refl _ w).alloc (Nat.le_refl _) _
  have B1 : Hid (w.heap.size + 1 = (w.alloc (.cells #[.string F.name, .slice oa F.steps.length cap, .slice ob F.rules.length cb] 25)).heap.size) := by show _ = _; simp
  go_enter Tryz.func51, Tryz.ntmps51
  go_wp2_with fail
  generalize w.alloc (.cells #[.string F.name, .slice oa F.steps.length cap, .slice ob F.rules.length cb] 25) = W1 at *
  have hK : Hid (∀ W, Below W1.heap.size W1 W → Below w.heap.size w W ∧ W.cell? ⟨w.heap.size, 0, none⟩ = some (.string F.name) ∧ W.cell? ⟨w.heap.size, 1, none⟩ = some (.slice oa F.steps.length cap) ∧ W.cell? ⟨w.heap.size, 2, none⟩ = some (.slice ob F.rules.length cb)) := fun W hW => by
    have e1 := (hW.block _ (Array.getElem?_eq_some_iff.1 D1.out).1).trans D1.out
    exact ⟨B0.out.trans (hW.mono B0.out.size), by simp [World.cell?, e1], by simp [World.cell?, e1], by simp [World.cell?, e1]⟩
  clear D1
  refine (KC.out _ B0.out).mono ?_
  rintro e w2 ⟨rfl, hb2⟩
  obtain ⟨hB2, k0, k1, k2⟩ := hK.out w2 hb2
  have B2 := hide' hB2
  have b2 := hide' hb2
  clear hb2 hB2 KC B0
  by_cases h0 : chkF F = 0
  · have ok := hide' (hOk.out h0)
    rw [h0]
    clear hR1 hOk h0
    go_wp2_with fail
    refine (KT.out _ B2.out).mono ?_
    intro e w3 hC
    obtain ⟨o1, c1, o2, c2, P1, P2, rfl, hF, hb3⟩ := hC.open
    have B3 := hide' (B2.out.trans (hb3.mono B2.out.size))
    have b3 := hide' (b2.out.trans (hb3.mono b2.out.size))
    have Z3 : Hid (w.heap.size + 1 ≤ w3.heap.size) := by show _ ≤ _; rw [B1.out]; exact b3.out.size
    have hF3 := hide' (hF.over ((Below.refl _ w3).alloc (Nat.le_refl _) (.cells #[.string F.name, .slice o1 F.steps.length c1, .slice o2 F.rules.length c2, .pointer none, .slice none 0 0, .slice none 0 0, .bool false, .int .i64 0] 40)))
    have D4 := hide' (heap_alloc_new w3 (.cells #[.string F.name, .slice o1 F.steps.length c1, .slice o2 F.rules.length c2, .pointer none, .slice none 0 0, .slice none 0 0, .bool false, .int .i64 0] 40))
    have B4 := hide' (B3.out.alloc B3.out.size (.cells #[.string F.name, .slice o1 F.steps.length c1, .slice o2 F.rules.length c2, .pointer none, .slice none 0 0, .slice none 0 0, .bool false, .int .i64 0] 40))
    have b4 := hide' (b3.out.alloc b3.out.size (.cells #[.string F.name, .slice o1 F.steps.length c1, .slice o2 F.rules.length c2, .pointer none, .slice none 0 0, .slice none 0 0, .bool false, .int .i64 0] 40))
    have hgd4 : Hid (w3.heap.size < (w3.alloc (.cells #[.string F.name, .slice o1 F.steps.length c1, .slice o2 F.rules.length c2, .pointer none, .slice none 0 0, .slice none 0 0, .bool false, .int .i64 0] 40)).heap.size) := by show _ < _; simp
    have hw2 : w.heap.size ≤ w2.heap.size := B2.out.size
    clear KT hC hF hb3 B3 b3 B2 b2
    go_wp2_with fail
    generalize hgd : w3.heap.size = gd at *
    generalize w3.alloc (.cells #[.string F.name, .slice o1 F.steps.length c1, .slice o2 F.rules.length c2, .pointer none, .slice none 0 0, .slice none 0 0, .bool false, .int .i64 0] 40) = W4 at *
    clear hgd k0 k1 k2
    have B4d := hide' (B4.out.drew)
    have b4d := hide' (b4.out.drew)
    have hlo : Hid (w.heap.size ≤ gd) := by show _ ≤ _; have := Z3.out; omega
    have hS : Hid (∀ V, Below W4.heap.size W4 V → (V.cell? ⟨w.heap.size, 0, none⟩ = some (.string F.name) ∧ V.cell? ⟨w.heap.size, 1, none⟩ = some (.slice oa F.steps.length cap) ∧ V.cell? ⟨w.heap.size, 2, none⟩ = some (.slice ob F.rules.length cb))) := fun V hV => (hK.out V (b4.out.trans (hV.mono b4.out.size))).2
    have hS2 : Hid (∀ V u, Below W4.heap.size W4 V → ((V.setCell ⟨gd, 3, none⟩ u).cell? ⟨w.heap.size, 0, none⟩ = some (.string F.name) ∧ (V.setCell ⟨gd, 3, none⟩ u).cell? ⟨w.heap.size, 1, none⟩ = some (.slice oa F.steps.length cap) ∧ (V.setCell ⟨gd, 3, none⟩ u).cell? ⟨w.heap.size, 2, none⟩ = some (.slice ob F.rules.length cb))) := fun V u hV => by
      obtain ⟨e0, e1, e2⟩ := hS.out V hV
      have := Z3.out
      have eb := Below.heap_setCell V ⟨gd, 3, none⟩ u w.heap.size (show w.heap.size ≠ gd by omega)
      exact ⟨blk_cell e0 eb, blk_cell e1 eb, blk_cell e2 eb⟩
    have hG : Hid (∀ V, Below W4.heap.size W4 V → V.cell? ⟨gd, 3, none⟩ = some (.pointer none) ∧ V.frozen? ⟨gd, 3, none⟩ = false ∧ V.heap[gd]? = some (.cells #[.string F.name, .slice o1 F.steps.length c1, .slice o2 F.rules.length c2, .pointer none, .slice none 0 0, .slice none 0 0, .bool false, .int .i64 0] 40 (0, 0))) := fun V hV => by
      have e := (hV.block gd hgd4.out).trans D4.out
      exact ⟨by simp [World.cell?, e], by simp [World.frozen?, e], e⟩
    have hd0 : Hid (Below W4.heap.size W4 W4.drew) := (Below.refl _ _).drew
    go_region_held3 (fun V => V.cell? ⟨w.heap.size, 0, none⟩ = some (.string F.name) ∧ V.cell? ⟨w.heap.size, 1, none⟩ = some (.slice oa F.steps.length cap) ∧ V.cell? ⟨w.heap.size, 2, none⟩ = some (.slice ob F.rules.length cb)) (first | (exact hS.out _ hd0.out) | (exact hS.out _ h6.out) | (exact hS.out _ h7.out) | (exact hS2.out _ _ h7.out)) (first | (go_at_call 82; refine (KO.out _ _ hpa).mono ?_; rintro e w7 ⟨po, z, rfl, hC7, hb7⟩; have h7 := hide' (h6.out.trans (hb7.mono h6.out.size)); obtain ⟨d7, f7, e7⟩ := hG.out _ h7.out) | (go_at_call 83; refine (KP.out _ B4d.out).mono ?_; rintro e w6 ⟨pv, rfl, hpa, hb6⟩; have h6 : Hid (Below W4.heap.size W4 w6) := hd0.out.trans hb6))
    obtain ⟨go, ov, gq, hpo, hM⟩ : ∃ go ov gq, (po = some ⟨go, 0, none⟩ ∧ z = 0) ∧ O.Mat w6 go F.steps.length F.steps.length (O.ordL F.steps.length (prs F.steps)) ov gq w7 := by
      rcases hC7.out with ⟨h, _⟩ | ⟨_, h, _⟩ | ⟨_, _, e, go', ov, gq, e2, hM⟩
      · exact absurd (prs_good (by have := ok.out.le; omega) ok.out.st) h
      · exact absurd h ok.out.cy
      · exact ⟨go', ov, gq, ⟨e2, e⟩, hM⟩
    obtain ⟨rfl, rfl⟩ := hpo
    have hn12 := ok.out.le
    have hn0 := ok.out.ne
    have hg6 : Hid (gd < w6.heap.size) := Nat.lt_of_lt_of_le hgd4.out h6.out.size
    have hg7 : Hid (gd < w7.heap.size) := Nat.lt_of_lt_of_le hgd4.out h7.out.size
    have hb7' : Hid (Below w.heap.size w w7) := (hS.out w7 h7.out) |> fun _ => (hK.out w7 (b4.out.trans (h7.out.mono b4.out.size))).1
    have hpr : Hid (∀ V, Wd w.heap.size gd w7 V → ∀ a : Int, Calls Tryz.prog 98 #[.pointer (some ⟨go, 0, none⟩), .int .i64 a] V fun e w' => e = .returned (.int .u64 (O.accB (fun i => O.befI (O.ordL F.steps.length (prs F.steps)) i a) F.steps.length : Int)) ∧ w' = V) := fun V hV a => O.refPreds (mat_win hM (lo := w.heap.size) (x := gd) (by have := hlo.out; have := hg6.out; omega) hg6.out hV) (by omega) (fun a b hab => O.ordL_in (prs_good (by omega) ok.out.st).2 a b hab) a
    have hF7 := hide' (hF3.out.over h7.out)
    have hN0 : Hid (Nq w7 gd F.name (.slice o1 F.steps.length c1) (.slice o2 F.rules.length c2) go none 0 0 (w7.setCell ⟨gd, 3, none⟩ (.pointer (some ⟨go, 0, none⟩)))) := ⟨heap_set_at _ e7, World.ownsRow_nil _ _ _ _, (FrR.refl gd gd _ w7).set 3 _⟩
    have hkd : Hid (∃ cs, w7.heap[gd]? = some (.cells cs 40 (0, 0))) := ⟨_, e7⟩
    have t1 := hide' (hF7.out.t1.down hw2)
    have t2 := hide' (hF7.out.t2.down hw2)
    have m1 := hF7.out.m1
    have m2 := hF7.out.m2
    have c1V : Hid (∀ V, FrR gd gd (.slice none 0 0) w7 V → V.cell? ⟨w.heap.size, 1, none⟩ = some (.slice oa F.steps.length cap)) := fun V hV => by
      have e := (hS.out w7 h7.out).2.1
      have := Z3.out
      exact blk_cell e (hV.blk w.heap.size (cell_lt e) (by omega) (by omega) (fun e => by cases e))
    generalize w7.setCell ⟨gd, 3, none⟩ (.pointer (some ⟨go, 0, none⟩)) = W8 at *
    clear hM hC7 hpa KO KP hS hS2 hG hF7 hF3 hK h6 h7 hb6 hb7 B4 b4 B4d b4d D4 hd0 d7 f7 e7 hgd4
    go_wp2
    go_loopw [8] (fun j wr => ∃ (c : Nat) (o : Option Addr) (k : Nat), c ≤ F.steps.length ∧ j = .int .i64 c ∧ Hid (Nq w7 gd F.name (.slice o1 F.steps.length c1) (.slice o2 F.rules.length c2) go o c k wr)) (fun j _ => ((F.steps.length : Int) - intOf j).toNat)
    case atStart => exact ⟨0, none, 0, Nat.zero_le _, rfl, hN0⟩
    case round =>
      clear hN0
      obtain ⟨c, o, k, hcl, rfl, hN⟩ := hrel
      have k1 := c1V.out wr hN.out.fr
      have hcell : wr.cell? ⟨gd, 4, none⟩ = some (.slice o c k) := by simp [World.cell?, hN.out.ob]
      by_cases hlt : c < F.steps.length
      · have hB7 : w7.heap.size ≤ wr.heap.size := hN.out.fr.size
        go_wp2_with (at_builtin; refine app1L elS rfl (.tmp 41) (.tmp 43) rfl w7.heap.size wr (.slice o c k) c (cellsSS (List.replicate c ⟨0, -1, 0, 0⟩)) (sscells ⟨0, -1, 0, 0⟩) rfl rfl hN.out.st rfl (sscells_one _) hB7 (by omega) ?_; intro g cap9 w9 hown hgr hnw; obtain ⟨⟨d9, f9⟩, hN9⟩ := hN.out.push hg7.out hown hgr; have hN9' := hide' hN9; clear hown hgr hnw hN9)
        exact ⟨⟨c + 1, _, _, by omega, by go_num, hN9'⟩, by simp [intOf]; omega⟩
      · obtain rfl : c = F.steps.length := by omega
        obtain ⟨gt, rfl⟩ : ∃ gt, o = some ⟨gt, 0, none⟩ := by
          rcases hN.out.st.2 with ⟨_, h⟩ | ⟨g, _, _, e, _⟩
          · exact absurd h hn0
          · exact ⟨g, by cases e; rfl⟩
        have hZ : RzAt wr 0 gd gt F.name (.slice o1 F.steps.length c1) (.slice o2 F.rules.length c2) go k (.slice none 0 0) (List.replicate F.steps.length ⟨0, -1, 0, 0⟩) [] false 0 := ⟨by rw [List.length_replicate]; exact hN.out.ob, by rw [List.length_replicate]; exact own_down hN.out.st (Nat.zero_le _), World.ownsRow_nil _ _ _ _⟩
        have KE : Hid (Calls Tryz.prog 85 #[.pointer (some ⟨gd, 0, none⟩), .int .i64 tick, .int .i64 1, .int .i64 (-1), .int .i64 (-1)] wr fun x w' => x = .returned (.tuple #[]) ∧ Hid (QQ (.returned (.tuple #[.pointer (some ⟨gd, 0, none⟩), .int .i64 0])) w')) := (eventD hZ (by simp) (Nat.zero_le _) ⟨tick, 1, -1, -1⟩).mono fun x w' hx => by
          obtain ⟨e1, e2, ev', hD⟩ := Nq.fin hlo.out hg7.out hN.out.st hN.out.fr hb7'.out hpr.out m1 m2 t1.out t2.out hkd.out hx
          exact ⟨e1, hR2.out _ _ _ _ _ _ _ _ _ _ _ ok.out e2 hD⟩
        clear hN hZ hR2 hpr hkd t1 t2 ok hb7' c1V m1 m2
        go_wp2_with (go_at_call 85; refine KE.out.mono ?_; rintro e w9 ⟨rfl, hF9⟩)
        exact hF9.out
  · have hz : (chkF F == 0) = false := by rw [beq_eq_false_iff_ne]; exact h0
    have hF := hide' (hR1.out _ h0 B2.out)
    clear hR1 hR2 hOk h0
    generalize chkF F = z at *
    go_wp2
    exact hF.out
end Go.Proofs.YtahfobbiaimoiaaGreatDoor
namespace Go.Proofs.YtahfobbiaimoiaaGreatDoor
open Go.RowKit
theorem TwP.keptB {B : Nat} {W W' : World} {v : Value} {P : List (Sp × Value)} (h : TwP B W v P) (hk : ∀ k, B ≤ k → k < W.heap.size → W'.heap[k]? = W.heap[k]?) : TwP B W' v P := ⟨own_same h.row fun k hs e => hk k (own_ge' h.row e) hs, fun p hp => own_same (h.inner p hp) fun k hs e => hk k (own_ge' (h.inner p hp) e) hs⟩
theorem TwS.keptB {B : Nat} {W W' : World} {v : Value} {P : List (Rl × Value)} (h : TwS B W v P) (hk : ∀ k, B ≤ k → k < W.heap.size → W'.heap[k]? = W.heap[k]?) : TwS B W' v P := ⟨own_same h.row fun k hs e => hk k (own_ge' h.row e) hs, fun p hp => own_same (h.inner p hp) fun k hs e => hk k (own_ge' (h.inner p hp) e) hs⟩
section
variable {W : World} {B gr gt : Nat} {nm : ByteArray} {sv rv : Value} {go ct : Nat} {lv : Value} {R : Rs}
theorem RnAt.cf (h : RnAt W B gr gt nm sv rv go ct lv R) : W.cell? ⟨gr, 0, none⟩ = some (.string nm) ∧ W.cell? ⟨gr, 1, none⟩ = some sv ∧ W.cell? ⟨gr, 2, none⟩ = some rv := by
  refine ⟨?_, ?_, ?_⟩ <;> simp [World.cell?, h.ob]
set_option maxRecDepth 100000 in
set_option maxHeartbeats 1000000 in
theorem flowF {F : Fw} (h : RnAt W B gr gt F.name sv rv go ct lv R) (hv : ∀ V, Below W.heap.size W V → flV V (.agg #[.string F.name, sv, rv]) F) (hB : FlB F) :
    Calls Tryz.prog 22 #[.pointer (some ⟨gr, 0, none⟩)] W (CopR W F) := by
  have hb0 := (Below.refl _ W).alloc (Nat.le_refl _) (.cells #[.string ⟨#[]⟩, .slice none 0 0, .slice none 0 0] 25)
  obtain ⟨c0, c1, c2⟩ := (h.over hb0).cf
  have KC := hide' (copyOfF F _ _ (hv _ hb0) hB)
  have hQ : Hid (∀ w1 x, CopR (W.alloc (.cells #[.string ⟨#[]⟩, .slice none 0 0, .slice none 0 0] 25)) F x w1 → ∃ o1 n1 k1 o2 n2 k2, x = .returned (.agg #[.string F.name, .slice o1 n1 k1, .slice o2 n2 k2]) ∧ w1.heap[W.heap.size]? = some (.cells #[.string ⟨#[]⟩, .slice none 0 0, .slice none 0 0] 25 (0, 0)) ∧ CopR W F x (((w1.setCell ⟨W.heap.size, 0, none⟩ (.string F.name)).setCell ⟨W.heap.size, 1, none⟩ (.slice o1 n1 k1)).setCell ⟨W.heap.size, 2, none⟩ (.slice o2 n2 k2))) := fun w1 x ⟨s1, r1, P1, P2, e, m1, m2, t1, t2, hb⟩ => by
    obtain ⟨o1, n1, k1, e1⟩ := t1.shp
    obtain ⟨o2, n2, k2, e2⟩ := t2.shp
    subst e1 e2
    have hsz : (W.alloc (.cells #[.string ⟨#[]⟩, .slice none 0 0, .slice none 0 0] 25)).heap.size = W.heap.size + 1 := by simp
    have hkp : ∀ k, W.heap.size + 1 ≤ k → (((w1.setCell ⟨W.heap.size, 0, none⟩ (.string F.name)).setCell ⟨W.heap.size, 1, none⟩ (.slice o1 n1 k1)).setCell ⟨W.heap.size, 2, none⟩ (.slice o2 n2 k2)).heap[k]? = w1.heap[k]? := fun k hk => by
      rw [Below.heap_setCell _ _ _ _ (show k ≠ W.heap.size by omega), Below.heap_setCell _ _ _ _ (show k ≠ W.heap.size by omega), Below.heap_setCell _ _ _ _ (show k ≠ W.heap.size by omega)]
    rw [hsz] at t1 t2 hb
    refine ⟨o1, n1, k1, o2, n2, k2, e, (hb.block W.heap.size (by omega)).trans (heap_alloc_new _ _), _, _, P1, P2, e, m1, m2, (t1.keptB fun k hk _ => hkp k hk).down (by omega), (t2.keptB fun k hk _ => hkp k hk).down (by omega), ?_⟩
    have h1 : Below W.heap.size W w1 := ((Below.refl _ W).alloc (Nat.le_refl _) _).trans (hb.mono (by omega))
    exact ((h1.setCell (p := ⟨W.heap.size, 0, none⟩) (Nat.le_refl _) _).setCell (p := ⟨W.heap.size, 1, none⟩) (Nat.le_refl _) _).setCell (p := ⟨W.heap.size, 2, none⟩) (Nat.le_refl _) _
  clear h hv hB hb0
  go_enter Tryz.func22, Tryz.ntmps22
  go_wp2_with fail
  refine KC.out.mono ?_
  intro x w1 hX
  obtain ⟨o1, n1, k1, o2, n2, k2, rfl, hbk, hF⟩ := hQ.out w1 x hX
  have hF' := hide' hF
  obtain ⟨d0, d1, d2⟩ : w1.cell? ⟨W.heap.size, 0, none⟩ = some (.string ⟨#[]⟩) ∧ w1.cell? ⟨W.heap.size, 1, none⟩ = some (.slice none 0 0) ∧ w1.cell? ⟨W.heap.size, 2, none⟩ = some (.slice none 0 0) := by simp [World.cell?, hbk]
  obtain ⟨f0, f1, f2⟩ : w1.frozen? ⟨W.heap.size, 0, none⟩ = false ∧ w1.frozen? ⟨W.heap.size, 1, none⟩ = false ∧ w1.frozen? ⟨W.heap.size, 2, none⟩ = false := by simp [World.frozen?, hbk]
  have hz : W.heap.size < w1.heap.size := (Array.getElem?_eq_some_iff.1 hbk).1
  have r0 : (((w1.setCell ⟨W.heap.size, 0, none⟩ (.string F.name)).setCell ⟨W.heap.size, 1, none⟩ (.slice o1 n1 k1)).setCell ⟨W.heap.size, 2, none⟩ (.slice o2 n2 k2)).heap[W.heap.size]? = some (.cells #[.string F.name, .slice o1 n1 k1, .slice o2 n2 k2] 25 (0, 0)) := by
    rw [heap_set_at _ (heap_set_at _ (heap_set_at _ hbk))]
    rfl
  clear hQ KC hX hF hbk
  go_wp2
  exact bodyPost_ret (v := .agg #[.string F.name, .slice o1 n1 k1, .slice o2 n2 k2]) (by simp [results, Tryz.results22, go_sem, World.cell?, r0]) rfl hF'.out
theorem take_fill {l : List Int} {n c : Nat} {x : Int} (hl : l.length = n) (hx : l[c]? = some x) : (l.take c ++ List.replicate (n - c) 0).set c x = l.take (c + 1) ++ List.replicate (n - (c + 1)) 0 := by
  subst hl
  have hc := (List.getElem?_eq_some_iff.1 hx).1
  have m1 : min c l.length = c := Nat.min_eq_left (by omega)
  have m2 : min (c + 1) l.length = c + 1 := Nat.min_eq_left (by omega)
  apply List.ext_getElem?
  intro j
  rw [List.getElem?_set, List.getElem?_append, List.getElem?_append, List.getElem?_take, List.getElem?_take]
  simp only [List.length_append, List.length_take, List.length_replicate, List.getElem?_replicate, m1, m2]
  by_cases e : c = j
  · subst e
    rw [if_pos rfl, if_pos (by omega), if_pos (by omega), if_pos (by omega), hx]
  · rw [if_neg e]
    by_cases hj : j < c
    · simp [hj, show j < c + 1 by omega]
    · by_cases h2 : j < l.length
      · simp [hj, show ¬ j < c + 1 by omega, show j - c < l.length - c by omega, show j - (c + 1) < l.length - (c + 1) by omega]
      · simp [hj, show ¬ j < c + 1 by omega, show ¬ j - c < l.length - c by omega, show ¬ j - (c + 1) < l.length - (c + 1) by omega]
theorem cellsI_set (l : List Int) (c : Nat) (x : Int) : (cellsI l).set c (.int .i64 x) = cellsI (l.set c x) := by simp [cellsI, List.map_set]
theorem made1 (m : Nat) : (madeCells #[.int .i64 0] m).toList = cellsI (List.replicate m 0) := by
  apply List.ext_getElem?
  intro i
  simp only [madeCells, Array.toList_map, Array.toList_range, List.getElem?_map, cellsI, List.getElem?_replicate]
  by_cases h : i < m
  · simp [h, Nat.mod_one]
  · simp [h]
theorem makeIR (m : Nat) (hm : m ≤ 200) (W : World) : (Instr.makeSlice 53 (.int .i64 (m : Int)) (.int .i64 (m : Int))).run Tryz.prog W = .ok (.slice (some ⟨W.heap.size, 0, none⟩) m m) (W.alloc (.cells (cellsI (List.replicate m 0)).toArray 3)) := by
  obtain ⟨i, hi, hz, hs, hb⟩ := info_parts info3
  have hr := run_make (P := Tryz.prog) W 53 3 i _ Tryz.underlying53 hi hz .i64 .i64 m m (by omega) (Int.le_refl _) (by rw [hb]; omega) (by omega)
  simp only [Int.toNat_natCast, hs, Nat.mul_one] at hr
  rw [← made1]
  exact hr
set_option maxRecDepth 100000 in
set_option maxHeartbeats 2000000 in
theorem fixedF (h : RnAt W B gr gt nm sv rv go ct lv R) (hn : R.S.length ≤ 200) :
    Calls Tryz.prog 37 #[.pointer (some ⟨gr, 0, none⟩)] W fun e w' => ∃ v', e = .returned v' ∧ w'.ownsRow W.heap.size 3 1 v' R.S.length (cellsI (usL R.S)) ∧ Below W.heap.size W w' := by
  have hA : Hid (∀ V, Below W.heap.size W V → V.cell? ⟨gr, 4, none⟩ = some (.slice (some ⟨gt, 0, none⟩) R.S.length ct) ∧ ∀ i s, R.S[i]? = some s → V.cell? ⟨gt, i * 4, none⟩ = some (.int .i64 s.st) ∧ V.cell? ⟨gt, i * 4 + 1, none⟩ = some (.int .i64 s.us) ∧ V.cell? ⟨gt, i * 4 + 2, none⟩ = some (.int .i64 s.ca) ∧ V.cell? ⟨gt, i * 4 + 3, none⟩ = some (.int .i64 s.da)) := fun V hV => ⟨(h.over hV).c4, fun i s hs => (h.over hV).at hs⟩
  have hcap := h.cap
  clear h
  generalize R.S = S at *
  have hul : (usL S).length = S.length := by simp [usL]
  have hmk := fun V => makeIR S.length hn V
  have c4 := (hA.out W (Below.refl _ _)).1
  have hb0 := (Below.refl _ W).alloc (Nat.le_refl _) (.cells (cellsI (List.replicate S.length 0)).toArray 3)
  have c4' := (hA.out _ hb0).1
  have hst : Hid ((W.alloc (.cells (cellsI (List.replicate S.length 0)).toArray 3)).ownsRow W.heap.size 3 1 (.slice (some ⟨W.heap.size, 0, none⟩) S.length S.length) S.length (cellsI ((usL S).take 0 ++ List.replicate (S.length - 0) 0))) := by
    refine ⟨by simp [cellsI], .inr ⟨W.heap.size, S.length, _, rfl, Nat.le_refl _, heap_new W _, Nat.le_refl _, by unfold maxLen; omega, by simp [cellsI], ?_⟩⟩
    simp [cellsI]
  have hb0' := hide' hb0
  clear hb0
  go_enter Tryz.func37, Tryz.ntmps37
  go_wp2
  generalize W.alloc (.cells (cellsI (List.replicate S.length 0)).toArray 3) = W1 at *
  clear hmk c4
  go_loopw [17] (fun j wr => ∃ (c : Nat), c ≤ S.length ∧ j = .int .i64 c ∧ Hid (wr.ownsRow W.heap.size 3 1 (.slice (some ⟨W.heap.size, 0, none⟩) S.length S.length) S.length (cellsI ((usL S).take c ++ List.replicate (S.length - c) 0))) ∧ Hid (Below W.heap.size W wr)) (fun j _ => ((S.length : Int) - intOf j).toNat)
  case atStart => exact ⟨0, Nat.zero_le _, rfl, hst, hb0'⟩
  case round =>
    clear hst hb0' c4'
    obtain ⟨c, hcl, rfl, hO, hB⟩ := hrel
    obtain ⟨c4, hat⟩ := hA.out wr hB.out
    by_cases hlt : c < S.length
    · obtain ⟨s, hx⟩ : ∃ x, S[c]? = some x := ⟨_, List.getElem?_eq_getElem hlt⟩
      obtain ⟨a0, a1, a2, a3⟩ := hat c s hx
      have hux : (usL S)[c]? = some s.us := by simp [usL, hx]
      have hq := hide' (take_fill hul hux)
      have hz : W.heap.size < wr.heap.size := own_lt' hO.out rfl
      have hcell : wr.cell? ⟨W.heap.size, c, none⟩ = some (.int .i64 0) := by
        have := hO.out.cellAt c (by omega)
        rw [cellsI, List.getElem?_map, List.getElem?_append_right (by rw [List.length_take]; omega), List.length_take, hul, Nat.min_eq_left hcl, Nat.sub_self, List.getElem?_replicate, if_pos (by omega)] at this
        exact this
      have hfz : wr.frozen? ⟨W.heap.size, c, none⟩ = false := hO.out.frozenAt c
      have hO2 : Hid (((wr.setCell ⟨W.heap.size, c, none⟩ (.int .i64 s.us)).alloc (.cells #[.int .i64 s.st, .int .i64 s.us, .int .i64 s.ca, .int .i64 s.da] 42)).ownsRow W.heap.size 3 1 (.slice (some ⟨W.heap.size, 0, none⟩) S.length S.length) S.length (cellsI ((usL S).take (c + 1) ++ List.replicate (S.length - (c + 1)) 0))) := by
        show World.ownsRow _ _ _ _ _ _ _
        rw [← hq.out, ← cellsI_set]
        exact (own_setcell hO.out c _).alloc _
      have hB2 : Hid (Below W.heap.size W ((wr.setCell ⟨W.heap.size, c, none⟩ (.int .i64 s.us)).alloc (.cells #[.int .i64 s.st, .int .i64 s.us, .int .i64 s.ca, .int .i64 s.da] 42))) := (hB.out.setCell (p := ⟨W.heap.size, c, none⟩) (Nat.le_refl _) _).alloc (by simpa using hB.out.size) _
      clear hat hx hux hq hO hB hA
      generalize s.st = t0 at *
      generalize s.us = t1 at *
      generalize s.ca = t2 at *
      generalize s.da = t3 at *
      go_wp2
      exact ⟨⟨c + 1, by omega, by go_num, hO2, hB2⟩, by simp [intOf]; omega⟩
    · obtain rfl : c = S.length := by omega
      rw [Nat.sub_self, List.replicate_zero, List.append_nil, List.take_of_length_le (by omega)] at hO
      clear hat hA
      go_wp2
      go_ret
      exact ⟨_, rfl, hO.out, hB.out⟩
end
set_option maxRecDepth 100000 in
set_option maxHeartbeats 4000000 in
/-- Two like flows. -/
theorem keepFlowF (F : Fw) (va vb : Value) (w : World) (ha : flV w va F) (hb : flV w vb F) (hs : F.steps.length ≤ 1000) (hst : ∀ s ∈ F.steps, s.after.length ≤ 1000) (hl : F.rules.length ≤ 1000) (hm : ∀ r ∈ F.rules, r.steps.length ≤ 1000) :
    Calls Tryz.prog 21 #[va, vb] w fun e w' => e = .returned (.bool true) ∧ Below w.heap.size w w' := by
  obtain ⟨sa, ra, rfl, h1, h2⟩ := ha
  obtain ⟨sb, rb, rfl, h3, h4⟩ := hb
  obtain ⟨oa, ca, rfl, _, hca⟩ := h1
  obtain ⟨ob, cb, rfl, _, hcb⟩ := h3
  obtain ⟨oa2, ca2, rfl, _, _⟩ := id h2
  obtain ⟨ob2, cb2, rfl, _, _⟩ := id h4
  have KR : Hid (∀ W, Below w.heap.size w W → Calls Tryz.prog 59 #[.slice oa2 F.rules.length ca2, .slice ob2 F.rules.length cb2] W fun e w' => e = .returned (.bool true) ∧ Below W.heap.size W w') := fun W hW => keepRules F.rules _ _ W (h2.below hW (Nat.le_refl _)) (h4.below hW (Nat.le_refl _)) hl hm
  have hB2 : Hid (Below w.heap.size w ((w.alloc (.cells #[.string F.name, .slice oa F.steps.length ca, .slice oa2 F.rules.length ca2] 25)).alloc (.cells #[.string F.name, .slice ob F.steps.length cb, .slice ob2 F.rules.length cb2] 25))) := ((Below.refl _ w).alloc (Nat.le_refl _) _).alloc (by simp) _
  have hbx : Hid (∀ V, Below (w.heap.size + 2) ((w.alloc (.cells #[.string F.name, .slice oa F.steps.length ca, .slice oa2 F.rules.length ca2] 25)).alloc (.cells #[.string F.name, .slice ob F.steps.length cb, .slice ob2 F.rules.length cb2] 25)) V → V.cell? ⟨w.heap.size, 1, none⟩ = some (.slice oa F.steps.length ca) ∧ V.cell? ⟨w.heap.size + 1, 1, none⟩ = some (.slice ob F.steps.length cb)) := fun V hV => by
    have e1 := hV.block w.heap.size (by omega)
    have e2 := hV.block (w.heap.size + 1) (by omega)
    have d2 := heap_alloc_new (w.alloc (.cells #[.string F.name, .slice oa F.steps.length ca, .slice oa2 F.rules.length ca2] 25)) (.cells #[.string F.name, .slice ob F.steps.length cb, .slice ob2 F.rules.length cb2] 25)
    have d1 := heap_alloc_new w (.cells #[.string F.name, .slice oa F.steps.length ca, .slice oa2 F.rules.length ca2] 25)
    have d1' := (((Below.refl _ (w.alloc (.cells #[.string F.name, .slice oa F.steps.length ca, .slice oa2 F.rules.length ca2] 25))).alloc (Nat.le_refl _) (.cells #[.string F.name, .slice ob F.steps.length cb, .slice ob2 F.rules.length cb2] 25)).block w.heap.size (by simp)).trans d1
    rw [World.size_alloc] at d2
    rw [d1'] at e1
    rw [d2] at e2
    simp [World.cell?, e1, e2]
  have hca' := hide' hca
  have hcb' := hide' hcb
  have hst' := hide' hst
  clear hca hcb h2 h4 hst hm hl
  generalize F.name = nm at *
  generalize F.rules.length = nr at *
  generalize F.steps = L at *
  go_enter Tryz.func21, Tryz.ntmps21
  go_wp2_with (go_at_call 59; refine (KR.out _ hB2.out).mono ?_; rintro e w1 ⟨rfl, hb1⟩)
  have hb2 : Hid (Below (w.heap.size + 2) ((w.alloc (.cells #[.string nm, .slice oa L.length ca, .slice oa2 nr ca2] 25)).alloc (.cells #[.string nm, .slice ob L.length cb, .slice ob2 nr cb2] 25)) w1) := hb1.mono (by simp only [World.size_alloc]; omega)
  have hB1 : Hid (Below w.heap.size w w1) := hB2.out.trans (hb1.mono hB2.out.size)
  clear KR hB2 hb1
  generalize ((w.alloc (.cells #[.string nm, .slice oa L.length ca, .slice oa2 nr ca2] 25)).alloc (.cells #[.string nm, .slice ob L.length cb, .slice ob2 nr cb2] 25)) = W2 at *
  have hz1 : Hid (w.heap.size + 2 ≤ w1.heap.size) := by
    have e2 := (hbx.out w1 hb2.out).2
    have := cell_lt e2
    exact this
  go_loopw [5] (fun k wr => ∃ c : Nat, c ≤ L.length ∧ k = .int .i64 c ∧ Hid (Below w.heap.size w wr) ∧ Hid (Below (w.heap.size + 2) W2 wr ∧ w.heap.size + 2 ≤ wr.heap.size)) (fun k _ => ((L.length : Int) - intOf k).toNat)
  case atStart => exact ⟨0, Nat.zero_le _, rfl, hB1, hb2.out, hz1.out⟩
  case round =>
    clear hB1 hb2 hz1
    obtain ⟨c, hcl, rfl, hB, h2⟩ := hrel
    obtain ⟨x0, y0⟩ := hbx.out wr h2.out.1
    by_cases hlt : c < L.length
    · obtain ⟨s, hx⟩ : ∃ x, L[c]? = some x := ⟨_, List.getElem?_eq_getElem hlt⟩
      obtain ⟨g, o, sva, rfl, a0, a1, a2, ra⟩ := hca'.out c s hx
      obtain ⟨g', o', svb, rfl, b0, b1, b2, rb⟩ := hcb'.out c s hx
      have hlen := hst'.out s (List.mem_of_getElem? hx)
      have KI : Hid (∀ V, Below wr.heap.size wr V → Calls Tryz.prog 27 #[sva, svb] V fun e w' => e = .returned (.bool true) ∧ Below V.heap.size V w') := fun V hV => by
        have := keepInts s.after s.after sva svb V ((ra.below hB.out (Nat.le_refl _)).below hV (Nat.le_refl _)) ((rb.below hB.out (Nat.le_refl _)).below hV (Nat.le_refl _)) (by omega) (by omega)
        simpa using this
      have hC : Hid (∀ V, Below wr.heap.size wr V → V.cell? ⟨w.heap.size, 1, none⟩ = some (.slice (some ⟨g, o, none⟩) L.length ca) ∧ V.cell? ⟨w.heap.size + 1, 1, none⟩ = some (.slice (some ⟨g', o', none⟩) L.length cb) ∧ V.cell? ⟨g, o + c * 3, none⟩ = some (.string s.name) ∧ V.cell? ⟨g, o + c * 3 + 1, none⟩ = some (.string s.duty) ∧ V.cell? ⟨g, o + c * 3 + 2, none⟩ = some sva ∧ V.cell? ⟨g', o' + c * 3, none⟩ = some (.string s.name) ∧ V.cell? ⟨g', o' + c * 3 + 1, none⟩ = some (.string s.duty) ∧ V.cell? ⟨g', o' + c * 3 + 2, none⟩ = some svb) := fun V hV => ⟨cell_ovN x0 hV, cell_ovN y0 hV, cell_ovN (cell_ovN a0 hB.out) hV, cell_ovN (cell_ovN a1 hB.out) hV, cell_ovN (cell_ovN a2 hB.out) hV, cell_ovN (cell_ovN b0 hB.out) hV, cell_ovN (cell_ovN b1 hB.out) hV, cell_ovN (cell_ovN b2 hB.out) hV⟩
      have hE : Hid (∀ V, Below wr.heap.size wr V → (∃ c' : Nat, c' ≤ L.length ∧ (Value.int .i64 ((c : Int) + 1)) = .int .i64 c' ∧ Hid (Below w.heap.size w V) ∧ Hid (Below (w.heap.size + 2) W2 V ∧ w.heap.size + 2 ≤ V.heap.size))) := fun V hV => ⟨c + 1, by omega, by go_num, hB.out.trans (hV.mono hB.out.size), h2.out.1.trans (hV.mono h2.out.2), Nat.le_trans h2.out.2 hV.size⟩
      obtain ⟨os, cs, rfl, _, _⟩ := ra
      obtain ⟨os', cs', rfl, _, _⟩ := rb
      clear hca' hcb' hx a0 a1 a2 b0 b1 b2 hst' hbx hB h2
      generalize s.name = sn at *
      generalize s.duty = sd at *
      generalize s.after.length = q at *
      go_wp2_with fail
      go_region_held3 (fun V => V.cell? ⟨w.heap.size, 1, none⟩ = some (.slice (some ⟨g, o, none⟩) L.length ca) ∧ V.cell? ⟨w.heap.size + 1, 1, none⟩ = some (.slice (some ⟨g', o', none⟩) L.length cb) ∧ V.cell? ⟨g, o + c * 3, none⟩ = some (.string sn) ∧ V.cell? ⟨g, o + c * 3 + 1, none⟩ = some (.string sd) ∧ V.cell? ⟨g, o + c * 3 + 2, none⟩ = some (.slice os q cs) ∧ V.cell? ⟨g', o' + c * 3, none⟩ = some (.string sn) ∧ V.cell? ⟨g', o' + c * 3 + 1, none⟩ = some (.string sd) ∧ V.cell? ⟨g', o' + c * 3 + 2, none⟩ = some (.slice os' q cs')) (first | (refine hC.out _ ?_; repeat' (first | exact Below.refl _ _ | refine Below.drew ?_ | refine Below.alloc ?_ ?_ _ | refine Below.setCell ?_ ?_ _ | (simp; done) | (simp; omega)))) (first | fail)
      all_goals
        go_wp2_with (go_at_call 27; refine (KI.out _ (by repeat' (first | exact Below.refl _ _ | refine Below.drew ?_ | refine Below.alloc ?_ ?_ _ | refine Below.setCell ?_ ?_ _ | (simp; done) | (simp; omega)))).mono ?_; rintro e w9 ⟨rfl, hb9⟩)
        exact ⟨hE.out _ (Below.trans (by repeat' (first | exact Below.refl _ _ | refine Below.drew ?_ | refine Below.alloc ?_ ?_ _ | refine Below.setCell ?_ ?_ _ | (simp; done) | (simp; omega))) (hb9.mono (by simp; omega))), by simp [intOf]; omega⟩
    · obtain rfl : c = L.length := by omega
      clear hca' hcb'
      go_wp2
      go_ret
      exact ⟨rfl, hB.out⟩
end Go.Proofs.YtahfobbiaimoiaaGreatDoor
namespace Go.Proofs.YtahfobbiaimoiaaGreatDoor
open Go.RowKit
theorem RnAt.down {W : World} {B C gr gt : Nat} {nm : ByteArray} {sv rv : Value} {go ct : Nat} {lv : Value} {R : Rs} (h : RnAt W B gr gt nm sv rv go ct lv R) (hc : C ≤ B) : RnAt W C gr gt nm sv rv go ct lv R := ⟨h.ob, own_down h.st hc, own_down h.lg hc⟩
/-- The program's run with what it reads. -/
structure Pr (lo : Nat) (V0 : World) (F : Fw) (gr gt : Nat) (sv rv : Value) (go gp gs ct : Nat) (Pf Sf : Nat → Nat) (P1 : List (Sp × Value)) (P2 : List (Rl × Value)) (lv : Value) (R : Rs) (W : World) : Prop where
  run : RnAt W 0 gr gt F.name sv rv go ct lv R
  og : lo ≤ go ∧ lo ≤ gp ∧ lo ≤ gs
  ord : O.OrdAt V0 go gp gs F.steps.length Pf Sf
  wrd : O.Ord F.steps.length (O.ordL F.steps.length (prs F.steps)) Pf Sf
  len : R.S.length = F.steps.length
  m1 : P1.map Prod.fst = F.steps
  m2 : P2.map Prod.fst = F.rules
  t1 : TwP lo V0 sv P1
  t2 : TwS lo V0 rv P2
  win : Wd lo gr V0 W
  hi : V0.heap.size ≤ W.heap.size
  ger : V0.heap.size ≤ gr
  get : V0.heap.size ≤ gt
  gel : ∀ g, lv.ownBlock = some g → V0.heap.size ≤ g
theorem cell_win {lo x : Nat} {V W : World} {b i : Nat} {v : Value} (hW : Wd lo x V W) (h : V.cell? ⟨b, i, none⟩ = some v) (h1 : lo ≤ b) (h2 : b ≠ x) : W.cell? ⟨b, i, none⟩ = some v := blk_cell h (hW b h1 (cell_lt h) h2)
theorem Pr.ordW {lo : Nat} {V0 : World} {F : Fw} {gr gt : Nat} {sv rv : Value} {go gp gs ct : Nat} {Pf Sf : Nat → Nat} {P1 : List (Sp × Value)} {P2 : List (Rl × Value)} {lv : Value} {R : Rs} {W : World} (h : Pr lo V0 F gr gt sv rv go gp gs ct Pf Sf P1 P2 lv R W) : O.OrdAt W go gp gs R.S.length Pf Sf := by
  have hg := h.ger
  have e : ∀ b i v, lo ≤ b → V0.cell? ⟨b, i, none⟩ = some v → W.cell? ⟨b, i, none⟩ = some v := fun b i v hb hc => cell_win h.win hc hb (by have := cell_lt hc; omega)
  rw [h.len]
  exact ⟨e _ _ _ h.og.1 h.ord.o0, e _ _ _ h.og.1 h.ord.o1, fun i hi => e _ _ _ h.og.2.1 (h.ord.pc i hi), fun i hi => e _ _ _ h.og.2.2 (h.ord.sc i hi)⟩
/-- What a side is made of. -/
structure SdK where
  F : Fw
  lo : Nat
  V0 : World
  gr : Nat
  gt : Nat
  sv : Value
  rv : Value
  go : Nat
  gp : Nat
  gs : Nat
  ct : Nat
  Pf : Nat → Nat
  Sf : Nat → Nat
  P1 : List (Sp × Value)
  P2 : List (Rl × Value)
  lo1 : Nat
  V1 : World
  gd : Nat
  hd : Nat
  sv1 : Value
  rv1 : Value
  go1 : Nat
  ct1 : Nat
  Q1 : List (Sp × Value)
  Q2 : List (Rl × Value)
def SdK.P (k : SdK) (lv : Value) (R : Rs) (W : World) : Prop := Pr k.lo k.V0 k.F k.gr k.gt k.sv k.rv k.go k.gp k.gs k.ct k.Pf k.Sf k.P1 k.P2 lv R W
def SdK.D (k : SdK) (ev : Value) (R : Rs) (W : World) : Prop := Dc k.lo1 k.V1 k.F k.gd k.hd k.sv1 k.rv1 k.go1 k.ct1 k.Q1 k.Q2 ev R W
/-- What is written, and what is read or written. -/
def SdK.wp (k : SdK) (lv : Value) (b : Nat) : Prop := b = k.gr ∨ b = k.gt ∨ lv.ownBlock = some b
def SdK.wd (k : SdK) (ev : Value) (b : Nat) : Prop := b = k.gd ∨ b = k.hd ∨ ev.ownBlock = some b
def SdK.fp (k : SdK) (lv : Value) (b : Nat) : Prop := k.wp lv b ∨ (k.lo ≤ b ∧ b < k.V0.heap.size)
def SdK.fd (k : SdK) (ev : Value) (b : Nat) : Prop := k.wd ev b ∨ (k.lo1 ≤ b ∧ b < k.V1.heap.size)
def SdK.wr (k : SdK) (lv ev : Value) (b : Nat) : Prop := k.wp lv b ∨ k.wd ev b
def SdK.ft (k : SdK) (lv ev : Value) (b : Nat) : Prop := k.fp lv b ∨ k.fd ev b
/-- A frame: but for these blocks all is as it was. -/
structure Zf (f : Nat → Prop) (W W' : World) : Prop where
  os : W'.os = W.os
  tape : W'.tape = W.tape
  output : W'.output = W.output
  size : W.heap.size ≤ W'.heap.size
  blk : ∀ k, k < W.heap.size → ¬ f k → W'.heap[k]? = W.heap[k]?
theorem Zf.of_below {f : Nat → Prop} {W W' : World} (h : Below W.heap.size W W') : Zf f W W' := ⟨h.os, h.tape, h.output, h.size, fun k hk _ => h.block k hk⟩
theorem Zf.refl (f : Nat → Prop) (W : World) : Zf f W W := .of_below (Below.refl _ _)
theorem Zf.mono {f g : Nat → Prop} {W W' : World} (h : Zf f W W') (k : ∀ b, b < W.heap.size → f b → g b) : Zf g W W' := ⟨h.os, h.tape, h.output, h.size, fun b hb hn => h.blk b hb fun e => hn (k b hb e)⟩
/-- What may be written later was so ahead, or is new. -/
def Nf (n : Nat) (f g : Nat → Prop) : Prop := ∀ b, g b → f b ∨ n ≤ b
theorem Nf.refl (n : Nat) (f : Nat → Prop) : Nf n f f := fun _ h => .inl h
theorem Zf.trans {f g : Nat → Prop} {W W1 W2 : World} (h : Zf f W W1) (k : Zf g W1 W2) (n : Nf W.heap.size f g) : Zf f W W2 :=
  ⟨k.os.trans h.os, k.tape.trans h.tape, k.output.trans h.output, Nat.le_trans h.size k.size, fun b hb hn => (k.blk b (Nat.lt_of_lt_of_le hb h.size) fun e => by
    rcases n b e with e1 | e1
    · exact hn e1
    · omega).trans (h.blk b hb hn)⟩
theorem Nf.trans {n m : Nat} {a b c : Nat → Prop} (h : Nf n a b) (k : Nf m b c) (hm : n ≤ m) : Nf n a c := fun x hx => by
  rcases k x hx with e | e
  · exact h x e
  · exact .inr (by omega)
theorem Zf.toBelow {f : Nat → Prop} {B : Nat} {W W' : World} (h : Zf f W W') (hB : B ≤ W.heap.size) (hf : ∀ b, f b → B ≤ b) : Below B W W' := ⟨h.os, h.tape, h.output, h.size, fun b hb => h.blk b (by omega) fun e => by have := hf b e; omega⟩
theorem FrR.zf {gr gt : Nat} {lv : Value} {W W' : World} (h : FrR gr gt lv W W') : Zf (fun b => b = gr ∨ b = gt ∨ lv.ownBlock = some b) W W' := ⟨h.os, h.tape, h.output, h.size, fun b hb hn => h.blk b hb (fun e => hn (.inl e)) (fun e => hn (.inr (.inl e))) (fun e => hn (.inr (.inr e)))⟩
section
variable {k : SdK} {lv ev : Value} {R Rd : Rs} {W W' : World}
theorem SdK.P.lt (h : k.P lv R W) : ∀ b, k.fp lv b → b < W.heap.size := by
  rintro b ((rfl | rfl | e) | ⟨_, e⟩)
  · exact h.run.lt
  · exact h.run.gt_lt
  · exact own_lt' h.run.lg e
  · exact Nat.lt_of_lt_of_le e h.hi
theorem SdK.D.lt (h : k.D ev R W) : ∀ b, k.fd ev b → b < W.heap.size := by
  obtain ⟨sk, en, h1, _⟩ := h.at'
  rintro b ((rfl | rfl | e) | ⟨_, e⟩)
  · exact h1.lt
  · exact h1.gt_lt
  · exact own_lt' h1.lg e
  · exact Nat.lt_of_lt_of_le e h.hi
theorem SdK.P.kept (h : k.P lv R W) (hz : W.heap.size ≤ W'.heap.size) (hk : ∀ b, b < W.heap.size → k.fp lv b → W'.heap[b]? = W.heap[b]?) : k.P lv R W' :=
  { h with
    run := h.run.kept fun b hb e => hk b hb (.inl e)
    win := h.win.trans h.hi fun b h1 h2 _ => hk b (Nat.lt_of_lt_of_le h2 h.hi) (.inr ⟨h1, h2⟩)
    hi := Nat.le_trans h.hi hz }
theorem SdK.D.kept (h : k.D ev R W) (hz : W.heap.size ≤ W'.heap.size) (hk : ∀ b, b < W.heap.size → k.fd ev b → W'.heap[b]? = W.heap[b]?) : k.D ev R W' := by
  obtain ⟨sk, en, h1, h2⟩ := h.at'
  exact { h with
    at' := ⟨sk, en, h1.kept fun b hb e => hk b hb (.inl e), h2⟩
    win := h.win.trans h.hi fun b h1 h2 _ => hk b (Nat.lt_of_lt_of_le h2 h.hi) (.inr ⟨h1, h2⟩)
    hi := Nat.le_trans h.hi hz }
/-- A call of the program's run. -/
theorem SdK.P.op {v : Value} {R' : Rs} {e : Ending} (h : k.P lv R W) (ho : OpR W 0 k.gr k.gt k.F.name k.sv k.rv k.go k.ct lv v R' e W') (hl : R'.S.length = R.S.length) : e = .returned v ∧ ∃ lv', k.P lv' R' W' ∧ Zf (k.wp lv) W W' ∧ Nf W.heap.size (k.wp lv) (k.wp lv') := by
  obtain ⟨rfl, lv', h1, h2, h3⟩ := ho
  have hg := h.ger
  have ht := h.get
  have hz := h.hi
  have nf : ∀ g, lv'.ownBlock = some g → k.V0.heap.size ≤ g := fun g hg => by
    rcases h3 g hg with e | e
    · exact h.gel g e
    · exact Nat.le_trans h.hi e
  refine ⟨rfl, lv', { h with run := h1, len := hl.trans h.len, win := h.win.trans h.hi fun b h5 h6 h7 => h2.blk b (by omega) h7 (by omega) (fun e => by have := h.gel b e; omega), hi := Nat.le_trans h.hi h2.size, gel := nf }, h2.zf, fun b hb => ?_⟩
  rcases hb with e | e | e
  · exact .inl (.inl e)
  · exact .inl (.inr (.inl e))
  · rcases h3 b e with e | e
    · exact .inl (.inr (.inr e))
    · exact .inr e
/-- A call of the document's run. -/
theorem SdK.D.op {v : Value} {R' : Rs} {e : Ending} (h : k.D ev R W) (ho : OpZ W 0 k.gd k.hd k.F.name k.sv1 k.rv1 k.go1 k.ct1 ev v R' e W') (hl : R'.S.length = R.S.length) : e = .returned v ∧ ∃ ev', k.D ev' R' W' ∧ Zf (k.wd ev) W W' ∧ Nf W.heap.size (k.wd ev) (k.wd ev') := by
  obtain ⟨rfl, ev', sk, en, h1, hs, h2, h3⟩ := ho
  have ht := h.gt
  have hz := h.hi
  refine ⟨rfl, ev', { h with at' := ⟨sk, en, h1, hs⟩, len := hl.trans h.len, win := h.win.trans h.hi fun b h5 h6 h7 => h2.blk b (by omega) h7 (by omega) (fun e => by have := h.ge b e; omega), hi := Nat.le_trans h.hi h2.size, ge := fun g hg => ?_ }, h2.zf, fun b hb => ?_⟩
  · rcases h3 g hg with e | e
    · exact h.ge g e
    · exact Nat.le_trans h.hi e
  · rcases hb with e | e | e
    · exact .inl (.inl e)
    · exact .inl (.inr (.inl e))
    · rcases h3 b e with e | e
      · exact .inl (.inr (.inr e))
      · exact .inr e
end
/-- Both: the program's stands at R, the document's at Rd. -/
structure Sd (k : SdK) (lv ev : Value) (R Rd : Rs) (W : World) : Prop where
  p : k.P lv R W
  d : k.D ev Rd W
  x1 : ∀ b, k.wp lv b → ¬ k.fd ev b
  x2 : ∀ b, k.wd ev b → ¬ k.fp lv b
section
variable {k : SdK} {lv ev : Value} {R Rd : Rs} {W W' : World}
theorem Sd.lt (h : Sd k lv ev R Rd W) : ∀ b, k.ft lv ev b → b < W.heap.size := by
  rintro b (e | e)
  · exact h.p.lt b e
  · exact h.d.lt b e
theorem wr_ft {b : Nat} (h : k.wr lv ev b) : k.ft lv ev b := by
  rcases h with e | e
  · exact .inl (.inl e)
  · exact .inr (.inl e)
theorem Sd.kept (h : Sd k lv ev R Rd W) (hz : W.heap.size ≤ W'.heap.size) (hk : ∀ b, b < W.heap.size → k.ft lv ev b → W'.heap[b]? = W.heap[b]?) : Sd k lv ev R Rd W' :=
  ⟨h.p.kept hz fun b hb e => hk b hb (.inl e), h.d.kept hz fun b hb e => hk b hb (.inr e), h.x1, h.x2⟩
theorem Sd.over (h : Sd k lv ev R Rd W) (hb : Below W.heap.size W W') : Sd k lv ev R Rd W' := h.kept hb.size fun b hb' _ => hb.block b hb'
theorem Sd.opP {v : Value} {R' : Rs} {e : Ending} (h : Sd k lv ev R Rd W) (ho : OpR W 0 k.gr k.gt k.F.name k.sv k.rv k.go k.ct lv v R' e W') (hl : R'.S.length = R.S.length) : e = .returned v ∧ ∃ lv', Sd k lv' ev R' Rd W' ∧ Zf (k.wr lv ev) W W' ∧ Nf W.heap.size (k.wr lv ev) (k.wr lv' ev) := by
  obtain ⟨he, lv', h1, h2, h3⟩ := h.p.op ho hl
  refine ⟨he, lv', ⟨h1, h.d.kept h2.size fun b hb hf => h2.blk b hb fun e => h.x1 b e hf, fun b hb hf => ?_, fun b hb hf => ?_⟩, h2.mono fun b _ e => .inl e, fun b hb => ?_⟩
  · rcases h3 b hb with e | e
    · exact h.x1 b e hf
    · have := h.d.lt b hf; omega
  · rcases hf with hf | hf
    · rcases h3 b hf with e | e
      · exact h.x1 b e (.inl hb)
      · have := h.d.lt b (.inl hb); omega
    · exact h.x2 b hb (.inr hf)
  · rcases hb with e | e
    · rcases h3 b e with e | e
      · exact .inl (.inl e)
      · exact .inr e
    · exact .inl (.inr e)
theorem Sd.opD {v : Value} {R' : Rs} {e : Ending} (h : Sd k lv ev R Rd W) (ho : OpZ W 0 k.gd k.hd k.F.name k.sv1 k.rv1 k.go1 k.ct1 ev v R' e W') (hl : R'.S.length = Rd.S.length) : e = .returned v ∧ ∃ ev', Sd k lv ev' R R' W' ∧ Zf (k.wr lv ev) W W' ∧ Nf W.heap.size (k.wr lv ev) (k.wr lv ev') := by
  obtain ⟨he, ev', h1, h2, h3⟩ := h.d.op ho hl
  refine ⟨he, ev', ⟨h.p.kept h2.size fun b hb hf => h2.blk b hb fun e => h.x2 b e hf, h1, fun b hb hf => ?_, fun b hb hf => ?_⟩, h2.mono fun b _ e => .inr e, fun b hb => ?_⟩
  · rcases hf with hf | hf
    · rcases h3 b hf with e | e
      · exact h.x2 b e (.inl hb)
      · have := h.p.lt b (.inl hb); omega
    · exact h.x1 b hb (.inr hf)
  · rcases h3 b hb with e | e
    · exact h.x2 b e hf
    · have := h.p.lt b hf; omega
  · rcases hb with e | e
    · exact .inl (.inl e)
    · rcases h3 b e with e | e
      · exact .inl (.inr e)
      · exact .inr e
end
end Go.Proofs.YtahfobbiaimoiaaGreatDoor
namespace Go.Proofs.YtahfobbiaimoiaaGreatDoor
open Go.RowKit
theorem pr_ofG {wN V0 W : World} {F : Fw} {gr gt : Nat} {sv rv : Value} {go gp gs ct : Nat} {Pf Sf : Nat → Nat} {P1 : List (Sp × Value)} {P2 : List (Rl × Value)} {lv : Value} {R : Rs} (hog : OgX wN V0 go gp gs sv rv P1 P2) (h : RnX V0 F gr gt sv rv go gp gs ct Pf Sf P1 P2 lv R W) : Pr wN.heap.size V0 F gr gt sv rv go gp gs ct Pf Sf P1 P2 lv R W :=
  ⟨h.run.down (Nat.zero_le _), ⟨hog.2.1, hog.2.2.1, hog.2.2.2.1⟩, h.ord, h.wrd, h.len, h.m1, h.m2, hog.2.2.2.2.1, hog.2.2.2.2.2, fun b _ h2 _ => h.bl.block b h2, h.bl.size, h.ge, h.run.gt_ge, fun _ hg => own_ge' h.run.lg hg⟩
theorem Pr.fl2 {lo : Nat} {V0 : World} {F : Fw} {gr gt : Nat} {sv rv : Value} {go gp gs ct : Nat} {Pf Sf : Nat → Nat} {P1 : List (Sp × Value)} {P2 : List (Rl × Value)} {lv : Value} {R : Rs} {W : World} (h : Pr lo V0 F gr gt sv rv go gp gs ct Pf Sf P1 P2 lv R W) : flV W (.agg #[.string F.name, sv, rv]) F := by
  have hg := h.ger
  have e : ∀ k, lo ≤ k → k < V0.heap.size → W.heap[k]? = V0.heap[k]? := fun k h1 h2 => h.win k h1 h2 (by omega)
  have r1 := (h.t1.keptB fun k h1 h2 => e k h1 h2).rowS
  have r2 := (h.t2.keptB fun k h1 h2 => e k h1 h2).rowR
  rw [h.m1] at r1
  rw [h.m2] at r2
  exact ⟨_, _, rfl, r1, r2⟩
/-- Two runs: none reads what the other writes; all that they write is newer than w. -/
structure Dp (w : World) (k1 k2 : SdK) (lv1 lv2 : Value) (R1 R2 : Rs) (W : World) : Prop where
  p : k1.P lv1 R1 W
  q : k2.P lv2 R2 W
  x1 : ∀ b, k1.wp lv1 b → ¬ k2.fp lv2 b
  x2 : ∀ b, k2.wp lv2 b → ¬ k1.fp lv1 b
  bl : Below w.heap.size w W
  g1 : ∀ b, k1.wp lv1 b → w.heap.size ≤ b
  g2 : ∀ b, k2.wp lv2 b → w.heap.size ≤ b
section
variable {w : World} {k1 k2 : SdK} {lv1 lv2 : Value} {R1 R2 : Rs} {W W' : World}
theorem Dp.swap (h : Dp w k1 k2 lv1 lv2 R1 R2 W) : Dp w k2 k1 lv2 lv1 R2 R1 W := ⟨h.q, h.p, h.x2, h.x1, h.bl, h.g2, h.g1⟩
theorem Dp.over (h : Dp w k1 k2 lv1 lv2 R1 R2 W) (hb : Below W.heap.size W W') : Dp w k1 k2 lv1 lv2 R1 R2 W' := ⟨h.p.kept hb.size fun b hb' _ => hb.block b hb', h.q.kept hb.size fun b hb' _ => hb.block b hb', h.x1, h.x2, h.bl.trans (hb.mono h.bl.size), h.g1, h.g2⟩
theorem Dp.op {v : Value} {R' : Rs} {e : Ending} (h : Dp w k1 k2 lv1 lv2 R1 R2 W) (ho : OpR W 0 k1.gr k1.gt k1.F.name k1.sv k1.rv k1.go k1.ct lv1 v R' e W') (hl : R'.S.length = R1.S.length) : e = .returned v ∧ ∃ lv', Dp w k1 k2 lv' lv2 R' R2 W' := by
  obtain ⟨he, lv', h1, h2, h3⟩ := h.p.op ho hl
  have hs := h.bl.size
  refine ⟨he, lv', h1, h.q.kept h2.size fun b hb hf => h2.blk b hb fun e => h.x1 b e hf, fun b hb hf => ?_, fun b hb hf => ?_, h.bl.trans (h2.toBelow hs h.g1), fun b hb => ?_, h.g2⟩
  · rcases h3 b hb with e | e
    · exact h.x1 b e hf
    · have := h.q.lt b hf; omega
  · rcases hf with hf | hf
    · rcases h3 b hf with e | e
      · exact h.x1 b e (.inl hb)
      · have := h.q.lt b (.inl hb); omega
    · exact h.x2 b hb (.inr hf)
  · rcases h3 b hb with e | e
    · exact h.g1 b e
    · omega
theorem Dp.n64 (h : Dp w k1 k2 lv1 lv2 R1 R2 W) : R1.S.length ≤ 64 := by rw [h.p.len]; exact h.p.wrd.n64
theorem Dp.claim (h : Dp w k1 k2 lv1 lv2 R1 R2 W) (hl : R1.log.length ≤ 90000) (step user tick : Int) : Calls Tryz.prog 34 #[.pointer (some ⟨k1.gr, 0, none⟩), .int .i64 step, .int .i64 user, .int .i64 tick] W fun e W' => e = .returned (.int .i64 (canC k1.Pf R1 step)) ∧ ∃ lv', Dp w k1 k2 lv' lv2 (clmR k1.Pf R1 step user tick) R2 W' :=
  (claimF h.p.run h.p.ordW h.n64 (fun a ha => h.p.wrd.pre_lt (by rw [← h.p.len]; exact ha)) (by omega) (Nat.zero_le _) step user tick).mono fun _ _ ho => h.op ho (clmR_len _ _ _ _ _)
theorem Dp.done (h : Dp w k1 k2 lv1 lv2 R1 R2 W) (hl : R1.log.length ≤ 90000) (step user tick : Int) : Calls Tryz.prog 35 #[.pointer (some ⟨k1.gr, 0, none⟩), .int .i64 step, .int .i64 user, .int .i64 tick] W fun e W' => e = .returned (.int .i64 (canD R1 step user)) ∧ ∃ lv', Dp w k1 k2 lv' lv2 (donR R1 step user tick) R2 W' :=
  (doneF h.p.run h.n64 (by omega) (Nat.zero_le _) step user tick).mono fun _ _ ho => h.op ho (donR_len _ _ _ _)
theorem Dp.mark (h : Dp w k1 k2 lv1 lv2 R1 R2 W) (hl : R1.log.length ≤ 90000) (b : Bool) (tick : Int) : Calls Tryz.prog 36 #[.pointer (some ⟨k1.gr, 0, none⟩), .bool b, .int .i64 tick] W fun e W' => e = .returned (.bool (mrkB R1 b)) ∧ ∃ lv', Dp w k1 k2 lv' lv2 (mrkR R1 b tick) R2 W' :=
  (markF h.p.run h.n64 (by omega) (Nat.zero_le _) b tick).mono fun _ _ ho => h.op ho (mrkR_len _ _ _)
/-- A run and, behind it, another. -/
theorem Dp.start (hp : k1.P lv1 R1 W) (hq : k2.P lv2 R2 W') (hb : Below W.heap.size W W') (hlo : W.heap.size ≤ k2.lo) (hbw : Below w.heap.size w W) (hg : ∀ b, k1.wp lv1 b → w.heap.size ≤ b) : Dp w k1 k2 lv1 lv2 R1 R2 W' := by
  have h1 := hq.ger
  have h2 := hq.get
  have h3 := hq.hi
  have hlo2 : k2.lo ≤ k2.V0.heap.size ∨ k2.V0.heap.size < k2.lo := Nat.lt_or_ge _ _ |>.symm
  have hgo := hq.og.1
  have hgl : k2.go < k2.V0.heap.size := cell_lt hq.ord.o0
  have hfd : ∀ b, k2.fp lv2 b → W.heap.size ≤ b := by
    rintro b ((rfl | rfl | e) | ⟨e, _⟩)
    · omega
    · omega
    · have := hq.gel b e; omega
    · omega
  have hs := hbw.size
  refine ⟨hp.kept hb.size fun b hb' _ => hb.block b hb', hq, fun b e1 e2 => ?_, fun b e1 e2 => ?_, hbw.trans (hb.mono hs), hg, fun b e => ?_⟩
  · have := hfd b e2
    have := hp.lt b (.inl e1)
    omega
  · have := hfd b (.inl e1)
    have := hp.lt b e2
    omega
  · have := hfd b (.inl e)
    omega
end
end Go.Proofs.YtahfobbiaimoiaaGreatDoor
namespace Go.Proofs.YtahfobbiaimoiaaGreatDoor
open Go.RowKit
theorem evs_news {w : World} {ad : Addr} {L : List Ev} (hc : ∀ i e, L[i]? = some e → ∃ g f, some ad = some ⟨g, f, none⟩ ∧ w.cell? ⟨g, f + i * 4, none⟩ = some (.int .i64 e.tick) ∧ w.cell? ⟨g, f + i * 4 + 1, none⟩ = some (.int .i64 e.kind) ∧ w.cell? ⟨g, f + i * 4 + 2, none⟩ = some (.int .i64 e.step) ∧ w.cell? ⟨g, f + i * 4 + 3, none⟩ = some (.int .i64 e.user)) : ∀ j u, (cellsEv L)[j]? = some u → w.cell? (ad.add j) = some u := by
  intro j u hu
  have hj : j = j / 4 * 4 + j % 4 := by omega
  have h4 : j % 4 < 4 := Nat.mod_lt _ (by omega)
  unfold cellsEv at hu
  rw [hj, four_at evcells evcells_len L _ _ h4] at hu
  cases he : L[j / 4]? with
  | none => rw [he] at hu; cases hu
  | some e =>
    rw [he] at hu
    obtain ⟨g, f, e1, a0, a1, a2, a3⟩ := hc _ e he
    cases e1
    rw [hj, Addr.add_lit]
    have hr : j % 4 = 0 ∨ j % 4 = 1 ∨ j % 4 = 2 ∨ j % 4 = 3 := by omega
    rcases hr with h | h | h | h <;> rw [h] at hu ⊢ <;> cases hu
    · exact a0
    · exact a1
    · exact a2
    · exact a3
theorem owns_zeroE (w : World) : (w.alloc (.cells #[] 76)).ownsRow w.heap.size 76 4 (.slice (some ⟨w.heap.size, 0, none⟩) 0 0) 0 (cellsEv []) := ⟨rfl, .inr ⟨_, 0, #[], rfl, Nat.le_refl _, heap_new w _, Nat.le_refl _, by unfold maxLen; omega, rfl, rfl⟩⟩
set_option maxRecDepth 100000 in
set_option maxHeartbeats 1000000 in
theorem fewE (L : List Ev) (v : Value) (w : World) (hr : EvQ w v L) :
    Calls Tryz.prog 10 #[v] w fun e w' => ∃ v', e = .returned v' ∧ w'.ownsRow w.heap.size 76 4 v' (L.take 300).length (cellsEv (L.take 300)) ∧ Below w.heap.size w w' := by
  obtain ⟨oa, cap, rfl, hcap, hc⟩ := hr
  obtain ⟨i0, z0, hi, hz0, hz1, hz2, hz3⟩ := elE.inf
  have hc' := hide' hc
  clear hc
  go_enter Tryz.func10, Tryz.ntmps10
  by_cases hlong : 300 < L.length
  · obtain ⟨ad, rfl⟩ : ∃ ad, oa = some ad := by
      cases oa with
      | none => have := hcap.2 rfl; omega
      | some ad => exact ⟨ad, rfl⟩
    obtain ⟨g, o, e, _⟩ := hc'.out 0 L[0] (List.getElem?_eq_getElem (by omega))
    cases e
    have hcap1 := hcap.1
    have hlen : (cellsEv (L.take 300)).length = 300 * 4 := by rw [cellsEv_len, List.length_take]; omega
    have hnews : ∀ j u, (cellsEv (L.take 300))[j]? = some u → (w.alloc (.cells #[] 76)).cell? (Addr.add ⟨g, o, none⟩ j) = some u := fun j u hu => by
      have h := evs_news (L := L.take 300) (fun i e he => hc'.out i e (by
        obtain ⟨hj, _⟩ := List.getElem?_eq_some_iff.1 he
        rw [List.length_take] at hj
        rwa [List.getElem?_take_of_lt (by omega)] at he)) j u hu
      exact (((Below.refl w.heap.size w).alloc (Nat.le_refl _) _).cell (World.block_lt_of_cell? w _ h)).trans h
    have hone := evcells_one (L.take 300)
    clear hcap
    go_wp2_with (at_builtin; refine wpList_append_own _ rfl _ _ 26 rfl w.heap.size 76 i0 z0 4 32 Tryz.underlying26 hi hz0 hz1 hz2 hz3 (by decide) _ 0 (cellsEv []) rfl (owns_zeroE w) ⟨g, o, none⟩ 300 cap (cellsEv (L.take 300)) rfl hlen hnews hone (by unfold maxLen; omega) (by omega) (by simp) ?_; intro v1 w1 hown1 hgrow1 hnil)
    go_ret
    have hown : w1.ownsRow w.heap.size 76 4 v1 (0 + 300) (cellsEv (L.take 300)) := hown1
    rw [show 0 + 300 = (L.take 300).length by rw [List.length_take]; omega] at hown
    exact ⟨_, rfl, hown, ((Below.refl _ w).alloc (Nat.le_refl _) _).grown hgrow1 (by simp) (fun j ej => by cases ej; exact Nat.le_refl _)⟩
  · have hle : L.length ≤ 300 := by omega
    rw [List.take_of_length_le hle]
    cases oa with
    | none =>
      obtain ⟨h1, h2⟩ := hcap
      have := h2 rfl
      subst this
      have : L = [] := List.eq_nil_of_length_eq_zero (by omega)
      subst this
      go_wp2_with (at_builtin; refine wpList_append_own_none rfl _ _ 26 rfl w.heap.size 76 i0 4 Tryz.underlying26 hi _ 0 (cellsEv []) rfl (owns_zeroE w) rfl ?_)
      go_ret
      exact ⟨_, rfl, owns_zeroE w, (Below.refl _ w).alloc (Nat.le_refl _) _⟩
    | some ad =>
      have hnews : ∀ j u, (cellsEv L)[j]? = some u → (w.alloc (.cells #[] 76)).cell? (ad.add j) = some u := fun j u hu => by
        have h := evs_news hc'.out j u hu
        exact (((Below.refl w.heap.size w).alloc (Nat.le_refl _) _).cell (World.block_lt_of_cell? w _ h)).trans h
      have hlen := cellsEv_len L
      have hone := evcells_one L
      have hlong' : ¬ (300 : Int) < (L.length : Int) := by omega
      clear hcap
      go_wp2_with (at_builtin; refine wpList_append_own _ rfl _ _ 26 rfl w.heap.size 76 i0 z0 4 32 Tryz.underlying26 hi hz0 hz1 hz2 hz3 (by decide) _ 0 (cellsEv []) rfl (owns_zeroE w) ad L.length cap (cellsEv L) rfl hlen hnews hone (by unfold maxLen; omega) (by omega) (by simp) ?_; intro v1 w1 hown1 hgrow1 hnil)
      go_ret
      have hown : w1.ownsRow w.heap.size 76 4 v1 (0 + L.length) (cellsEv L) := hown1
      rw [Nat.zero_add] at hown
      exact ⟨_, rfl, hown, ((Below.refl _ w).alloc (Nat.le_refl _) _).grown hgrow1 (by simp) (fun j ej => by cases ej; exact Nat.le_refl _)⟩
end Go.Proofs.YtahfobbiaimoiaaGreatDoor

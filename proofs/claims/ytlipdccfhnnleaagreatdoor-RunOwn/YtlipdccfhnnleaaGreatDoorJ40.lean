/- Two sides, each there or not: what stands while they are played in turns. -/
import Derived.Test.YtlipdccfhnnleaaGreatDoorJ39
namespace Go.Proofs.YtlipdccfhnnleaaGreatDoor
open Go.RowKit
/-- The program's run as New leaves it. -/
theorem pr_of {w V0 W : World} {F : Fw} {gr gt : Nat} {sv rv : Value} {go gp gs ct : Nat} {Pf Sf : Nat → Nat} {P1 : List (Sp × Value)} {P2 : List (Rl × Value)} {lv : Value} {R : Rs} (_hb : Below w.heap.size w V0) (hog : w.heap.size ≤ go ∧ w.heap.size ≤ gp ∧ w.heap.size ≤ gs ∧ TwP w.heap.size V0 sv P1 ∧ TwS w.heap.size V0 rv P2) (h : RnX V0 F gr gt sv rv go gp gs ct Pf Sf P1 P2 lv R W) : Pr w.heap.size V0 F gr gt sv rv go gp gs ct Pf Sf P1 P2 lv R W :=
  ⟨h.run.down (Nat.zero_le _), ⟨hog.1, hog.2.1, hog.2.2.1⟩, h.ord, h.wrd, h.len, h.m1, h.m2, hog.2.2.2.1, hog.2.2.2.2, fun b _ h2 _ => h.bl.block b h2, h.bl.size, h.ge, h.run.gt_ge, fun _ hg => own_ge' h.run.lg hg⟩
/-- The program's run, and behind it the document's. -/
theorem Sd.start {k : SdK} {lv ev : Value} {R Rd : Rs} {W W' : World} (hp : k.P lv R W) (hd : k.D ev Rd W') (hlo : k.lo1 = W.heap.size) (hb : Below W.heap.size W W') : Sd k lv ev R Rd W' := by
  have h1 := hd.gl
  have h2 := hd.gt
  have hfd : ∀ b, k.fd ev b → W.heap.size ≤ b := by
    rintro b ((rfl | rfl | e) | ⟨e, _⟩)
    · omega
    · omega
    · have := hd.ge b e; omega
    · omega
  refine ⟨hp.kept hb.size fun b hb' _ => hb.block b hb', hd, fun b e1 e2 => ?_, fun b e1 e2 => ?_⟩
  · have := hfd b e2
    have := hp.lt b (.inl e1)
    omega
  · have := hfd b (.inl e1)
    have := hp.lt b e2
    omega
/-- All that is written lies behind a mark. -/
theorem Sd.ge {k : SdK} {lv ev : Value} {R Rd : Rs} {W : World} (h : Sd k lv ev R Rd W) {m : Nat} (h1 : m ≤ k.V0.heap.size) (h2 : m ≤ k.lo1) : ∀ b, k.wr lv ev b → m ≤ b := by
  have g1 := h.d.gl
  have g2 := h.d.gt
  rintro b ((rfl | rfl | e) | (rfl | rfl | e))
  · exact Nat.le_trans h1 h.p.ger
  · exact Nat.le_trans h1 h.p.get
  · exact Nat.le_trans h1 (h.p.gel b e)
  · omega
  · omega
  · have := h.d.ge b e; omega
/-- What stands while both are played: from the world Wm on. -/
structure Lp (k : SdK) (lv0 ev0 : Value) (Wm : World) (lv ev : Value) (n : Nat) (R : Rs) (c : Nat) (W : World) : Prop where
  sd : Sd k lv ev R R W
  ok : RsOk n R
  ne : R.log ≠ []
  lg : R.log.length ≤ 1 + 2 * c
  fr : Zf (k.wr lv0 ev0) Wm W
  nf : Nf Wm.heap.size (k.wr lv0 ev0) (k.wr lv ev)
theorem clmR_ne {Pf : Nat → Nat} {R : Rs} (h : R.log ≠ []) (a b c : Int) : (clmR Pf R a b c).log ≠ [] := by unfold clmR; split <;> simp [hapC, h]
theorem donR_ne {R : Rs} (h : R.log ≠ []) (a b c : Int) : (donR R a b c).log ≠ [] := by unfold donR hapD; split <;> (try split) <;> simp [h]
theorem aboR_ne {R : Rs} (h : R.log ≠ []) (a : Int) : (aboR R a).log ≠ [] := by unfold aboR; split <;> simp [hapS, h]
theorem mrkR_ne {R : Rs} (h : R.log ≠ []) (b : Bool) (a : Int) : (mrkR R b a).log ≠ [] := by unfold mrkR; split <;> simp [hapS, h]
theorem plyR_ne {ab : Bool} {Pf : Nat → Nat} {R : Rs} (h : R.log ≠ []) (o : Oq) : (plyR ab Pf R o).log ≠ [] := by
  unfold plyR
  split
  · exact clmR_ne h _ _ _
  · split
    · exact donR_ne h _ _ _
    · split
      · exact aboR_ne h _
      · split
        · exact mrkR_ne h _ _
        · exact h
theorem Lp.start {k : SdK} {lv ev : Value} {Wm : World} {n : Nat} {tick : Int} (h : Sd k lv ev (newR n tick) (newR n tick) Wm) (hn : n ≠ 0) : Lp k lv ev Wm lv ev n (newR n tick) 0 Wm := ⟨h, newR_ok n hn tick, by simp [newR], by simp [newR], Zf.refl _ _, Nf.refl _ _⟩
section
variable {k : SdK} {lv0 ev0 : Value} {Wm : World} {lv ev : Value} {n : Nat} {R : Rs} {c : Nat} {W W' : World}
theorem Lp.over (h : Lp k lv0 ev0 Wm lv ev n R c W) (hb : Below W.heap.size W W') : Lp k lv0 ev0 Wm lv ev n R c W' := { h with sd := h.sd.over hb, fr := h.fr.trans (Zf.of_below hb) (fun _ e => .inl e) }
/-- A call more. -/
theorem Lp.next (h : Lp k lv0 ev0 Wm lv ev n R c W) {o : Oq} {e : Ending} (hp : PyR k lv ev (plyR true k.Pf R o) W e W') : e = .returned (.bool true) ∧ ∃ lv' ev', Lp k lv0 ev0 Wm lv' ev' n (plyR true k.Pf R o) (c + 1) W' := by
  obtain ⟨rfl, lv', ev', h1, h2, h3⟩ := hp
  exact ⟨rfl, lv', ev', h1, plyR_ok _ _ h.ok o, plyR_ne h.ne o, by have := plyR_log true k.Pf R o; have := h.lg; omega, h.fr.trans h2 h.nf, h.nf.trans h3 h.fr.size⟩
theorem Lp.play (h : Lp k lv0 ev0 Wm lv ev n R c W) (hc : c ≤ 1000) (ht : O.Tab W) (o : Oq) : Calls Tryz.prog 10 #[.pointer (some ⟨k.gr, 0, none⟩), .pointer (some ⟨k.gd, 0, none⟩), .agg #[.int .i64 o.on, .int .i64 o.op, .int .i64 o.step, .int .i64 o.user, .int .i64 o.tick, .bool o.stuck]] W fun e W' => e = .returned (.bool true) ∧ ∃ lv' ev', Lp k lv0 ev0 Wm lv' ev' n (plyR true k.Pf R o) (c + 1) W' :=
  (playsF o h.sd h.ok (by have := h.lg; omega) ht).mono fun _ _ hp => h.next hp
theorem Lp.whole (h : Lp k lv0 ev0 Wm lv ev n R c W) (hc : c ≤ 1000) (hB : FlB k.F) (ht : O.Tab W) : Calls Tryz.prog 11 #[.pointer (some ⟨k.gr, 0, none⟩), .pointer (some ⟨k.gd, 0, none⟩)] W fun e w' => e = .returned (.bool true) ∧ Below W.heap.size W w' := wholeF h.sd h.ok h.ne (by have := h.lg; omega) hB ht
theorem Lp.bel (h : Lp k lv0 ev0 Wm lv ev n R c W) {w : World} (hw : Below w.heap.size w Wm) (hg : ∀ b, k.wr lv0 ev0 b → w.heap.size ≤ b) : Below w.heap.size w W := hw.trans (h.fr.toBelow hw.size hg)
theorem Lp.cell (h : Lp k lv0 ev0 Wm lv ev n R c W) {b i : Nat} {v : Value} (hc : Wm.cell? ⟨b, i, none⟩ = some v) (hn : ¬ k.wr lv0 ev0 b) : W.cell? ⟨b, i, none⟩ = some v := blk_cell hc (h.fr.blk b (cell_lt hc) hn)
end
end Go.Proofs.YtlipdccfhnnleaaGreatDoor
namespace Go.Proofs.YtlipdccfhnnleaaGreatDoor
open Go.RowKit
/-- What New answers, in one form. -/
def NwA (F : Fw) (tick : Int) (w : World) (pa : Option Addr) (W : World) : Prop :=
  (pa = none ∧ chkF F ≠ 0) ∨ (FlOk F ∧ ∃ V0 gr gt sv rv go gp gs ct Pf Sf P1 P2 lv, pa = some ⟨gr, 0, none⟩ ∧ w.heap.size ≤ V0.heap.size ∧ Pr w.heap.size V0 F gr gt sv rv go gp gs ct Pf Sf P1 P2 lv (newR F.steps.length tick) W)
theorem NewP.one {F : Fw} {tick : Int} {w w' : World} {e : Ending} (h : NewP F tick w e w') : ∃ pa, e = .returned (.tuple #[.pointer pa, .int .i64 (chkF F)]) ∧ Below w.heap.size w w' ∧ NwA F tick w pa w' := by
  rcases h with ⟨h0, rfl, hb⟩ | ⟨ok, V0, gr, gt, sv, rv, go, gp, gs, ct, Pf, Sf, P1, P2, lv, rfl, hbV, hog, hX⟩
  · exact ⟨none, rfl, hb, .inl ⟨rfl, h0⟩⟩
  · exact ⟨_, by rw [chkF_ok ok], hbV.trans (hX.bl.mono hbV.size), .inr ⟨ok, V0, gr, gt, sv, rv, go, gp, gs, ct, Pf, Sf, P1, P2, lv, rfl, hbV.size, pr_of hbV hog hX⟩⟩
theorem NwA.over {F : Fw} {tick : Int} {w W W' : World} {pa : Option Addr} (h : NwA F tick w pa W) (hb : Below W.heap.size W W') : NwA F tick w pa W' := by
  rcases h with h | ⟨ok, V0, gr, gt, sv, rv, go, gp, gs, ct, Pf, Sf, P1, P2, lv, e, hs, hP⟩
  · exact .inl h
  · have hp : SdK.P ⟨F, w.heap.size, V0, gr, gt, sv, rv, go, gp, gs, ct, Pf, Sf, P1, P2, 0, V0, 0, 0, sv, rv, 0, 0, P1, P2⟩ lv (newR F.steps.length tick) W := hP
    exact .inr ⟨ok, V0, gr, gt, sv, rv, go, gp, gs, ct, Pf, Sf, P1, P2, lv, e, hs, hp.kept hb.size fun b hb' _ => hb.block b hb'⟩
/-- What the document's New answers, in one form. -/
def NwD (F : Fw) (tick : Int) (w : World) (xa : Option Addr) (W : World) : Prop :=
  (xa = none ∧ chkF F ≠ 0) ∨ (FlOk F ∧ ∃ V1 gd gt sv rv go ct Q1 Q2 ev, xa = some ⟨gd, 0, none⟩ ∧ Dc w.heap.size V1 F gd gt sv rv go ct Q1 Q2 ev (newR F.steps.length tick) W)
theorem NewZ.one {F : Fw} {tick : Int} {w w' : World} {e : Ending} (h : NewZ F tick w e w') : ∃ xa, e = .returned (.tuple #[.pointer xa, .int .i64 (chkF F)]) ∧ Below w.heap.size w w' ∧ NwD F tick w xa w' := by
  rcases h with ⟨h0, rfl, hb⟩ | ⟨ok, V1, gd, gt, sv, rv, go, ct, Q1, Q2, ev, rfl, hb, hZ⟩
  · exact ⟨none, rfl, hb, .inl ⟨rfl, h0⟩⟩
  · exact ⟨_, by rw [chkF_ok ok], hb, .inr ⟨ok, V1, gd, gt, sv, rv, go, ct, Q1, Q2, ev, rfl, hZ⟩⟩
/-- A side, there or not: what it writes, and what it reads or writes. -/
def Sx (F : Fw) (pa xa : Option Addr) (c : Nat) (wr ft : Nat → Prop) (W : World) : Prop :=
  (pa = none ∧ xa = none ∧ (∀ b, ¬ wr b) ∧ (∀ b, ¬ ft b)) ∨
  (∃ k lv ev n R, (pa = some ⟨k.gr, 0, none⟩ ∧ xa = some ⟨k.gd, 0, none⟩ ∧ k.F = F) ∧ Sd k lv ev R R W ∧ (RsOk n R ∧ R.log ≠ [] ∧ R.log.length ≤ 1 + 2 * c) ∧ (∀ b, wr b ↔ k.wr lv ev b) ∧ (∀ b, ft b ↔ k.ft lv ev b))
section
variable {F : Fw} {pa xa : Option Addr} {c : Nat} {wr ft : Nat → Prop} {W W' : World}
theorem Sx.kept (h : Sx F pa xa c wr ft W) (hz : W.heap.size ≤ W'.heap.size) (hk : ∀ b, b < W.heap.size → ft b → W'.heap[b]? = W.heap[b]?) : Sx F pa xa c wr ft W' := by
  rcases h with h | ⟨k, lv, ev, n, R, h1, h2, h3, h4, h5⟩
  · exact .inl h
  · exact .inr ⟨k, lv, ev, n, R, h1, h2.kept hz fun b hb e => hk b hb ((h5 b).2 e), h3, h4, h5⟩
theorem Sx.lt (h : Sx F pa xa c wr ft W) : ∀ b, ft b → b < W.heap.size := fun b e => by
  rcases h with ⟨_, _, _, h⟩ | ⟨k, lv, ev, n, R, h1, h2, h3, h4, h5⟩
  · exact absurd e (h b)
  · exact h2.lt b ((h5 b).1 e)
theorem Sx.wf (h : Sx F pa xa c wr ft W) : ∀ b, wr b → ft b := fun b e => by
  rcases h with ⟨_, _, h, _⟩ | ⟨k, lv, ev, n, R, h1, h2, h3, h4, h5⟩
  · exact absurd e (h b)
  · exact (h5 b).2 (wr_ft ((h4 b).1 e))
theorem Sx.more (h : Sx F pa xa c wr ft W) {c' : Nat} (hc : c ≤ c') : Sx F pa xa c' wr ft W := by
  rcases h with h | ⟨k, lv, ev, n, R, h1, h2, ⟨h3, h4, h5⟩, h6⟩
  · exact .inl h
  · exact .inr ⟨k, lv, ev, n, R, h1, h2, ⟨h3, h4, by omega⟩, h6⟩
theorem Sx.nil (h : Sx F pa xa c wr ft W) : pa = none ↔ xa = none := by
  rcases h with ⟨h1, h2, _⟩ | ⟨k, lv, ev, n, R, ⟨h1, h2, _⟩, _⟩
  · rw [h1, h2]
  · rw [h1, h2]; simp
theorem Sx.play {g x : Addr} (h : Sx F (some g) (some x) c wr ft W) (hc : c ≤ 1000) (ht : O.Tab W) (o : Oq) : Calls Tryz.prog 10 #[.pointer (some g), .pointer (some x), .agg #[.int .i64 o.on, .int .i64 o.op, .int .i64 o.step, .int .i64 o.user, .int .i64 o.tick, .bool o.stuck]] W fun e W' => e = .returned (.bool true) ∧ ∃ wr' ft', Sx F (some g) (some x) (c + 1) wr' ft' W' ∧ Zf wr W W' ∧ Nf W.heap.size wr wr' ∧ Nf W.heap.size ft ft' := by
  rcases h with ⟨h, _⟩ | ⟨k, lv, ev, n, R, ⟨h1, h2, hF⟩, hS, ⟨ok, hne, hlg⟩, h4, h5⟩
  · cases h
  · cases h1
    cases h2
    refine (playsF o hS ok (by omega) ht).mono fun e W' ⟨he, lv', ev', hS', hZ, hN⟩ => ⟨he, k.wr lv' ev', k.ft lv' ev', ?_, hZ.mono fun b _ e => (h4 b).2 e, fun b e => ?_, fun b e => ?_⟩
    · exact .inr ⟨k, lv', ev', n, _, ⟨rfl, rfl, hF⟩, hS', ⟨plyR_ok _ _ ok o, plyR_ne hne o, by have := plyR_log true k.Pf R o; omega⟩, fun _ => Iff.rfl, fun _ => Iff.rfl⟩
    · rcases hN b e with e | e
      · exact .inl ((h4 b).2 e)
      · exact .inr e
    · have key : k.wr lv' ev' b → ft b ∨ W.heap.size ≤ b := fun e => by
        rcases hN b e with e | e
        · exact .inl ((h5 b).2 (wr_ft e))
        · exact .inr e
      rcases e with (e | e) | (e | e)
      · exact key (.inl e)
      · exact .inl ((h5 b).2 (.inl (.inr e)))
      · exact key (.inr e)
      · exact .inl ((h5 b).2 (.inr (.inr e)))
theorem Sx.whole {g x : Addr} (h : Sx F (some g) (some x) c wr ft W) (hc : c ≤ 1000) (hB : FlB F) (ht : O.Tab W) : Calls Tryz.prog 11 #[.pointer (some g), .pointer (some x)] W fun e w' => e = .returned (.bool true) ∧ Below W.heap.size W w' := by
  rcases h with ⟨h, _⟩ | ⟨k, lv, ev, n, R, ⟨h1, h2, hF⟩, hS, ⟨ok, hne, hlg⟩, h4, h5⟩
  · cases h
  · cases h1
    cases h2
    exact wholeF hS ok hne (by omega) (by rw [hF]; exact hB) ht
end
/-- Both made. -/
theorem Sx.start {F : Fw} {tick : Int} {w0 wa w1 w2 : World} {pa xa : Option Addr} (hA : NwA F tick w0 pa wa) (hb1 : Below wa.heap.size wa w1) (hD : NwD F tick w1 xa w2) (hb : Below w1.heap.size w1 w2) : ∃ wr ft, Sx F pa xa 0 wr ft w2 ∧ ∀ b, ft b → (w0.heap.size ≤ b ∧ b < wa.heap.size) ∨ (w1.heap.size ≤ b ∧ b < w2.heap.size) := by
  rcases hA with ⟨rfl, h0⟩ | ⟨ok, V0, gr, gt, sv, rv, go, gp, gs, ct, Pf, Sf, P1, P2, lv, rfl, hs, hP⟩
  · rcases hD with ⟨rfl, _⟩ | ⟨ok, _⟩
    · exact ⟨fun _ => False, fun _ => False, .inl ⟨rfl, rfl, fun _ h => h, fun _ h => h⟩, fun _ h => h.elim⟩
    · exact absurd (chkF_ok ok) h0
  · rcases hD with ⟨_, h0⟩ | ⟨_, V1, gd, hd, sv1, rv1, go1, ct1, U1, U2, ev, rfl, hZ⟩
    · exact absurd (chkF_ok ok) h0
    have hpa : SdK.P ⟨F, w0.heap.size, V0, gr, gt, sv, rv, go, gp, gs, ct, Pf, Sf, P1, P2, w1.heap.size, V1, gd, hd, sv1, rv1, go1, ct1, U1, U2⟩ lv (newR F.steps.length tick) wa := hP
    have hp1 := hpa.kept hb1.size fun b hb _ => hb1.block b hb
    have hS := Sd.start hp1 (show SdK.D ⟨F, w0.heap.size, V0, gr, gt, sv, rv, go, gp, gs, ct, Pf, Sf, P1, P2, w1.heap.size, V1, gd, hd, sv1, rv1, go1, ct1, U1, U2⟩ ev (newR F.steps.length tick) w2 from hZ) rfl hb
    refine ⟨_, _, .inr ⟨_, lv, ev, F.steps.length, newR F.steps.length tick, ⟨rfl, rfl, rfl⟩, hS, ⟨newR_ok _ ok.ne tick, by simp [newR], by simp [newR]⟩, fun _ => Iff.rfl, fun _ => Iff.rfl⟩, fun b e => ?_⟩
    rcases e with e | e
    · refine .inl ⟨?_, hpa.lt b e⟩
      have g1 := hP.ger
      have g2 := hP.get
      rcases e with (rfl | rfl | e) | ⟨e, _⟩
      · exact Nat.le_trans hs g1
      · exact Nat.le_trans hs g2
      · exact Nat.le_trans hs (hP.gel b e)
      · exact e
    · refine .inr ⟨?_, hS.d.lt b e⟩
      have g1 := hZ.gl
      have g2 := hZ.gt
      rcases e with (e | e | e) | ⟨e, _⟩
      · rw [e]; exact g1.1
      · rw [e]; show w1.heap.size ≤ hd; omega
      · have := hZ.ge b e; omega
      · exact e
/-- Both sides. -/
structure Tw2 (w : World) (FA FB : Fw) (pa xa pb xb : Option Addr) (c : Nat) (W : World) : Prop where
  ex : ∃ wA fA wB fB, Sx FA pa xa c wA fA W ∧ Sx FB pb xb c wB fB W ∧ (∀ b, wA b → ¬ fB b) ∧ (∀ b, wB b → ¬ fA b) ∧ (∀ b, wA b → w.heap.size ≤ b) ∧ (∀ b, wB b → w.heap.size ≤ b)
  bl : Below w.heap.size w W
section
variable {w : World} {FA FB : Fw} {pa xa pb xb : Option Addr} {c : Nat} {W W' : World}
theorem Tw2.over (h : Tw2 w FA FB pa xa pb xb c W) (hb : Below W.heap.size W W') : Tw2 w FA FB pa xa pb xb c W' := by
  obtain ⟨wA, fA, wB, fB, h1, h2, h3⟩ := h.ex
  exact ⟨⟨wA, fA, wB, fB, h1.kept hb.size fun b hb' _ => hb.block b hb', h2.kept hb.size fun b hb' _ => hb.block b hb', h3⟩, h.bl.trans (hb.mono h.bl.size)⟩
theorem Tw2.more (h : Tw2 w FA FB pa xa pb xb c W) {c' : Nat} (hc : c ≤ c') : Tw2 w FA FB pa xa pb xb c' W := by
  obtain ⟨wA, fA, wB, fB, h1, h2, h3⟩ := h.ex
  exact ⟨⟨wA, fA, wB, fB, h1.more hc, h2.more hc, h3⟩, h.bl⟩
theorem Tw2.nilA (h : Tw2 w FA FB pa xa pb xb c W) : pa = none ↔ xa = none := by
  obtain ⟨wA, fA, wB, fB, h1, h2, h3⟩ := h.ex
  exact h1.nil
theorem Tw2.nilB (h : Tw2 w FA FB pa xa pb xb c W) : pb = none ↔ xb = none := by
  obtain ⟨wA, fA, wB, fB, h1, h2, h3⟩ := h.ex
  exact h2.nil
theorem Tw2.swap (h : Tw2 w FA FB pa xa pb xb c W) : Tw2 w FB FA pb xb pa xa c W := by
  obtain ⟨wA, fA, wB, fB, h1, h2, h3, h4, h5, h6⟩ := h.ex
  exact ⟨⟨wB, fB, wA, fA, h2, h1, h4, h3, h6, h5⟩, h.bl⟩
theorem Tw2.playA {g x : Addr} (h : Tw2 w FA FB (some g) (some x) pb xb c W) (hc : c ≤ 1000) (ht : O.Tab W) (o : Oq) : Calls Tryz.prog 10 #[.pointer (some g), .pointer (some x), .agg #[.int .i64 o.on, .int .i64 o.op, .int .i64 o.step, .int .i64 o.user, .int .i64 o.tick, .bool o.stuck]] W fun e W' => e = .returned (.bool true) ∧ Tw2 w FA FB (some g) (some x) pb xb (c + 1) W' := by
  obtain ⟨wA, fA, wB, fB, h1, h2, h3, h4, h5, h6⟩ := h.ex
  have hz := h.bl.size
  refine (h1.play hc ht o).mono fun e W' ⟨he, wr', ft', hS, hZ, hN, hM⟩ => ⟨he, ⟨wr', ft', wB, fB, hS, (h2.kept hZ.size fun b hb e => hZ.blk b hb fun e2 => h3 b e2 e).more (Nat.le_succ c), fun b e1 e2 => ?_, fun b e1 e2 => ?_, fun b e => ?_, h6⟩, h.bl.trans (hZ.toBelow hz h5)⟩
  · rcases hN b e1 with e | e
    · exact h3 b e e2
    · have := h2.lt b e2; omega
  · rcases hM b e2 with e | e
    · exact h4 b e1 e
    · have := h2.lt b (h2.wf b e1); omega
  · rcases hN b e with e | e
    · exact h5 b e
    · omega
theorem Tw2.wholeA {g x : Addr} (h : Tw2 w FA FB (some g) (some x) pb xb c W) (hc : c ≤ 1000) (hB : FlB FA) (ht : O.Tab W) : Calls Tryz.prog 11 #[.pointer (some g), .pointer (some x)] W fun e w' => e = .returned (.bool true) ∧ Below W.heap.size W w' := by
  obtain ⟨wA, fA, wB, fB, h1, _⟩ := h.ex
  exact h1.whole hc hB ht
end
theorem Tw2.start {w a0 a1 b0 b1 x0 x1 y1 : World} {FA FB : Fw} {tA tB : Int} {pa xa pb xb : Option Addr} (hA : NwA FA tA a0 pa a1) (hB : NwA FB tB b0 pb b1) (hX : NwD FA tA x0 xa x1) (hY : NwD FB tB x1 xb y1)
    (w0 : Below w.heap.size w a0) (z0 : Below a0.heap.size a0 a1) (z1 : Below a1.heap.size a1 b0) (z2 : Below b0.heap.size b0 b1) (z3 : Below b1.heap.size b1 x0) (z4 : Below x0.heap.size x0 x1) (z5 : Below x1.heap.size x1 y1) : Tw2 w FA FB pa xa pb xb 0 y1 := by
  have s0 := w0.size
  have s1 := z0.size
  have s2 := z1.size
  have s3 := z2.size
  have s4 := z3.size
  have s5 := z4.size
  have s6 := z5.size
  have e1 : Below a1.heap.size a1 x0 := z1.trans ((z2.trans (z3.mono s3)).mono s2)
  have e2 : Below b1.heap.size b1 x1 := z3.trans (z4.mono s4)
  obtain ⟨wA, fA, h1, k1⟩ := Sx.start hA e1 hX z4
  obtain ⟨wB, fB, h2, k2⟩ := Sx.start hB e2 hY z5
  have h1' := h1.kept z5.size fun b hb _ => z5.block b hb
  have hd : ∀ b, fA b → ¬ fB b := fun b u v => by
    rcases k1 b u with u | u <;> rcases k2 b v with v | v <;> omega
  refine ⟨⟨wA, fA, wB, fB, h1', h2, fun b e => hd b (h1.wf b e), fun b e u => hd b u (h2.wf b e), fun b e => ?_, fun b e => ?_⟩, ?_⟩
  · rcases k1 b (h1.wf b e) with u | u <;> omega
  · rcases k2 b (h2.wf b e) with u | u <;> omega
  · exact w0.trans ((z0.trans ((e1.trans ((z4.trans (z5.mono s5)).mono (by omega))).mono s1)).mono s0)
end Go.Proofs.YtlipdccfhnnleaaGreatDoor

/- What the laws of two runs begin with: the runs made, what stands while they are played. -/
import Derived.Test.YtlipdccfhnnleaaGreatDoorJ39
namespace Go.Proofs.YtlipdccfhnnleaaGreatDoor
open Go.RowKit
/-- The program's run as New leaves it. -/
theorem pr_of {w V0 W : World} {F : Fw} {gr gt : Nat} {sv rv : Value} {go gp gs ct : Nat} {Pf Sf : Nat → Nat} {P1 : List (Sp × Value)} {P2 : List (Rl × Value)} {lv : Value} {R : Rs} (_hb : Below w.heap.size w V0) (hog : w.heap.size ≤ go ∧ w.heap.size ≤ gp ∧ w.heap.size ≤ gs ∧ TwP w.heap.size V0 sv P1 ∧ TwS w.heap.size V0 rv P2) (h : RnX V0 F gr gt sv rv go gp gs ct Pf Sf P1 P2 lv R W) : Pr w.heap.size V0 F gr gt sv rv go gp gs ct Pf Sf P1 P2 lv R W :=
  ⟨h.run.down (Nat.zero_le _), ⟨hog.1, hog.2.1, hog.2.2.1⟩, h.ord, h.wrd, h.len, h.m1, h.m2, hog.2.2.2.1, hog.2.2.2.2, fun b _ h2 _ => h.bl.block b h2, h.bl.size, h.ge, h.run.gt_ge, fun _ hg => own_ge' h.run.lg hg⟩
/-- The program's run, and behind it the document's. -/
theorem Sd.start {k : SdK} {lv ev : Value} {R Rd : Rs} {W W' : World} (hp : k.P lv R W) (hd : k.D ev Rd W') (hlo : k.lo1 = W.heap.size) (hb : Below W.heap.size W W') : Sd k lv ev R Rd W' := by
  have h1 := hd.gl
  have h2 := hd.gt
  have hfd : ∀ b, k.fd ev b → W.heap.size ≤ b := by
    rintro b ((rfl | rfl | e) | ⟨e, _⟩)
    · omega
    · omega
    · have := hd.ge b e; omega
    · omega
  refine ⟨hp.kept hb.size fun b hb' _ => hb.block b hb', hd, fun b e1 e2 => ?_, fun b e1 e2 => ?_⟩
  · have := hfd b e2
    have := hp.lt b (.inl e1)
    omega
  · have := hfd b (.inl e1)
    have := hp.lt b e2
    omega
/-- All that is written lies behind a mark. -/
theorem Sd.ge {k : SdK} {lv ev : Value} {R Rd : Rs} {W : World} (h : Sd k lv ev R Rd W) {m : Nat} (h1 : m ≤ k.V0.heap.size) (h2 : m ≤ k.lo1) : ∀ b, k.wr lv ev b → m ≤ b := by
  have g1 := h.d.gl
  have g2 := h.d.gt
  rintro b ((rfl | rfl | e) | (rfl | rfl | e))
  · exact Nat.le_trans h1 h.p.ger
  · exact Nat.le_trans h1 h.p.get
  · exact Nat.le_trans h1 (h.p.gel b e)
  · omega
  · omega
  · have := h.d.ge b e; omega
/-- What stands while both are played: from the world Wm on. -/
structure Lp (k : SdK) (lv0 ev0 : Value) (Wm : World) (lv ev : Value) (n : Nat) (R : Rs) (c : Nat) (W : World) : Prop where
  sd : Sd k lv ev R R W
  ok : RsOk n R
  ne : R.log ≠ []
  lg : R.log.length ≤ 1 + 2 * c
  fr : Zf (k.wr lv0 ev0) Wm W
  nf : Nf Wm.heap.size (k.wr lv0 ev0) (k.wr lv ev)
theorem clmR_ne {Pf : Nat → Nat} {R : Rs} (h : R.log ≠ []) (a b c : Int) : (clmR Pf R a b c).log ≠ [] := by unfold clmR; split <;> simp [hapC, h]
theorem donR_ne {R : Rs} (h : R.log ≠ []) (a b c : Int) : (donR R a b c).log ≠ [] := by unfold donR hapD; split <;> (try split) <;> simp [h]
theorem aboR_ne {R : Rs} (h : R.log ≠ []) (a : Int) : (aboR R a).log ≠ [] := by unfold aboR; split <;> simp [hapS, h]
theorem mrkR_ne {R : Rs} (h : R.log ≠ []) (b : Bool) (a : Int) : (mrkR R b a).log ≠ [] := by unfold mrkR; split <;> simp [hapS, h]
theorem plyR_ne {ab : Bool} {Pf : Nat → Nat} {R : Rs} (h : R.log ≠ []) (o : Oq) : (plyR ab Pf R o).log ≠ [] := by
  unfold plyR
  split
  · exact clmR_ne h _ _ _
  · split
    · exact donR_ne h _ _ _
    · split
      · exact aboR_ne h _
      · split
        · exact mrkR_ne h _ _
        · exact h
theorem Lp.start {k : SdK} {lv ev : Value} {Wm : World} {n : Nat} {tick : Int} (h : Sd k lv ev (newR n tick) (newR n tick) Wm) (hn : n ≠ 0) : Lp k lv ev Wm lv ev n (newR n tick) 0 Wm := ⟨h, newR_ok n hn tick, by simp [newR], by simp [newR], Zf.refl _ _, Nf.refl _ _⟩
section
variable {k : SdK} {lv0 ev0 : Value} {Wm : World} {lv ev : Value} {n : Nat} {R : Rs} {c : Nat} {W W' : World}
theorem Lp.over (h : Lp k lv0 ev0 Wm lv ev n R c W) (hb : Below W.heap.size W W') : Lp k lv0 ev0 Wm lv ev n R c W' := { h with sd := h.sd.over hb, fr := h.fr.trans (Zf.of_below hb) (fun _ e => .inl e) }
/-- A call more. -/
theorem Lp.next (h : Lp k lv0 ev0 Wm lv ev n R c W) {o : Oq} {e : Ending} (hp : PyR k lv ev (plyR true k.Pf R o) W e W') : e = .returned (.bool true) ∧ ∃ lv' ev', Lp k lv0 ev0 Wm lv' ev' n (plyR true k.Pf R o) (c + 1) W' := by
  obtain ⟨rfl, lv', ev', h1, h2, h3⟩ := hp
  exact ⟨rfl, lv', ev', h1, plyR_ok _ _ h.ok o, plyR_ne h.ne o, by have := plyR_log true k.Pf R o; have := h.lg; omega, h.fr.trans h2 h.nf, h.nf.trans h3 h.fr.size⟩
theorem Lp.play (h : Lp k lv0 ev0 Wm lv ev n R c W) (hc : c ≤ 1000) (ht : O.Tab W) (o : Oq) : Calls Tryz.prog 10 #[.pointer (some ⟨k.gr, 0, none⟩), .pointer (some ⟨k.gd, 0, none⟩), .agg #[.int .i64 o.on, .int .i64 o.op, .int .i64 o.step, .int .i64 o.user, .int .i64 o.tick, .bool o.stuck]] W fun e W' => e = .returned (.bool true) ∧ ∃ lv' ev', Lp k lv0 ev0 Wm lv' ev' n (plyR true k.Pf R o) (c + 1) W' :=
  (playsF o h.sd h.ok (by have := h.lg; omega) ht).mono fun _ _ hp => h.next hp
theorem Lp.whole (h : Lp k lv0 ev0 Wm lv ev n R c W) (hc : c ≤ 1000) (hB : FlB k.F) (ht : O.Tab W) : Calls Tryz.prog 11 #[.pointer (some ⟨k.gr, 0, none⟩), .pointer (some ⟨k.gd, 0, none⟩)] W fun e w' => e = .returned (.bool true) ∧ Below W.heap.size W w' := wholeF h.sd h.ok h.ne (by have := h.lg; omega) hB ht
theorem Lp.bel (h : Lp k lv0 ev0 Wm lv ev n R c W) {w : World} (hw : Below w.heap.size w Wm) (hg : ∀ b, k.wr lv0 ev0 b → w.heap.size ≤ b) : Below w.heap.size w W := hw.trans (h.fr.toBelow hw.size hg)
theorem Lp.cell (h : Lp k lv0 ev0 Wm lv ev n R c W) {b i : Nat} {v : Value} (hc : Wm.cell? ⟨b, i, none⟩ = some v) (hn : ¬ k.wr lv0 ev0 b) : W.cell? ⟨b, i, none⟩ = some v := blk_cell hc (h.fr.blk b (cell_lt hc) hn)
end
end Go.Proofs.YtlipdccfhnnleaaGreatDoor

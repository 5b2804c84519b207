/- The law AgendaExact: walked. -/
import Derived.Test.YtmjdecgijnodhaaGTwoFn
import Derived.Test.YtmjdecgijnodhaaGPlayD
import Derived.Deep.CutBlock
import Derived.Deep.CutRange
namespace Go.Proofs.Ytmjdecgijnodhaa
open Go.RowKit Go.Maps
structure OpA where
  on : Int
  op : Int
  id : Int
  n : Int
/-- A row of calls, as it is read. -/
def RowOpA (W : World) (v : Value) (L : List OpA) : Prop :=
  ∃ oa cap, v = .slice oa L.length cap ∧ (L.length ≤ cap ∧ (oa = none → cap = 0) ∧ cap ≤ 9223372036854775807) ∧ ∀ (i : Nat) (p : OpA), L[i]? = some p → (∃ g o, oa = some ⟨g, o, none⟩ ∧ W.cell? ⟨g, o + i * 4, none⟩ = some (.int .i64 p.on) ∧ W.cell? ⟨g, o + i * 4 + 1, none⟩ = some (.int .i64 p.op) ∧ W.cell? ⟨g, o + i * 4 + 2, none⟩ = some (.int .i64 p.id) ∧ W.cell? ⟨g, o + i * 4 + 3, none⟩ = some (.int .i64 p.n)) ∧ (Lit.int .i64 p.id).wf = true
theorem and_one (z : Int) : ∃ k : Nat, k < 2 ∧ bits .and .i64 z 1 = (k : Int) := by
  have h1 : (BitVec.ofInt 64 z &&& BitVec.ofInt 64 1).toNat < 2 := by
    rw [BitVec.toNat_and]
    have : (BitVec.ofInt 64 1).toNat = 2 ^ 1 - 1 := rfl
    rw [this, Nat.and_two_pow_sub_one_eq_mod]
    omega
  refine ⟨(BitVec.ofInt 64 z &&& BitVec.ofInt 64 1).toNat, h1, ?_⟩
  show IntKind.i64.wrap ((BitVec.ofInt 64 z &&& BitVec.ofInt 64 1).toNat : Int) = _
  generalize (BitVec.ofInt 64 z &&& BitVec.ofInt 64 1).toNat = q at *
  simp only [IntKind.wrap, IntKind.bits, IntKind.signed]
  simp
  omega
/-- The two pairs, few calls behind them. -/
def TwN (w W : World) (la : Nat) (ps rs : Nat → Nat) (c : Nat) : Prop := ∃ Fs vs Ms ss, TwoA w W la w.heap.size 2 ps rs Fs vs Ms ss ∧ ∀ k, k < 2 → ss k ≤ c
theorem TwN.over {w W W' : World} {la : Nat} {ps rs : Nat → Nat} {c : Nat} (h : TwN w W la ps rs c) (hb : Below W.heap.size W W') : TwN w W' la ps rs c := by
  obtain ⟨Fs, vs, Ms, ss, h1, h2⟩ := h
  exact ⟨Fs, vs, Ms, ss, h1.over hb, h2⟩
theorem TwN.more {w W : World} {la : Nat} {ps rs : Nat → Nat} {c c' : Nat} (h : TwN w W la ps rs c) (hc : c ≤ c') : TwN w W la ps rs c' := by
  obtain ⟨Fs, vs, Ms, ss, h1, h2⟩ := h
  exact ⟨Fs, vs, Ms, ss, h1, fun k hk => Nat.le_trans (h2 k hk) hc⟩
theorem TwoA.bel {w W : World} {la n : Nat} {ps rs : Nat → Nat} {Fs : Nat → Nat → Prop} {vs : Nat → Value} {Ms : Nat → List Ent} {ss : Nat → Nat} (h : TwoA w W la w.heap.size n ps rs Fs vs Ms ss) (hl : w.heap.size ≤ la) : Below w.heap.size w W := h.mv.toBelow (fun k e => by omega) (Nat.le_refl _)
/-- One side, as it lies, and what playing it leaves. -/
theorem TwN.side {w W : World} {la : Nat} {ps rs : Nat → Nat} {c k : Nat} (h : TwN w W la ps rs c) (hk : k < 2) : W.cell? ⟨la, k * 2, none⟩ = some (.pointer (some ⟨ps k, 0, none⟩)) ∧ W.cell? ⟨la, k * 2 + 1, none⟩ = some (.pointer (some ⟨rs k, 0, none⟩)) ∧ Calls Try.prog 17 #[.agg #[.pointer (some ⟨ps k, 0, none⟩), .pointer (some ⟨rs k, 0, none⟩)]] W (fun e w' => e = .returned (.bool true) ∧ TwN w w' la ps rs c) ∧
    ∃ G : Nat → Prop, ¬ G la ∧ (∀ g, g < w.heap.size → ¬ G g) ∧ (c + 1 ≤ 1000000 → ∀ on d id n : Int, (Lit.int .i64 id).wf = true → Calls Try.prog 5 #[.agg #[.pointer (some ⟨ps k, 0, none⟩), .pointer (some ⟨rs k, 0, none⟩)], .agg #[.int .i64 on, .int .i64 d, .int .i64 id, .int .i64 n]] W fun e w' => e = .returned (.bool true) ∧ TwN w w' la ps rs (c + 1) ∧ Mv G W w') := by
  obtain ⟨Fs, vs, Ms, ss, hT, hs⟩ := id h
  obtain ⟨f, hf, hfe⟩ := hT.arr
  have a0 := hf.cell (i := k * 2) (by omega)
  have a1 := hf.cell (i := k * 2 + 1) (by omega)
  rw [(hfe k hk).1] at a0
  rw [(hfe k hk).2] at a1
  obtain ⟨q1, q2, q3⟩ := hT.far k hk
  refine ⟨a0, a1, (firstS (hT.sa k hk)).mono fun e w' ⟨h1, h2⟩ => ⟨h1, h.over h2⟩, fun g => Fs k g ∨ g = rs k, ?_, ?_, fun hc on d id n hid => ?_⟩
  · rintro (e | e)
    · exact (q1 _ e).2 rfl
    · exact q2.2 e.symm
  · rintro g hg (e | e)
    · have := (q1 _ e).1; omega
    · have := q2.1; omega
  · refine (playsA (hT.sa k hk) (by have := hs k hk; omega) on d id n hid).mono fun e w' ⟨h1, h2⟩ => ⟨h1, ?_, ?_⟩
    · obtain ⟨F', v', M', s', h3, h4⟩ := hT.step hk h2
      refine ⟨_, _, _, _, h3, fun j hj => ?_⟩
      by_cases e : j = k
      · subst e; rw [up_same]; have := hs j hj; omega
      · rw [up_other _ _ e]; have := hs j hj; omega
    · obtain ⟨F', v', M', s', h3, h4, _⟩ := h2
      exact h4.1
/-- One side's first entry, and what dropping it leaves. -/
theorem TwN.drain {w W : World} {la : Nat} {ps rs : Nat → Nat} {c k : Nat} (h : TwN w W la ps rs c) (hk : k < 2) : ∃ m o cp, W.cell? ⟨rs k, 0, none⟩ = some (.slice o m cp) ∧ lenAt W (rs k) = m ∧ (0 < m → ∃ x y : Int, Calls Try.prog 29 #[.pointer (some ⟨rs k, 0, none⟩)] W (fun e w' => e = .returned (.tuple #[.int .i64 x, .int .i64 y, .bool true]) ∧ Below W.heap.size W w') ∧
    ∀ V, Below W.heap.size W V → Calls Try.prog 17 #[.agg #[.pointer (some ⟨ps k, 0, none⟩), .pointer (some ⟨rs k, 0, none⟩)]] V (fun e w' => e = .returned (.bool true) ∧ Below V.heap.size V w') ∧ V.cell? ⟨la, k * 2, none⟩ = some (.pointer (some ⟨ps k, 0, none⟩)) ∧ V.cell? ⟨la, k * 2 + 1, none⟩ = some (.pointer (some ⟨rs k, 0, none⟩)) ∧
      Calls Try.prog 5 #[.agg #[.pointer (some ⟨ps k, 0, none⟩), .pointer (some ⟨rs k, 0, none⟩)], .agg #[.int .i64 0, .int .i64 2, .int .i64 x, .int .i64 0]] V fun e w' => e = .returned (.bool true) ∧ TwN w w' la ps rs c ∧ lenAt w' (rs k) < m) := by
  obtain ⟨Fs, vs, Ms, ss, hT, hs⟩ := h
  obtain ⟨o, cp, hc, hl⟩ := (hT.sa k hk).cellR
  refine ⟨(Ms k).length, o, cp, hc, hl, fun hp => ?_⟩
  obtain ⟨x, hx, hf⟩ := (hT.sa k hk).fst hp
  have hfd := firstD (hT.sa k hk)
  rw [hf] at hfd
  refine ⟨x.id, x.tm, hfd, fun V hV => ?_⟩
  have hTV := hT.over hV
  obtain ⟨f, hfr, hfe⟩ := hTV.arr
  have a0 := hfr.cell (i := k * 2) (by omega)
  have a1 := hfr.cell (i := k * 2 + 1) (by omega)
  rw [(hfe k hk).1] at a0
  rw [(hfe k hk).2] at a1
  refine ⟨firstS (hTV.sa k hk), a0, a1, (playsD (hTV.sa k hk) 0 x.id 0 ((hTV.sa k hk).idwf hx)).mono fun e w' ⟨h1, F', v', h2, h3⟩ => ⟨h1, ⟨_, _, _, _, hTV.stepX hk h2 h3, fun j hj => ?_⟩, ?_⟩⟩
  · by_cases e : j = k
    · subst e; rw [up_same]; exact hs j hj
    · rw [up_other _ _ e]; exact hs j hj
  · obtain ⟨_, _, _, e⟩ := h2.cellR
    rw [e]; exact (hTV.sa k hk).less hx
end Go.Proofs.Ytmjdecgijnodhaa

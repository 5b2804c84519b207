/- The heap in memory, and what Push and Pop make of it. -/
import Derived.Test.YtbpojobmenagkaaDoorVPop
import Derived.RangeFuncBox
import Derived.RangeFuncCalls
namespace Go.Proofs.YtbpojobmenagkaaDoor
open Go.RowKit
theorem SameE.add {n : Nat} {f g : Nat → Ent} (e : Ent) (h : SameE n f g) : SameE (n + 1) (addE f n e) (addE g n e) := by
  obtain ⟨s, t, h1, h2⟩ := h
  refine ⟨fun k => if k = n then n else s k, fun k => if k = n then n else t k, fun k hk => ?_, fun k hk => ?_⟩
  · by_cases e1 : k = n
    · subst e1; simp [addE]
    · obtain ⟨a1, a2, a3⟩ := h1 k (by omega)
      simp only [if_neg e1, addE]
      refine ⟨by omega, ?_, ?_⟩
      · rw [if_neg (by omega)]; exact a2
      · rw [if_neg (by omega)]; exact a3
  · by_cases e1 : k = n
    · subst e1; simp
    · obtain ⟨a1, a2⟩ := h2 k (by omega)
      simp only [if_neg e1]
      exact ⟨by omega, by rw [if_neg (by omega)]; exact a2⟩
/-- The entry of a place. -/
def entP (p : Nat → Int) (k : Fin 64) : Ent := ⟨0, p k.val, (k.val : Int)⟩
/-- The heap with what is laid behind. -/
def ext (f : Nat → Ent) (m : Nat) (p : Nat → Int) (l : List (Fin 64)) (k : Nat) : Ent := if k < m then f k else entP p (l.getD (k - m) 0)
theorem ext_nil (f : Nat → Ent) (m : Nat) (p : Nat → Int) : SameE m (ext f m p []) f := ⟨id, id, fun k hk => ⟨hk, by unfold ext; simp [hk], rfl⟩, fun _ hk => ⟨hk, rfl⟩⟩
theorem ext_snoc (f : Nat → Ent) (m : Nat) (p : Nat → Int) (l : List (Fin 64)) (x : Fin 64) : SameE (m + l.length + 1) (ext f m p (l ++ [x])) (addE (ext f m p l) (m + l.length) (entP p x)) := by
  refine ⟨id, id, fun k hk => ⟨hk, ?_, rfl⟩, fun _ hk => ⟨hk, rfl⟩⟩
  show addE (ext f m p l) (m + l.length) (entP p x) k = ext f m p (l ++ [x]) k
  unfold addE ext
  by_cases e1 : k = m + l.length
  · subst e1
    rw [if_pos rfl, if_neg (by omega)]
    congr 1
    simp
  · rw [if_neg e1]
    by_cases e2 : k < m
    · rw [if_pos e2, if_pos e2]
    · rw [if_neg e2, if_neg e2]
      congr 1
      rw [List.getD_eq_getElem?_getD, List.getD_eq_getElem?_getD, List.getElem?_append_left (by omega)]
/-- Blocks that hold neither a row of turns nor a variable of such stand as they stood. -/
structure FzT (W W' : World) : Prop where
  size : W.heap.size ≤ W'.heap.size
  block : ∀ k, k < W.heap.size → (∀ c e f, W.heap[k]? = some (.cells c e f) → e ≠ 52 ∧ e ≠ 60) → W'.heap[k]? = W.heap[k]?
theorem FzT.refl (W : World) : FzT W W := ⟨Nat.le_refl _, fun _ _ _ => rfl⟩
theorem FzT.trans {W W' W2 : World} (h : FzT W W') (k : FzT W' W2) : FzT W W2 := ⟨Nat.le_trans h.size k.size, fun b hb hc => by
  have e := h.block b hb hc
  rw [k.block b (Nat.lt_of_lt_of_le hb h.size) (fun c t f hh => hc c t f (by rw [← e]; exact hh)), e]⟩
theorem FzT.below {W W' : World} (h : Below W.heap.size W W') : FzT W W' := ⟨h.size, fun b hb _ => h.block b hb⟩
/-- The heap in memory: the variable, its row, all of one's own. -/
def HpV (B q : Nat) (W : World) (m : Nat) (g : Nat → Ent) : Prop := B ≤ q ∧ ∃ rv f, TB W q rv ∧ TH W m f rv ∧ IsHeap f m ∧ SameE m g f ∧ ∀ b, rv.ownBlock = some b → B ≤ b
theorem HpV.below {B q : Nat} {W W' : World} {m : Nat} {g : Nat → Ent} (h : HpV B q W m g) (hb : Below W.heap.size W W') : HpV B q W' m g := by
  obtain ⟨hq, rv, f, h1, h2, h3, h4, h5⟩ := h
  exact ⟨hq, rv, f, h1.same (hb.block q h1.lt), TH.below h2 hb, h3, h4, h5⟩
theorem fz_types {q m : Nat} {f : Nat → Ent} {rv : Value} {W W' : World} (h1 : TB W q rv) (h2 : TH W m f rv) (h : Fz q rv W W') : FzT W W' := ⟨h.2.2.2.1, fun k hk hc => by
  refine h.2.2.2.2 k hk (fun e => ?_) (fun e => ?_)
  · subst e
    exact absurd rfl (hc _ _ _ h1).1
  · obtain ⟨c1, f1, h3⟩ := Go.Lib.ownsRow_kind h2 _ e
    exact absurd rfl (hc _ _ _ h3).2⟩
theorem fz_below {B q : Nat} {rv : Value} {W W' : World} (hB : B ≤ W.heap.size) (hq : B ≤ q) (hr : ∀ b, rv.ownBlock = some b → B ≤ b) (h : Fz q rv W W') : Below B W W' :=
  ⟨h.1, h.2.1, h.2.2.1, h.2.2.2.1, fun k hk => h.2.2.2.2 k (by omega) (by omega) (fun e => by have := hr k e; omega)⟩
theorem hpvPush {B q : Nat} {W : World} {m : Nat} {g : Nat → Ent} (h : HpV B q W m g) (hm : m ≤ 900) (hB : B ≤ W.heap.size) (e : Ent) :
    Calls Tryd.prog 18 #[.iface 50 (.pointer (some ⟨q, 0, none⟩)), .iface 60 (.agg #[.int .i64 e.tm, .int .i64 e.turn])] W fun e' w' => e' = .returned (.tuple #[]) ∧ Hid (HpV B q w' (m + 1) (addE g m e)) ∧ Hid (FzT W w') ∧ Hid (Below B W w') := by
  obtain ⟨hq, rv, f, h1, h2, h3, h4, h5⟩ := h
  refine (pushHT q m rv f e hm W h2 h3 h1).mono ?_
  rintro e' w' ⟨rfl, g2, cap2, f', a1, a2, a3, a4, a5, a6⟩
  refine ⟨rfl, ⟨hq, _, f', a2, a1, a3, (h4.add e).trans a4, fun b hb => ?_⟩, fz_types h1 h2 a6, fz_below hB hq h5 a6⟩
  have hb' : g2 = b := by simpa [Value.ownBlock] using hb
  subst hb'
  rcases a5 with a5 | a5
  · exact h5 _ a5
  · omega
/-- What Pop takes: the least. -/
theorem hpvPop {B q : Nat} {W : World} {m : Nat} {g : Nat → Ent} (h : HpV B q W (m + 1) g) (hm : m ≤ 900) (hB : B ≤ W.heap.size) :
    Calls Tryd.prog 22 #[.iface 50 (.pointer (some ⟨q, 0, none⟩))] W fun e' w' => ∃ (x : Ent) (g' : Nat → Ent), e' = .returned (.iface 60 (.agg #[.int .i64 x.tm, .int .i64 x.turn])) ∧ Hid (HpV B q w' m g') ∧ Hid (SameE (m + 1) g (addE g' m x) ∧ ∀ k, k < m + 1 → ¬ ltE (g k) x) ∧ Hid (FzT W w') ∧ Hid (Below B W w') := by
  obtain ⟨hq, rv, f, h1, h2, h3, h4, h5⟩ := h
  obtain ⟨oa, cap, rfl⟩ := own_form2 h2
  obtain ⟨gr, rfl⟩ : ∃ gr, oa = some ⟨gr, 0, none⟩ := by
    rcases h2.2 with ⟨e, _⟩ | ⟨g', cap', cur, e, _⟩
    · cases e
    · cases e; exact ⟨_, rfl⟩
  refine (popHT q m gr cap f hm W h2 h3 h1).mono ?_
  rintro e' w' ⟨rfl, f', a1, a2, a3, a4⟩
  refine ⟨f 0, f', rfl, ⟨hq, _, f', a2.out, a1.out, a3.out.2.2, SameE.refl _ _, h5⟩, ⟨?_, ?_⟩, fz_types h1 h2 a4.out, fz_below hB hq h5 a4.out⟩
  · refine (h4.trans a3.out.1).trans ⟨id, id, fun k hk => ⟨hk, ?_, rfl⟩, fun _ hk => ⟨hk, rfl⟩⟩
    show addE f' m (f 0) k = f' k
    unfold addE
    by_cases e : k = m
    · rw [if_pos e, e]; exact a3.out.2.1.symm
    · rw [if_neg e]
  · intro k hk
    obtain ⟨s, t, b1, b2⟩ := h4
    obtain ⟨c1, c2⟩ := b2 k hk
    have := heap_root h3 (t k) c1
    rw [(b1 (t k) c1).2.1, c2] at this
    exact this
theorem th_grown {W W' : World} {n : Nat} {f : Nat → Ent} {v : Value} {row : Option Nat} (h : TH W n f v) (hg : W.grownBy W' row) (hr : ∀ r, row = some r → ∃ o : Obj, W.heap[r]? = some o ∧ o.isCells = false) : TH W' n f v := by
  unfold TH at *
  refine ⟨h.1, ?_⟩
  rcases h.2 with hn | ⟨g, cap, cur, rfl, hb0, hgg, rest⟩
  · exact .inl hn
  · refine .inr ⟨g, cap, cur, rfl, hb0, ?_, rest⟩
    rw [hg.block g (Array.getElem?_eq_some_iff.1 hgg).1 (fun e => ?_)]
    · exact hgg
    · obtain ⟨o, ho, hc⟩ := hr g e.symm
      rw [hgg] at ho
      cases ho
      cases hc
theorem tb_grown {W W' : World} {a : Nat} {v : Value} {row : Option Nat} (h : TB W a v) (hg : W.grownBy W' row) (hr : ∀ r, row = some r → ∃ o : Obj, W.heap[r]? = some o ∧ o.isCells = false) : TB W' a v := by
  refine h.same (hg.block a h.lt (fun e => ?_))
  obtain ⟨o, ho, hc⟩ := hr a e.symm
  unfold TB at h
  rw [h] at ho
  cases ho
  cases hc
theorem hpv_own {β : Type} (B q B' : Nat) (k : β → Nat) (g : β → Nat → Ent) : OwnFrom B' (fun s W => HpV B q W (k s) (g s)) := fun s W W' row h hg hr => by
  obtain ⟨hq, rv, f, h1, h2, h3, h4, h5⟩ := h
  exact ⟨hq, rv, f, tb_grown h1 hg (fun r e => (hr r e).2), th_grown h2 hg (fun r e => (hr r e).2), h3, h4, h5⟩
theorem fzt_own {β : Type} (w0 : World) (B' : Nat) (hB : w0.heap.size ≤ B') : OwnFrom B' (fun (_ : β) W => FzT w0 W) := fun s W W' row h hg hr =>
  ⟨Nat.le_trans h.size hg.size, fun k hk hc => by
    rw [hg.block k (Nat.lt_of_lt_of_le hk h.size) (fun e => by have := (hr k e.symm).1; omega)]
    exact h.block k hk hc⟩
end Go.Proofs.YtbpojobmenagkaaDoor

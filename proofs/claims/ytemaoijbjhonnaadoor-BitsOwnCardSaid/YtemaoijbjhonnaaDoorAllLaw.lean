/- A range over All, held against the row that is wanted. -/
import Derived.Test.YtemaoijbjhonnaaDoorFnNil
namespace Go.Proofs.YtemaoijbjhonnaaDoor
open Go.RowKit Go.Shelf
attribute [local go_sem] Oper.semAt_some
theorem cell_al {W : World} {b i : Nat} {v : Value} (h : W.cell? ⟨b, i, none⟩ = some v) (o : Obj) : (W.alloc o).cell? ⟨b, i, none⟩ = some v :=
  (((Below.refl W.heap.size W).alloc (Nat.le_refl _) o).cell (p := ⟨b, i, none⟩) (cell_lt h)).trans h
theorem owns_shape {W : World} {base : Nat} {e : TypeId} {size : Nat} {v : Value} {n : Nat} {xs : List Value} (h : W.ownsRow base e size v n xs) : ∃ oa cap, v = .slice oa n cap := by
  rcases h.2 with ⟨rfl, rfl⟩ | ⟨g, cap, _, rfl, _⟩
  · exact ⟨none, 0, rfl⟩
  · exact ⟨_, cap, rfl⟩
theorem owns_lt {W : World} {base : Nat} {e : TypeId} {size : Nat} {v : Value} {n : Nat} {xs : List Value} (h : W.ownsRow base e size v n xs) : ∀ g, v.ownBlock = some g → g < W.heap.size := by
  intro g hg
  rcases h.2 with ⟨rfl, _⟩ | ⟨g', cap, cur, rfl, _, hb, _⟩
  · simp [Value.ownBlock] at hg
  · obtain rfl : g' = g := by simpa [Value.ownBlock] using hg
    exact (Array.getElem?_eq_some_iff.1 hb).1
theorem owns_off {W W' : World} {base : Nat} {e : TypeId} {size : Nat} {v : Value} {n : Nat} {xs : List Value} {row : Option Nat} (h : W.ownsRow base e size v n xs) (hg : W.grownBy W' row) (hne : ∀ g, v.ownBlock = some g → row ≠ some g) : W'.ownsRow base e size v n xs := by
  rcases h.2 with ⟨rfl, _⟩ | ⟨g', cap, cur, rfl, _⟩
  · exact h.kept hg (.inl rfl)
  · exact h.kept hg (.inr fun e => hne g' rfl e.symm)
/-- What stands while the numbers are told: the law's own boxes, the row that is wanted, and what lay ahead. -/
def AI (w : World) (X : Obj) (bs bw base A : Nat) (st : Int) (v : Value) (m : Nat) (W : World) : Prop :=
  W.heap[w.heap.size]? = some X ∧ Boxed W (w.heap.size + 1) 4 (.bool false) ∧ Boxed W (bs + 1) 36 (.int .u64 A) ∧ Boxed W bw 60 v ∧ Boxed W (bw + 1) 3 (.int .i64 m) ∧ Boxed W (bw + 1 + 1) 3 (.int .i64 st) ∧
    W.ownsRow base 3 1 v (nums A).length (intsOf (nums A)) ∧ Below w.heap.size w W
theorem AI.own {w : World} {X : Obj} {bs bw base A : Nat} {st : Int} {v : Value} {m B : Nat} (hX : X.isCells = true) (hB : w.heap.size ≤ B) : OwnFrom (β := Unit) B (fun _ W => AI w X bs bw base A st v m W) := by
  rintro s Y Z row ⟨h1, h2, h3, h4, h5, h6, h7, h8⟩ hg hr
  have hk : ∀ (b : Nat) (o : Obj), Y.heap[b]? = some o → o.isCells = true → Z.heap[b]? = some o := fun b o ho hc => by
    refine (hg.block b (Array.getElem?_eq_some_iff.1 ho).1 (fun e => ?_)).trans ho
    obtain ⟨_, o', ho', hc'⟩ := hr b e.symm
    rw [ho] at ho'; cases ho'; rw [hc] at hc'; cases hc'
  refine ⟨hk _ _ h1 hX, hk _ _ h2 rfl, hk _ _ h3 rfl, hk _ _ h4 rfl, hk _ _ h5 rfl, hk _ _ h6 rfl, owns_off h7 hg fun g hgb e => ?_, h8.trans ((Below.refl _ Y).grown hg h8.size fun k e => Nat.le_trans hB (hr k e).1)⟩
  rcases h7.2 with ⟨rfl, _⟩ | ⟨g', cap, cur, rfl, _, hb, _⟩
  · simp [Value.ownBlock] at hgb
  · obtain rfl : g' = g := by simpa [Value.ownBlock] using hgb
    obtain ⟨_, o', ho', hc'⟩ := hr _ e
    rw [hb] at ho'; cases ho'; cases hc'
theorem AI.step {w : World} {X : Obj} {bs bw base A : Nat} {st : Int} {v : Value} {m : Nat} {W : World} (h : AI w X bs bw base A st v m W) (hs : bs + 1 < bw) (hw : w.heap.size + 1 < bw) (hv : ∀ g, v.ownBlock = some g → g < bw) (z : Int) (hz : z = (m : Int) + 1) :
    AI w X bs bw base A st v (m + 1) (W.setCell ⟨bw + 1, 0, none⟩ (.int .i64 z)) := by
  subst hz
  obtain ⟨h1, h2, h3, h4, h5, h6, h7, h8⟩ := h
  refine ⟨(Below.heap_setCell _ _ _ _ (by show w.heap.size ≠ bw + 1; omega)).trans h1, h2.other (by omega) _, h3.other (by omega) _, h4.other (by omega) _, ?_, h6.other (by omega) _, owns_off h7 (grownBy_setCell' W (bw + 1) _) fun g hg e => ?_, h8.setCell (p := ⟨bw + 1, 0, none⟩) (by show w.heap.size ≤ bw + 1; omega) _⟩
  · have := h5.set (.int .i64 ((m : Int) + 1))
    exact this
  · have := hv g hg
    cases e; omega
theorem AI.start {w W w2 : World} {X : Obj} {bs A n : Nat} {oa : Option Addr} {cap : Nat} (hb : Below W.heap.size W w2) (hn : n = (nums A).length) (hrow : w2.ownsRow W.heap.size 3 1 (.slice oa n cap) (nums A).length (intsOf (nums A))) (q1 : W.heap[w.heap.size]? = some X) (q2 : Boxed W (w.heap.size + 1) 4 (.bool false)) (q3 : Boxed W (bs + 1) 36 (.int .u64 A)) (hB : Below w.heap.size w W) (st : Int) :
    AI w X bs w2.heap.size W.heap.size A st (.slice oa n cap) 0 (((w2.alloc (.cells #[.slice oa n cap] 60 (0, 0))).alloc (.cells #[.int .i64 0] 3 (0, 0))).alloc (.cells #[.int .i64 st] 3 (0, 0))) := by
  subst hn
  have h0 := (Array.getElem?_eq_some_iff.1 q1).1
  have h2 := q2.lt
  have h3 := q3.lt
  have s2 := hb.size
  have a1 := (Boxed.new w2 60 (.slice oa (nums A).length cap)).alloc (.cells #[.int .i64 0] 3)
  have a2 := Boxed.new (w2.alloc (.cells #[.slice oa (nums A).length cap] 60)) 3 (.int .i64 0)
  have a3 := Boxed.new ((w2.alloc (.cells #[.slice oa (nums A).length cap] 60)).alloc (.cells #[.int .i64 0] 3)) 3 (.int .i64 st)
  simp only [World.size_alloc] at a2 a3
  refine ⟨?_, ?_, ?_, a1.alloc _, a2.alloc _, a3, ((hrow.alloc _).alloc _).alloc _, ?_⟩
  · rw [Below.heap_alloc _ _ _ (by simp; omega), Below.heap_alloc _ _ _ (by simp; omega), Below.heap_alloc _ _ _ (by omega)]; exact (hb.block _ h0).trans q1
  · exact (((show Boxed w2 _ _ _ from (hb.block _ h2).trans q2).alloc _).alloc _).alloc _
  · exact (((show Boxed w2 _ _ _ from (hb.block _ h3).trans q3).alloc _).alloc _).alloc _
  · exact (((hB.trans (hb.mono hB.size)).alloc (by omega) _).alloc (by simp; omega) _).alloc (by simp; omega) _
theorem own_def {D B : Nat} (hD : D < B) : OwnFrom (β := Unit) B (fun _ W => W.heap[D]? = some (.deferred (some []))) := fun _ Y Z row h hg hr =>
  (hg.block D (Array.getElem?_eq_some_iff.1 h).1 (fun e => by have := (hr D e.symm).1; omega)).trans h
def AllI (w : World) (X : Obj) (bs bw base A : Nat) (st : Int) (v : Value) (E : World → Prop) (pre : List (Fin 64)) (W : World) : Prop :=
  AI w X bs bw base A st v pre.length W ∧ E W ∧ pre <+: nums A ∧ (st < 0 ∨ (pre.length : Int) ≤ st)
def AllX (w : World) (X : Obj) (bs bw base A : Nat) (st : Int) (v : Value) (E : World → Prop) (c : Code) (pre : List (Fin 64)) (W : World) : Prop :=
  (c = .exit 2 ∧ AI w X bs bw base A st v pre.length W ∧ E W ∧ 0 ≤ st ∧ (pre.length : Int) = st + 1) ∨ (c = .ret ∧ ¬ pre <+: nums A)
/-- A range over All whose body compares with the row that is wanted. -/
theorem range_all {g : Operand} {ps : Array Tmp} {assign body : Code} {Q : Exit → Act → World → Prop} {a : Act} {w W0 : World} {X : Obj} {bs bw base A : Nat} {st : Int} {v : Value} (E : World → Prop)
    (hA : A < 18446744073709551616) (ht : Tab w) (hX : X.isCells = true) (hs : bs + 1 < W0.heap.size) (hwl : w.heap.size ≤ W0.heap.size)
    (hE : OwnFrom (β := Unit) W0.heap.size (fun _ W => E W)) (hI0 : AI w X bs bw base A st v 0 W0) (hE0 : E W0) (_hst : -1 ≤ st)
    (hg : a.eval g = .func (.func 64) #[] #[.pointer (some ⟨bs + 1, 0, none⟩)]) (hps : ps.size = 1) (a₁ : Fin 64 → Act)
    (hassign : ∀ (l : Nat) (k : Fin 64) (W : World) (K : Act → World → Prop), K (a₁ k) W →
      assign.wpIn (Fence.wide.inRound l) (9 - 1 - 1) Tryd.prog (Exit.then K (fun _ _ _ => False)) { tmps := (ps.zip #[.int .i64 (k.val : Int)]).foldl (fun t (p, v) => t.setIfInBounds p v) a.tmps, defers := [] } W)
    (hbody : ∀ (l : Nat) (pre : List (Fin 64)) (k : Fin 64) (W : World), AI w X bs bw base A st v pre.length W → E W → pre <+: nums A → (st < 0 ∨ (pre.length : Int) ≤ st) → pre.length < (nums A).length →
      body.wpIn (Fence.wide.inRound l) (9 - 1 - 1) Tryd.prog (ownPostG W0.heap.size (KpB (bs + 1)) (AllI w X bs bw base A st v E) (AllX w X bs bw base A st v E) (pre ++ [k]) W) (a₁ k) W)
    (hdone : ∀ (D : Nat) (W : World), W0.heap.size ≤ D → AI w X bs bw base A st v (nums A).length W → E W → W.heap[D]? = some (.deferred (some [])) → Q .normal { a with defers := { target := .collected D, args := #[] } :: a.defers } W)
    (hstop : ∀ (D m : Nat) (W : World), W0.heap.size ≤ D → AI w X bs bw base A st v m W → E W → m ≤ 64 → 0 ≤ st → (m : Int) = st + 1 → W.heap[D]? = some (.deferred (some [])) → (Code.exit 2).wpIn Fence.wide 9 Tryd.prog Q { a with defers := { target := .collected D, args := #[] } :: a.defers } W) :
    (Code.rangeFunc g ps assign body).wpIn Fence.wide 9 Tryd.prog Q a W0 := by
  have h3 := ht.2
  refine wpIn_rangeFunc_ownG rfl (by decide) (gf := 64) (lb := #[.pointer (some ⟨bs + 1, 0, none⟩)]) hg trivial (enters_of Tryd.func64 (by kernel_rfl) rfl)
    (all_stops64 8 (bs + 1) A hA W0 hs (ht.over hI0.2.2.2.2.2.2.2) hI0.2.2.1.cell) KpB.t (KpB.b hs (by omega)) (Below.refl _ _) (fun _ => by rw [hps]; rfl)
    (AllI w X bs bw base A st v E) (AllX w X bs bw base A st v E)
    (fun s Y Z row h hg' hr => ⟨AI.own hX hwl () Y Z row h.1 hg' hr, hE () Y Z row h.2.1 hg' hr, h.2.2⟩)
    (fun c s Y Z row h hg' hr => h.elim (fun h => .inl ⟨h.1, AI.own hX hwl () Y Z row h.2.1 hg' hr, hE () Y Z row h.2.2.1 hg' hr, h.2.2.2⟩) .inr)
    ⟨hI0, hE0, List.nil_prefix, by simp; omega⟩ a₁ hassign ?_ ?_ ?_
  · rintro l pre k W ⟨h1, h2, h3', h4⟩ hlt
    exact hbody l pre k W h1 h2 h3' h4 hlt
  · rintro D ys W hD rfl ⟨h1, h2, _, _⟩ hK
    exact hdone D W hD h1 h2 hK
  · rintro D c pre W hD hp (⟨rfl, h1, h2, h4, h5⟩ | ⟨rfl, h1⟩) hK
    · exact hstop D pre.length W hD h1 h2 (Nat.le_trans hp.length_le (nums_len A)) h4 h5 hK
    · exact absurd hp h1
theorem prefix_snoc {l pre : List (Fin 64)} {k j : Fin 64} (h : pre <+: l) (hj : l[pre.length]? = some j) : (pre ++ [k]) <+: l ↔ k = j := by
  obtain ⟨rest, rfl⟩ := h
  rw [List.getElem?_append_right (Nat.le_refl _), Nat.sub_self] at hj
  cases rest with
  | nil => simp at hj
  | cons r rs =>
    simp at hj; subst hj
    rw [List.prefix_append_right_inj]
    constructor
    · rintro ⟨s, hs⟩; simpa using (List.cons.inj hs).1
    · rintro rfl; exact ⟨rs, rfl⟩
theorem row_cell {w : World} {n₀ : Nat} {e : TypeId} {g n cap : Nat} {l : List (Fin 64)} (h : w.ownsRow n₀ e 1 (.slice (some ⟨g, 0, none⟩) n cap) n (intsOf l)) {i : Nat} {j : Fin 64} (hj : l[i]? = some j) : w.cell? ⟨g, i, none⟩ = some (.int .i64 (j.val : Int)) := by
  have hl : n = l.length := by have := h.1; simp [intsOf] at this; omega
  obtain ⟨hi, hjj⟩ := List.getElem?_eq_some_iff.1 hj
  rcases h.2 with ⟨h0, _⟩ | ⟨g', cap', cur, hv, _, hb, _, _, _, hcur⟩
  · cases h0
  · cases hv
    have e1 : cur[i]? = some (Value.int .i64 (j.val : Int)) := by
      have : (cur.toList.take (n * 1))[i]? = (intsOf l)[i]? := by rw [hcur]
      rw [List.getElem?_take_of_lt (by omega)] at this
      simpa [intsOf, hj] using this
    simp [World.cell?, hb, e1]
end Go.Proofs.YtemaoijbjhonnaaDoor

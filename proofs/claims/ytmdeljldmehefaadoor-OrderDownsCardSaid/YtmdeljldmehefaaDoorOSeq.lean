/- A range over an iterator that tells words, each the next of the one ahead: what the body is told of a word hangs on those that came. -/
import Derived.Test.YtmdeljldmehefaaDoorAllMem
import Derived.RangeFuncNested
import Derived.RangeFuncBound
import Derived.RangeFuncCalls
import Derived.RangeFuncLeaves
import Derived.RangeFuncBox
import Derived.Shelf.Abstract
import Derived.Shelf.RegionOpen
import Derived.OwnWalkIn
import Derived.TacticsInMore
import Derived.LoopNIn
import Derived.LoopIn
namespace Go.Proofs.YtmdeljldmehefaaDoor
open Go.RowKit Go.Shelf
/-- An iterator's contract: a round tells what it kept. -/
def SeqD {α : Type} (n : Nat) (P : Program) (g : Nat) (lb : Array Value) (encs : α → Array Value) (Hx : List α → α → Prop) (Kp : World → World → Prop) (S Sp : List α → Prop) (w : World) : Prop :=
  ∀ (l : Nat) (J Jx : List α → World → Prop) (W : World), Below w.heap.size w W → (∀ s X Y, J s X → X.grownBy Y (some W.heap.size) → J s Y) →
    (∀ pre x V, J pre V → W.heap.size < V.heap.size → Hx pre x → YieldAt Fence.wide (n - 1) P l (encs x) V fun e V' =>
      (e = .returned (.bool true) ∧ J (pre ++ [x]) V' ∧ Kp V V' ∧ V'.heap[W.heap.size]? = V.heap[W.heap.size]?) ∨ (e = .returned (.bool false) ∧ Jx (pre ++ [x]) V')) →
    J [] W →
    CallsIn Fence.wide n P g (#[.func (.yield l) #[] #[]] ++ lb) W fun e W' => (∃ v, e = .returned v) ∧ ((∃ xs, S xs ∧ J xs W') ∨ (∃ pre, Sp pre ∧ Jx pre W'))
/-- A loop's record. -/
def lrecD (fn : FuncId) (tmps : Array Value) (ps : Array Tmp) (assign body : Code) (D : Nat) (st : LoopState) (pe : Option Code) : Loop :=
  { state := st, pending := pe, fn := fn, tmps := tmps, params := ps, assign := assign, body := body, defers := D }
/-- What a round achieves. -/
def rowPostD {α : Type} (B : Nat) (Kp : World → World → Prop) (I : List α → World → Prop) (Ix : Code → List α → World → Prop) (xs : List α) (W : World) : Exit → Act → World → Prop
  | .normal, _, W' => (∀ k, B ≤ k → k ≤ B + 2 → W'.heap[k]? = W.heap[k]?) ∧ Kp W W' ∧ I xs W'
  | .ret, _, W' => (∀ k, B ≤ k → k ≤ B + 2 → W'.heap[k]? = W.heap[k]?) ∧ Ix .ret xs W'
  | .exit id, _, W' => (∀ k, B ≤ k → k ≤ B + 2 → W'.heap[k]? = W.heap[k]?) ∧ Ix (.exit id) xs W'
  | .goto t, _, W' => (∀ k, B ≤ k → k ≤ B + 2 → W'.heap[k]? = W.heap[k]?) ∧ Ix (.goto t) xs W'
  | .panic _, _, _ => False
  | .outgrown, _, _ => False
theorem rangeD {α : Type} {P : Program} {n : Nat} {g : Operand} {ps : Array Tmp} {assign body : Code} {Q : Exit → Act → World → Prop} {a : Act} {w : World} {gf : Nat} {lb : Array Value}
    (hg : a.eval g = .func (.func gf) #[] lb) (eg : ∀ args w, (callFunc gf args).run P w = .ok (.enter gf args) w)
    {encs : α → Array Value} {Hx : List α → α → Prop} {Kp : World → World → Prop} {S Sp : List α → Prop} (hseq : SeqD (n - 1) P gf lb encs Hx Kp S Sp w)
    (hps : ∀ x, (encs x).size = ps.size)
    (hKt : ∀ X Y Z, Kp X Y → Kp Y Z → Kp X Z) (hKb : ∀ (W : World) (l : Nat) (o o' : Obj), w.heap.size ≤ l → W.heap[l]? = some o → o.isCells = false → o.isWalk = false → Kp W (W.putObj l o'))
    (I : List α → World → Prop) (Ix : Code → List α → World → Prop)
    (hI : ∀ s X Y row, (∀ r, row = some r → w.heap.size ≤ r ∧ r ≤ w.heap.size + 2) → I s X → X.grownBy Y row → I s Y)
    (hIx : ∀ c s X Y row, (∀ r, row = some r → w.heap.size ≤ r ∧ r ≤ w.heap.size + 2) → Ix c s X → X.grownBy Y row → Ix c s Y)
    (h0 : I [] w) (a₁ : α → Act)
    (hassign : ∀ (l : Nat) (x : α) (W : World) (K : Act → World → Prop), K (a₁ x) W →
      assign.wpIn (Fence.wide.inRound l) (n - 1 - 1) P (Exit.then K (fun _ _ _ => False)) { tmps := (ps.zip (encs x)).foldl (fun t (p, v) => t.setIfInBounds p v) a.tmps, defers := [] } W)
    (hbody : ∀ (l : Nat) (pre : List α) (x : α) (W : World), w.heap.size + 2 < W.heap.size → I pre W → Hx pre x →
      body.wpIn (Fence.wide.inRound l) (n - 1 - 1) P (rowPostD w.heap.size Kp I Ix (pre ++ [x]) W) (a₁ x) W)
    (hdone : ∀ (D : Nat) (xs : List α) (W : World), w.heap.size ≤ D → S xs → I xs W → W.heap[D]? = some (.deferred (some [])) → Q .normal { a with defers := { target := .collected D, args := #[] } :: a.defers } W)
    (hstop : ∀ (D : Nat) (c : Code) (pre : List α) (W : World), w.heap.size ≤ D → Sp pre → Ix c pre W → W.heap[D]? = some (.deferred (some [])) → c.wpIn Fence.wide n P Q { a with defers := { target := .collected D, args := #[] } :: a.defers } W) :
    (Code.rangeFunc g ps assign body).wpIn Fence.wide n P Q a w := by
  refine wpIn_rangeFunc fun fn hfn => ?_
  have hr0 : ∀ r, some w.heap.size = some r → w.heap.size ≤ r ∧ r ≤ w.heap.size + 2 := fun r e => by injection e; omega
  have hr1 : ∀ r, some (w.heap.size + 1) = some r → w.heap.size ≤ r ∧ r ≤ w.heap.size + 2 := fun r e => by injection e; omega
  have hr2 : ∀ r, some (w.heap.size + 2) = some r → w.heap.size ≤ r ∧ r ≤ w.heap.size + 2 := fun r e => by injection e; omega
  have hent := run_enterLoop_outer (P := P) (w := w) fn a.tmps ps assign body
  have hL := World.alloc_heap_new (w.alloc (.deferred (some []))) (.loop (lrecD fn a.tmps ps assign body w.heap.size .ready none))
  have hD := (Below.heap_alloc (w.alloc (.deferred (some []))) (.loop (lrecD fn a.tmps ps assign body w.heap.size .ready none)) w.heap.size (by simp)).trans (World.alloc_heap_new w _)
  have hs : ((w.alloc (.deferred (some []))).alloc (.loop (lrecD fn a.tmps ps assign body w.heap.size .ready none))).heap.size = w.heap.size + 2 := by simp
  have hI1 : I [] ((w.alloc (.deferred (some []))).alloc (.loop (lrecD fn a.tmps ps assign body w.heap.size .ready none))) :=
    hI _ _ _ (some w.heap.size) hr0 (hI _ _ _ (some w.heap.size) hr0 h0 (World.grownBy_alloc w _ _)) (World.grownBy_alloc _ _ _)
  have hb1 : Below w.heap.size w ((w.alloc (.deferred (some []))).alloc (.loop (lrecD fn a.tmps ps assign body w.heap.size .ready none))) := ((Below.refl _ w).alloc (Nat.le_refl _) _).alloc (by simp) _
  rw [World.size_alloc] at hL
  change (Instr.enterLoop fn a.tmps ps assign body none).run P w = .ok (w.heap.size + 1, [{ target := .collected w.heap.size, args := #[] }]) ((w.alloc (.deferred (some []))).alloc (.loop (lrecD fn a.tmps ps assign body w.heap.size .ready none))) at hent
  generalize (w.alloc (.deferred (some []))).alloc (.loop (lrecD fn a.tmps ps assign body w.heap.size .ready none)) = W1 at *
  refine ⟨_, _, W1, { target := .fn (.func gf) lb, args := #[.func (.yield (w.heap.size + 1)) #[] #[]] }, W1, gf, #[.func (.yield (w.heap.size + 1)) #[] #[]] ++ lb, W1, hent, ?_, fun _ _ => trivial, by simp [invoke, go_sem, eg], fun h => (by cases h), ?_⟩
  · simp only [resolve, hg]
    simp [go_sem]
  refine (hseq (w.heap.size + 1)
    (fun pre W => I pre W ∧ W.heap[w.heap.size + 1]? = some (.loop (lrecD fn a.tmps ps assign body w.heap.size .ready none)) ∧ W.heap[w.heap.size]? = some (.deferred (some [])))
    (fun pre W => ∃ c, Ix c pre W ∧ W.heap[w.heap.size + 1]? = some (.loop (lrecD fn a.tmps ps assign body w.heap.size .done (some c))) ∧ W.heap[w.heap.size]? = some (.deferred (some [])))
    W1 hb1 ?_ ?_ ⟨hI1, hL, hD⟩).mono ?_
  · rintro s Y Z ⟨h2, h3, h4⟩ hg'
    rw [hs] at hg'
    exact ⟨hI s Y Z _ hr2 h2 hg', (hg'.block _ (Array.getElem?_eq_some_iff.1 h3).1 (by intro e; injection e; omega)).trans h3, (hg'.block _ (Array.getElem?_eq_some_iff.1 h4).1 (by intro e; injection e; omega)).trans h4⟩
  · rintro pre x V0 ⟨hi0, hl, hd⟩ hsz hhx
    rw [hs] at hsz
    have hV : w.heap.size + 1 < V0.heap.size := (Array.getElem?_eq_some_iff.1 hl).1
    refine ⟨_, _, _, _, run_yield (P := P) (args := encs x) hl (hps x), roundIn_of_wpIn hfn (hassign _ x V0 _ ?_)⟩
    refine ⟨_, run_beginRound hl rfl, ?_⟩
    have hl2 := World.putObj_heap_same (w := V0) (o := .loop (lrecD fn a.tmps ps assign body w.heap.size .busy none)) hV
    have hd2 := (World.putObj_heap_other (w := V0) (o := .loop (lrecD fn a.tmps ps assign body w.heap.size .busy none)) (show w.heap.size ≠ w.heap.size + 1 by omega)).trans hd
    have hg2 := grownBy_putObj' V0 (w.heap.size + 1) (.loop (lrecD fn a.tmps ps assign body w.heap.size .busy none))
    have hk2 : Kp V0 (V0.putObj (w.heap.size + 1) (.loop (lrecD fn a.tmps ps assign body w.heap.size .busy none))) := hKb V0 _ _ _ (by omega) hl rfl rfl
    change Code.wpIn _ _ _ _ _ _ (V0.putObj (w.heap.size + 1) (.loop (lrecD fn a.tmps ps assign body w.heap.size .busy none)))
    refine wpIn_mono (hbody _ pre x _ (Nat.lt_of_lt_of_le hsz hg2.size) (hI _ _ _ _ hr1 hi0 hg2) hhx) ?_
    clear hbody hassign
    generalize V0.putObj (w.heap.size + 1) (.loop (lrecD fn a.tmps ps assign body w.heap.size .busy none)) = V2 at *
    have hrow : V2.heap[w.heap.size + 2]? = V0.heap[w.heap.size + 2]? := hg2.block _ hsz (by intro e; injection e; omega)
    have leave : ∀ (j : Code) (V3 : World), (∀ k, w.heap.size ≤ k → k ≤ w.heap.size + 2 → V3.heap[k]? = V2.heap[k]?) → Ix j (pre ++ [x]) V3 → ∃ v V4, (Instr.endRound (w.heap.size + 1) (some j)).run P V3 = .ok v V4 ∧
        ((Ending.returned v = .returned (.bool true) ∧ (I (pre ++ [x]) V4 ∧ V4.heap[w.heap.size + 1]? = some (.loop (lrecD fn a.tmps ps assign body w.heap.size .ready none)) ∧ V4.heap[w.heap.size]? = some (.deferred (some []))) ∧ Kp V0 V4 ∧ V4.heap[W1.heap.size]? = V0.heap[W1.heap.size]?) ∨
        (Ending.returned v = .returned (.bool false) ∧ (∃ c, Ix c (pre ++ [x]) V4 ∧ V4.heap[w.heap.size + 1]? = some (.loop (lrecD fn a.tmps ps assign body w.heap.size .done (some c))) ∧ V4.heap[w.heap.size]? = some (.deferred (some []))))) := by
      intro j V3 hk hi3
      have hl3 := (hk _ (by omega) (by omega)).trans hl2
      have hd3 := (hk _ (Nat.le_refl _) (by omega)).trans hd2
      exact ⟨_, _, run_endRound (P := P) (some j) hl3, .inr ⟨rfl, ⟨j, hIx j _ _ _ _ hr1 hi3 (grownBy_putObj' _ _ _), World.putObj_heap_same (Array.getElem?_eq_some_iff.1 hl3).1, (World.putObj_heap_other (by omega)).trans hd3⟩⟩⟩
    rintro e a3 V3 hp
    cases e with
    | normal =>
      obtain ⟨hk, hkp, hi3⟩ := hp
      have hl3 := (hk _ (by omega) (by omega)).trans hl2
      have hd3 := (hk _ (Nat.le_refl _) (by omega)).trans hd2
      exact ⟨_, _, run_endRound (P := P) none hl3, .inl ⟨rfl, ⟨hI _ _ _ _ hr1 hi3 (grownBy_putObj' _ _ _), World.putObj_heap_same (Array.getElem?_eq_some_iff.1 hl3).1, (World.putObj_heap_other (by omega)).trans hd3⟩, hKt _ _ _ (hKt _ _ _ hk2 hkp) (hKb _ _ _ _ (by omega) hl3 rfl rfl), by rw [hs]; exact ((World.putObj_heap_other (by omega)).trans (hk _ (by omega) (Nat.le_refl _))).trans hrow⟩⟩
    | ret => exact leave .ret V3 hp.1 hp.2
    | exit id => exact leave (.exit id) V3 hp.1 hp.2
    | goto t => exact leave (.goto t) V3 hp.1 hp.2
    | panic ch => exact hp.elim
    | outgrown => exact hp.elim
  · rintro e W2 ⟨⟨v, rfl⟩, (⟨xs, hS, hi, hl, hd⟩ | ⟨pre, hSp, c, hi, hl, hd⟩)⟩
    · exact ⟨_, _, run_endLoop (P := P) hl (by simp [lrecD]), hdone _ xs _ (Nat.le_refl _) hS (hI _ _ _ _ hr1 hi (grownBy_putObj' _ _ _)) ((World.putObj_heap_other (by omega)).trans hd)⟩
    · exact ⟨_, _, run_endLoop (P := P) hl (by simp [lrecD]), hstop _ c pre _ (Nat.le_refl _) hSp (hIx c _ _ _ _ hr1 hi (grownBy_putObj' _ _ _)) ((World.putObj_heap_other (by omega)).trans hd)⟩
end Go.Proofs.YtmdeljldmehefaaDoor

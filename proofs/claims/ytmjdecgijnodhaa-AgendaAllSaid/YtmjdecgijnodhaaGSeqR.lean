/- A range over an iterator whose rounds change what the iterator did not lay: what it laid ahead of the first round stands. -/
import Derived.Test.YtmjdecgijnodhaaGFn
import Derived.RangeFuncNested
import Derived.RangeFuncBound
import Derived.RangeFuncCalls
import Derived.RangeFuncLeaves
import Derived.RangeFuncBox
import Derived.Shelf.Abstract
import Derived.Shelf.RegionOpen
import Derived.OwnWalkIn
import Derived.TacticsInMore
import Derived.LoopNIn
import Derived.LoopIn
namespace Go.Proofs.Ytmjdecgijnodhaa
open Go.RowKit Go.Shelf
/-- An iterator's contract: it tells the words of L; a round keeps what lay ahead of the first one since the call began. -/
def SeqG {α : Type} (n : Nat) (P : Program) (g : Nat) (lb : Array Value) (encs : α → Array Value) (Kp : World → World → Prop) (L : List α) (w : World) : Prop :=
  ∀ (l : Nat) (J : Nat → List α → World → Prop) (Jx : List α → World → Prop) (W : World), Below w.heap.size w W →
    (∀ T s X, J T s X → J T s X.drew) → (∀ V1, Below W.heap.size W V1 → J V1.heap.size [] V1) →
    (∀ T pre x V, W.heap.size ≤ T → T ≤ V.heap.size → J T pre V → pre ++ [x] <+: L → YieldAt Fence.wide (n - 1) P l (encs x) V fun e V' =>
      (e = .returned (.bool true) ∧ J T (pre ++ [x]) V' ∧ Kp V V' ∧ T ≤ V'.heap.size ∧ ∀ k, W.heap.size ≤ k → k < T → V'.heap[k]? = V.heap[k]?) ∨ (e = .returned (.bool false) ∧ Jx (pre ++ [x]) V')) →
    CallsIn Fence.wide n P g (#[.func (.yield l) #[] #[]] ++ lb) W fun e W' => (∃ v, e = .returned v) ∧ ((∃ T, W.heap.size ≤ T ∧ T ≤ W'.heap.size ∧ J T L W') ∨ (∃ pre, pre <+: L ∧ Jx pre W'))
/-- A loop's record. -/
def lrecG (fn : FuncId) (tmps : Array Value) (ps : Array Tmp) (assign body : Code) (D : Nat) (st : LoopState) (pe : Option Code) : Loop :=
  { state := st, pending := pe, fn := fn, tmps := tmps, params := ps, assign := assign, body := body, defers := D }
/-- What a round achieves. -/
def rowPostG {α : Type} (B T : Nat) (Kp : World → World → Prop) (I : Nat → List α → World → Prop) (Ix : Code → List α → World → Prop) (xs : List α) (W : World) : Exit → Act → World → Prop
  | .normal, _, W' => (∀ k, B ≤ k → k < T → W'.heap[k]? = W.heap[k]?) ∧ T ≤ W'.heap.size ∧ Kp W W' ∧ I T xs W'
  | .ret, _, W' => (∀ k, B ≤ k → k < T → W'.heap[k]? = W.heap[k]?) ∧ Ix .ret xs W'
  | .exit id, _, W' => (∀ k, B ≤ k → k < T → W'.heap[k]? = W.heap[k]?) ∧ Ix (.exit id) xs W'
  | .goto t, _, W' => (∀ k, B ≤ k → k < T → W'.heap[k]? = W.heap[k]?) ∧ Ix (.goto t) xs W'
  | .panic _, _, _ => False
  | .outgrown, _, _ => False
theorem rangeG {α : Type} {P : Program} {n : Nat} {g : Operand} {ps : Array Tmp} {assign body : Code} {Q : Exit → Act → World → Prop} {a : Act} {w : World} {gf : Nat} {lb : Array Value}
    (hg : a.eval g = .func (.func gf) #[] lb) (eg : ∀ args w, (callFunc gf args).run P w = .ok (.enter gf args) w)
    {encs : α → Array Value} {Kp : World → World → Prop} {L : List α} (hseq : SeqG (n - 1) P gf lb encs Kp L w)
    (hps : ∀ x, (encs x).size = ps.size)
    (hKt : ∀ X Y Z, Kp X Y → Kp Y Z → Kp X Z) (hKb : ∀ (W : World) (l : Nat) (o o' : Obj), W.heap[l]? = some o → o.isCells = false → Kp W (W.putObj l o'))
    (I : Nat → List α → World → Prop) (Ix : Code → List α → World → Prop)
    (hI : ∀ T s X l o, w.heap.size ≤ l → l < T → I T s X → I T s (X.putObj l o)) (hId : ∀ T s X, I T s X → I T s X.drew)
    (hIx : ∀ c s X l o, l = w.heap.size + 1 → Ix c s X → Ix c s (X.putObj l o))
    (h0 : ∀ V1, Below w.heap.size w V1 → w.heap.size + 2 ≤ V1.heap.size → I V1.heap.size [] V1) (a₁ : α → Act)
    (hassign : ∀ (l : Nat) (x : α) (W : World) (K : Act → World → Prop), K (a₁ x) W →
      assign.wpIn (Fence.wide.inRound l) (n - 1 - 1) P (Exit.then K (fun _ _ _ => False)) { tmps := (ps.zip (encs x)).foldl (fun t (p, v) => t.setIfInBounds p v) a.tmps, defers := [] } W)
    (hbody : ∀ (l T : Nat) (pre : List α) (x : α) (W : World), w.heap.size + 2 ≤ T → T ≤ W.heap.size → I T pre W → pre ++ [x] <+: L →
      body.wpIn (Fence.wide.inRound l) (n - 1 - 1) P (rowPostG w.heap.size T Kp I Ix (pre ++ [x]) W) (a₁ x) W)
    (hdone : ∀ (D T : Nat) (W : World), D = w.heap.size → w.heap.size + 2 ≤ T → T ≤ W.heap.size → I T L W → W.heap[D]? = some (.deferred (some [])) → Q .normal { a with defers := { target := .collected D, args := #[] } :: a.defers } W)
    (hstop : ∀ (D : Nat) (c : Code) (pre : List α) (W : World), D = w.heap.size → pre <+: L → Ix c pre W → W.heap[D]? = some (.deferred (some [])) → c.wpIn Fence.wide n P Q { a with defers := { target := .collected D, args := #[] } :: a.defers } W) :
    (Code.rangeFunc g ps assign body).wpIn Fence.wide n P Q a w := by
  refine wpIn_rangeFunc fun fn hfn => ?_
  have hent := run_enterLoop_outer (P := P) (w := w) fn a.tmps ps assign body
  have hL := World.alloc_heap_new (w.alloc (.deferred (some []))) (.loop (lrecG fn a.tmps ps assign body w.heap.size .ready none))
  have hD := (Below.heap_alloc (w.alloc (.deferred (some []))) (.loop (lrecG fn a.tmps ps assign body w.heap.size .ready none)) w.heap.size (by simp)).trans (World.alloc_heap_new w _)
  have hs : ((w.alloc (.deferred (some []))).alloc (.loop (lrecG fn a.tmps ps assign body w.heap.size .ready none))).heap.size = w.heap.size + 2 := by simp
  have hb1 : Below w.heap.size w ((w.alloc (.deferred (some []))).alloc (.loop (lrecG fn a.tmps ps assign body w.heap.size .ready none))) := ((Below.refl _ w).alloc (Nat.le_refl _) _).alloc (by simp) _
  rw [World.size_alloc] at hL
  change (Instr.enterLoop fn a.tmps ps assign body none).run P w = .ok (w.heap.size + 1, [{ target := .collected w.heap.size, args := #[] }]) ((w.alloc (.deferred (some []))).alloc (.loop (lrecG fn a.tmps ps assign body w.heap.size .ready none))) at hent
  generalize (w.alloc (.deferred (some []))).alloc (.loop (lrecG fn a.tmps ps assign body w.heap.size .ready none)) = W1 at *
  refine ⟨_, _, W1, { target := .fn (.func gf) lb, args := #[.func (.yield (w.heap.size + 1)) #[] #[]] }, W1, gf, #[.func (.yield (w.heap.size + 1)) #[] #[]] ++ lb, W1, hent, ?_, fun _ _ => trivial, by simp [invoke, go_sem, eg], fun h => (by cases h), ?_⟩
  · simp only [resolve, hg]
    simp [go_sem]
  refine (hseq (w.heap.size + 1)
    (fun T pre W => w.heap.size + 2 ≤ T ∧ I T pre W ∧ W.heap[w.heap.size + 1]? = some (.loop (lrecG fn a.tmps ps assign body w.heap.size .ready none)) ∧ W.heap[w.heap.size]? = some (.deferred (some [])))
    (fun pre W => ∃ c, Ix c pre W ∧ W.heap[w.heap.size + 1]? = some (.loop (lrecG fn a.tmps ps assign body w.heap.size .done (some c))) ∧ W.heap[w.heap.size]? = some (.deferred (some [])))
    W1 hb1 ?_ ?_ ?_).mono ?_
  · rintro T s X ⟨h1, h2, h3, h4⟩
    exact ⟨h1, hId T s X h2, h3, h4⟩
  · intro V1 hV1
    have hz := hV1.size
    rw [hs] at hz
    exact ⟨hz, h0 V1 (hb1.trans (hV1.mono (by rw [hs]; omega))) hz, (hV1.block _ (by rw [hs]; omega)).trans hL, (hV1.block _ (by rw [hs]; omega)).trans hD⟩
  · rintro T pre x V0 hT hTV ⟨hT2, hi0, hl, hd⟩ hpre
    have hV : w.heap.size + 1 < V0.heap.size := (Array.getElem?_eq_some_iff.1 hl).1
    refine ⟨_, _, _, _, run_yield (P := P) (args := encs x) hl (hps x), roundIn_of_wpIn hfn (hassign _ x V0 _ ?_)⟩
    refine ⟨_, run_beginRound hl rfl, ?_⟩
    have hl2 := World.putObj_heap_same (w := V0) (o := .loop (lrecG fn a.tmps ps assign body w.heap.size .busy none)) hV
    have hd2 := (World.putObj_heap_other (w := V0) (o := .loop (lrecG fn a.tmps ps assign body w.heap.size .busy none)) (show w.heap.size ≠ w.heap.size + 1 by omega)).trans hd
    have hg2 := grownBy_putObj' V0 (w.heap.size + 1) (.loop (lrecG fn a.tmps ps assign body w.heap.size .busy none))
    have hk2 : Kp V0 (V0.putObj (w.heap.size + 1) (.loop (lrecG fn a.tmps ps assign body w.heap.size .busy none))) := hKb V0 _ _ _ hl rfl
    change Code.wpIn _ _ _ _ _ _ (V0.putObj (w.heap.size + 1) (.loop (lrecG fn a.tmps ps assign body w.heap.size .busy none)))
    refine wpIn_mono (hbody _ T pre x _ hT2 (Nat.le_trans hTV hg2.size) (hI _ _ _ _ _ (by omega) (by omega) hi0) hpre) ?_
    clear hbody hassign
    generalize V0.putObj (w.heap.size + 1) (.loop (lrecG fn a.tmps ps assign body w.heap.size .busy none)) = V2 at *
    have hrow : ∀ k, w.heap.size + 2 ≤ k → k < T → V2.heap[k]? = V0.heap[k]? := fun k h1 h2 => hg2.block k (by omega) (by intro e; injection e; omega)
    have leave : ∀ (j : Code) (V3 : World), (∀ k, w.heap.size ≤ k → k < T → V3.heap[k]? = V2.heap[k]?) → Ix j (pre ++ [x]) V3 → ∃ v V4, (Instr.endRound (w.heap.size + 1) (some j)).run P V3 = .ok v V4 ∧
        ((Ending.returned v = .returned (.bool true) ∧ (w.heap.size + 2 ≤ T ∧ I T (pre ++ [x]) V4 ∧ V4.heap[w.heap.size + 1]? = some (.loop (lrecG fn a.tmps ps assign body w.heap.size .ready none)) ∧ V4.heap[w.heap.size]? = some (.deferred (some []))) ∧ Kp V0 V4 ∧ T ≤ V4.heap.size ∧ ∀ k, W1.heap.size ≤ k → k < T → V4.heap[k]? = V0.heap[k]?) ∨
        (Ending.returned v = .returned (.bool false) ∧ (∃ c, Ix c (pre ++ [x]) V4 ∧ V4.heap[w.heap.size + 1]? = some (.loop (lrecG fn a.tmps ps assign body w.heap.size .done (some c))) ∧ V4.heap[w.heap.size]? = some (.deferred (some []))))) := by
      intro j V3 hk hi3
      have hl3 := (hk _ (by omega) (by omega)).trans hl2
      have hd3 := (hk _ (Nat.le_refl _) (by omega)).trans hd2
      exact ⟨_, _, run_endRound (P := P) (some j) hl3, .inr ⟨rfl, ⟨j, hIx j _ _ _ _ rfl hi3, World.putObj_heap_same (Array.getElem?_eq_some_iff.1 hl3).1, (World.putObj_heap_other (by omega)).trans hd3⟩⟩⟩
    rintro e a3 V3 hp
    cases e with
    | normal =>
      obtain ⟨hk, hT3, hkp, hi3⟩ := hp
      have hl3 := (hk _ (by omega) (by omega)).trans hl2
      have hd3 := (hk _ (Nat.le_refl _) (by omega)).trans hd2
      have hg3 := grownBy_putObj' V3 (w.heap.size + 1) (.loop (lrecG fn a.tmps ps assign body w.heap.size .ready none))
      exact ⟨_, _, run_endRound (P := P) none hl3, .inl ⟨rfl, ⟨hT2, hI _ _ _ _ _ (by omega) (by omega) hi3, World.putObj_heap_same (Array.getElem?_eq_some_iff.1 hl3).1, (World.putObj_heap_other (by omega)).trans hd3⟩, hKt _ _ _ (hKt _ _ _ hk2 hkp) (hKb _ _ _ _ hl3 rfl), Nat.le_trans hT3 hg3.size, fun k h1 h2 => by
        rw [hs] at h1
        exact ((World.putObj_heap_other (by omega)).trans (hk k (by omega) h2)).trans (hrow k h1 h2)⟩⟩
    | ret => exact leave .ret V3 hp.1 hp.2
    | exit id => exact leave (.exit id) V3 hp.1 hp.2
    | goto t => exact leave (.goto t) V3 hp.1 hp.2
    | panic ch => exact hp.elim
    | outgrown => exact hp.elim
  · rintro e W2 ⟨⟨v, rfl⟩, (⟨T, hT, hTW, hT2, hi, hl, hd⟩ | ⟨pre, hSp, c, hi, hl, hd⟩)⟩
    · exact ⟨_, _, run_endLoop (P := P) hl (by simp [lrecG]), hdone _ T _ rfl hT2 (Nat.le_trans hTW (grownBy_putObj' W2 _ _).size) (hI _ _ _ _ _ (by omega) (by omega) hi) ((World.putObj_heap_other (by omega)).trans hd)⟩
    · exact ⟨_, _, run_endLoop (P := P) hl (by simp [lrecG]), hstop _ c pre _ rfl hSp (hIx c _ _ _ _ rfl hi) ((World.putObj_heap_other (by omega)).trans hd)⟩
/-- The same, where a round leaves for the block's end alone. -/
theorem rangeG4 {α : Type} {P : Program} {n : Nat} {g : Operand} {ps : Array Tmp} {assign body : Code} {Q : Exit → Act → World → Prop} {a : Act} {w : World} {gf : Nat} {lb : Array Value} {bk : Nat}
    (hg : a.eval g = .func (.func gf) #[] lb) (eg : ∀ args w, (callFunc gf args).run P w = .ok (.enter gf args) w)
    {encs : α → Array Value} {Kp : World → World → Prop} {L : List α} (hseq : SeqG (n - 1) P gf lb encs Kp L w)
    (hps : ∀ x, (encs x).size = ps.size)
    (hKt : ∀ X Y Z, Kp X Y → Kp Y Z → Kp X Z) (hKb : ∀ (W : World) (l : Nat) (o o' : Obj), W.heap[l]? = some o → o.isCells = false → Kp W (W.putObj l o'))
    (I : Nat → List α → World → Prop) (Ix : Code → List α → World → Prop)
    (hI : ∀ T s X l o, w.heap.size ≤ l → l < T → I T s X → I T s (X.putObj l o)) (hId : ∀ T s X, I T s X → I T s X.drew)
    (hIx : ∀ c s X l o, l = w.heap.size + 1 → Ix c s X → Ix c s (X.putObj l o)) (hIc : ∀ c s X, Ix c s X → c = .exit bk)
    (h0 : ∀ V1, Below w.heap.size w V1 → w.heap.size + 2 ≤ V1.heap.size → I V1.heap.size [] V1) (a₁ : α → Act)
    (hassign : ∀ (l : Nat) (x : α) (W : World) (K : Act → World → Prop), K (a₁ x) W →
      assign.wpIn (Fence.wide.inRound l) (n - 1 - 1) P (Exit.then K (fun _ _ _ => False)) { tmps := (ps.zip (encs x)).foldl (fun t (p, v) => t.setIfInBounds p v) a.tmps, defers := [] } W)
    (hbody : ∀ (l T : Nat) (pre : List α) (x : α) (W : World), w.heap.size + 2 ≤ T → T ≤ W.heap.size → I T pre W → pre ++ [x] <+: L →
      body.wpIn (Fence.wide.inRound l) (n - 1 - 1) P (rowPostG w.heap.size T Kp I Ix (pre ++ [x]) W) (a₁ x) W)
    (hnext : ∀ (D : Nat) (W : World), D = w.heap.size → ((∃ T, w.heap.size + 2 ≤ T ∧ I T L W) ∨ (∃ pre, pre <+: L ∧ Ix (.exit bk) pre W)) → W.heap[D]? = some (.deferred (some [])) → Q .normal { a with defers := { target := .collected D, args := #[] } :: a.defers } W) :
    (Code.rangeFunc g ps assign body).wpIn Fence.wide n P (Exit.inBlock bk Q) a w :=
  rangeG hg eg hseq hps hKt hKb I Ix hI hId hIx h0 a₁ hassign hbody (fun D T W hD hT _ hi hd => hnext D W hD (.inl ⟨T, hT, hi⟩) hd) (fun D c pre W hD hp hi hd => by
    obtain rfl := hIc c pre W hi
    refine wpIn_exit ?_
    simp only [Exit.inBlock, if_true]
    exact hnext D W hD (.inr ⟨pre, hp, hi⟩) hd)
end Go.Proofs.Ytmjdecgijnodhaa

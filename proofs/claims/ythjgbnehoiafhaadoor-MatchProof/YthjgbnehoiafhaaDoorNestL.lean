/- A range over an iterator whose rounds are told which word comes; also within a round of another one. -/
import Derived.Test.YthjgbnehoiafhaaDoorNest
import Derived.RangeFuncNested
namespace Go.Proofs.YthjgbnehoiafhaaDoor
open Go.RowKit Go.Shelf
/-- An iterator's contract: it tells the words of L; the rounds keep what it lays, and are told that the word is the next. -/
def SeqL {α : Type} (n : Nat) (P : Program) (g : Nat) (lb : Array Value) (encs : α → Array Value) (Kp : World → World → Prop) (L : List α) (w : World) : Prop :=
  ∀ (l : Nat) (J Jx : List α → World → Prop) (W : World), Below w.heap.size w W → OwnFrom W.heap.size J → OwnFrom W.heap.size Jx →
    (∀ pre x V, J pre V → pre ++ [x] <+: L → YieldAt Fence.wide (n - 1) P l (encs x) V fun e V' =>
      (e = .returned (.bool true) ∧ J (pre ++ [x]) V' ∧ Kp V V' ∧ Kept W.heap.size V V') ∨ (e = .returned (.bool false) ∧ Jx (pre ++ [x]) V' ∧ Kept W.heap.size V V')) →
    J [] W →
    CallsIn Fence.wide n P g (#[.func (.yield l) #[] #[]] ++ lb) W fun e W' => (∃ v, e = .returned v) ∧ (J L W' ∨ (∃ pre, pre <+: L ∧ Jx pre W'))
theorem rangeR {α : Type} {P : Program} {n : Nat} {g : Operand} {ps : Array Tmp} {assign body : Code} {Q : Exit → Act → World → Prop} {a : Act} {w : World} {gf : Nat} {lb : Array Value}
    (hg : a.eval g = .func (.func gf) #[] lb) (eg : ∀ args w, (callFunc gf args).run P w = .ok (.enter gf args) w)
    {encs : α → Array Value} {Kp : World → World → Prop} {L : List α} (hseq : SeqL (n - 1) P gf lb encs Kp L w)
    (hKt : ∀ {A B C : World}, Kp A B → Kp B C → Kp A C) (hKb : ∀ (W : World) (l : Nat) (o o' : Obj), w.heap.size ≤ l → W.heap[l]? = some o → o.isCells = false → o.isWalk = false → Kp W (W.putObj l o')) (hps : ∀ x, (encs x).size = ps.size)
    (I : List α → World → Prop) (Ix : Code → List α → World → Prop) (hI : OwnFrom w.heap.size I) (hIx : ∀ c, OwnFrom w.heap.size (Ix c)) (h0 : I [] w) (Ax : α → Act → World → Prop) (hAx : ∀ x a', OwnFrom (β := Unit) w.heap.size (fun _ W => Ax x a' W)) (hKa : ∀ {A B : World}, w.heap.size ≤ A.heap.size → Below A.heap.size A B → Kp A B)
    (hassign : ∀ (l : Nat) (x : α) (W : World) (K : Act → World → Prop), w.heap.size ≤ W.heap.size → (∀ a' W', Below W.heap.size W W' → Ax x a' W' → K a' W') →
      assign.wpIn (Fence.wide.inRound l) (n - 1 - 1) P (Exit.then K (fun _ _ _ => False)) { tmps := (ps.zip (encs x)).foldl (fun t (p, v) => t.setIfInBounds p v) a.tmps, defers := [] } W)
    (hbody : ∀ (l : Nat) (pre : List α) (x : α) (a' : Act) (W : World), w.heap.size ≤ W.heap.size → l = w.heap.size + 1 → (∃ r, W.heap[l]? = some (.loop r)) → I pre W → Ax x a' W → pre ++ [x] <+: L →
      body.wpIn (Fence.wide.inRound l) (n - 1 - 1) P (ownPostG w.heap.size Kp (fun xs W' => I xs W' ∧ Kept (w.heap.size + 2) W W') (fun c xs W' => Ix c xs W' ∧ Kept (w.heap.size + 2) W W') (pre ++ [x]) W) a' W)
    (hdone : ∀ (D : Nat) (W : World), w.heap.size ≤ D → I L W → W.heap[D]? = some (.deferred (some [])) → Q .normal { a with defers := { target := .collected D, args := #[] } :: a.defers } W)
    (hstop : ∀ (D : Nat) (c : Code) (pre : List α) (W : World), w.heap.size ≤ D → pre <+: L → Ix c pre W → W.heap[D]? = some (.deferred (some [])) → c.wpIn Fence.wide n P Q { a with defers := { target := .collected D, args := #[] } :: a.defers } W) :
    (Code.rangeFunc g ps assign body).wpIn Fence.wide n P Q a w := by
  refine wpIn_rangeFunc fun fn hfn => ?_
  have hent := run_enterLoop_outer (P := P) (w := w) fn a.tmps ps assign body
  have hL := World.alloc_heap_new (w.alloc (.deferred (some []))) (.loop (lrec fn a.tmps ps assign body w.heap.size .ready none))
  have hD := (Below.heap_alloc (w.alloc (.deferred (some []))) (.loop (lrec fn a.tmps ps assign body w.heap.size .ready none)) w.heap.size (by simp)).trans (World.alloc_heap_new w _)
  have hs : ((w.alloc (.deferred (some []))).alloc (.loop (lrec fn a.tmps ps assign body w.heap.size .ready none))).heap.size = w.heap.size + 2 := by simp
  have hI1 := hI.alloc (.loop (lrec fn a.tmps ps assign body w.heap.size .ready none)) (hI.alloc (.deferred (some [])) h0)
  have hb1 : Below w.heap.size w ((w.alloc (.deferred (some []))).alloc (.loop (lrec fn a.tmps ps assign body w.heap.size .ready none))) := ((Below.refl _ w).alloc (Nat.le_refl _) _).alloc (by simp) _
  rw [World.size_alloc] at hL
  change (Instr.enterLoop fn a.tmps ps assign body none).run P w = .ok (w.heap.size + 1, [{ target := .collected w.heap.size, args := #[] }]) ((w.alloc (.deferred (some []))).alloc (.loop (lrec fn a.tmps ps assign body w.heap.size .ready none))) at hent
  generalize (w.alloc (.deferred (some []))).alloc (.loop (lrec fn a.tmps ps assign body w.heap.size .ready none)) = W1 at *
  refine ⟨_, _, W1, { target := .fn (.func gf) lb, args := #[.func (.yield (w.heap.size + 1)) #[] #[]] }, W1, gf, #[.func (.yield (w.heap.size + 1)) #[] #[]] ++ lb, W1, hent, ?_, fun _ _ => trivial, by simp [invoke, go_sem, eg], fun h => (by cases h), ?_⟩
  · simp only [resolve, hg]
    simp [go_sem]
  have own2 : ∀ (D : Nat) (o : Obj), D < W1.heap.size → OwnFrom (β := Unit) W1.heap.size (fun _ W => W.heap[D]? = some o) := fun D o hDl _ Y Z row h hg' hr =>
    (hg'.block D (Array.getElem?_eq_some_iff.1 h).1 (fun e => by have := (hr D e.symm).1; omega)).trans h
  have up : ∀ {Y : World} {row : Option Nat}, (∀ r, row = some r → W1.heap.size ≤ r ∧ ∃ o : Obj, Y.heap[r]? = some o ∧ o.isCells = false) → (∀ r, row = some r → w.heap.size ≤ r ∧ ∃ o : Obj, Y.heap[r]? = some o ∧ o.isCells = false) := fun h r e => ⟨by have := (h r e).1; omega, (h r e).2⟩
  refine (hseq (w.heap.size + 1)
    (fun pre W => I pre W ∧ W.heap[w.heap.size + 1]? = some (.loop (lrec fn a.tmps ps assign body w.heap.size .ready none)) ∧ W.heap[w.heap.size]? = some (.deferred (some [])))
    (fun pre W => ∃ c, Ix c pre W ∧ W.heap[w.heap.size + 1]? = some (.loop (lrec fn a.tmps ps assign body w.heap.size .done (some c))) ∧ W.heap[w.heap.size]? = some (.deferred (some [])))
    W1 hb1 ?_ ?_ ?_ ⟨hI1, hL, hD⟩).mono ?_
  · rintro s Y Z row ⟨h2, h3, h4⟩ hg' hr
    exact ⟨hI s Y Z row h2 hg' (up hr), own2 _ _ (by omega) () Y Z row h3 hg' hr, own2 _ _ (by omega) () Y Z row h4 hg' hr⟩
  · rintro s Y Z row ⟨c, h2, h3, h4⟩ hg' hr
    exact ⟨c, hIx c s Y Z row h2 hg' (up hr), own2 _ _ (by omega) () Y Z row h3 hg' hr, own2 _ _ (by omega) () Y Z row h4 hg' hr⟩
  · rintro pre x V0 ⟨hi0, hl0, hd0⟩ hlen
    have hV0 : w.heap.size + 1 < V0.heap.size := (Array.getElem?_eq_some_iff.1 hl0).1
    refine ⟨_, _, _, _, run_yield (P := P) (args := encs x) hl0 (hps x), roundIn_of_wpIn hfn (hassign _ x V0 _ (by omega) fun a' V hbV hax => ?_)⟩
    have hl := (hbV.block _ hV0).trans hl0
    have hd := (hbV.block w.heap.size (by omega)).trans hd0
    have hV : w.heap.size + 1 < V.heap.size := Nat.lt_of_lt_of_le hV0 hbV.size
    have hi := hI _ _ _ none hi0 (grown_none hbV) (fun r e => by cases e)
    have hk0 := hKa (by omega) hbV
    have hq0 := Kept.below (B := W1.heap.size) hbV
    refine ⟨_, run_beginRound hl rfl, ?_⟩
    have hax2 := (hAx x a').putObj (s := ()) (.loop (lrec fn a.tmps ps assign body w.heap.size .busy none)) hax (show w.heap.size ≤ w.heap.size + 1 by omega) hl rfl
    have hz2 : w.heap.size ≤ (V.putObj (w.heap.size + 1) (.loop (lrec fn a.tmps ps assign body w.heap.size .busy none))).heap.size := by have := (grownBy_putObj' V (w.heap.size + 1) (.loop (lrec fn a.tmps ps assign body w.heap.size .busy none))).size; omega
    have hl2 := World.putObj_heap_same (w := V) (o := .loop (lrec fn a.tmps ps assign body w.heap.size .busy none)) hV
    have hd2 := (World.putObj_heap_other (w := V) (o := .loop (lrec fn a.tmps ps assign body w.heap.size .busy none)) (show w.heap.size ≠ w.heap.size + 1 by omega)).trans hd
    have hk2 := hKt hk0 <| hKb V (w.heap.size + 1) _ (.loop (lrec fn a.tmps ps assign body w.heap.size .busy none)) (by omega) hl rfl rfl
    have hq2 := hq0.trans <| Kept.putObj (B := W1.heap.size) (l := w.heap.size + 1) V (.loop (lrec fn a.tmps ps assign body w.heap.size .busy none)) (by omega)
    have hi2 := hI.putObj (.loop (lrec fn a.tmps ps assign body w.heap.size .busy none)) hi (show w.heap.size ≤ w.heap.size + 1 by omega) hl rfl
    change Code.wpIn _ _ _ _ _ _ (V.putObj (w.heap.size + 1) (.loop (lrec fn a.tmps ps assign body w.heap.size .busy none)))
    refine wpIn_mono (hbody _ pre x a' _ hz2 rfl ⟨_, hl2⟩ hi2 hax2 hlen) ?_
    clear hbody hassign hi2 hax2 hz2
    generalize V.putObj (w.heap.size + 1) (.loop (lrec fn a.tmps ps assign body w.heap.size .busy none)) = V2 at *
    have leave : ∀ (j : Code) (V3 : World), KeepsFrom w.heap.size V2 V3 → Ix j (pre ++ [x]) V3 → Kept (w.heap.size + 2) V2 V3 → ∃ v V4, (Instr.endRound (w.heap.size + 1) (some j)).run P V3 = .ok v V4 ∧
        ((Ending.returned v = .returned (.bool true) ∧ (I (pre ++ [x]) V4 ∧ V4.heap[w.heap.size + 1]? = some (.loop (lrec fn a.tmps ps assign body w.heap.size .ready none)) ∧ V4.heap[w.heap.size]? = some (.deferred (some []))) ∧ Kp V0 V4 ∧ Kept W1.heap.size V0 V4) ∨
        (Ending.returned v = .returned (.bool false) ∧ (∃ c, Ix c (pre ++ [x]) V4 ∧ V4.heap[w.heap.size + 1]? = some (.loop (lrec fn a.tmps ps assign body w.heap.size .done (some c))) ∧ V4.heap[w.heap.size]? = some (.deferred (some []))) ∧ Kept W1.heap.size V0 V4)) := by
      intro j V3 hk hi3 hq3
      have hl3 := hk.same _ _ (by omega) hl2 rfl
      have hd3 := hk.same _ _ (Nat.le_refl _) hd2 rfl
      refine ⟨_, _, run_endRound (P := P) (some j) hl3, .inr ⟨rfl, ⟨j, (hIx j).putObj _ hi3 (by omega) hl3 rfl, World.putObj_heap_same (Array.getElem?_eq_some_iff.1 hl3).1, (World.putObj_heap_other (by omega)).trans hd3⟩, ?_⟩⟩
      exact (hq2.trans (hs ▸ hq3)).trans (Kept.putObj _ _ (by omega))
    rintro e a3 V3 hp
    cases e with
    | normal =>
      obtain ⟨hk, hkp, hi3, hq3⟩ := hp
      have hl3 := hk.same _ _ (by omega) hl2 rfl
      have hd3 := hk.same _ _ (Nat.le_refl _) hd2 rfl
      exact ⟨_, _, run_endRound (P := P) none hl3, .inl ⟨rfl, ⟨hI.putObj _ hi3 (by omega) hl3 rfl, World.putObj_heap_same (Array.getElem?_eq_some_iff.1 hl3).1, (World.putObj_heap_other (by omega)).trans hd3⟩, hKt (hKt hk2 hkp) (hKb _ _ _ _ (by omega) hl3 rfl rfl), (hq2.trans (hs ▸ hq3)).trans (Kept.putObj _ _ (by omega))⟩⟩
    | ret => exact leave .ret V3 hp.1 hp.2.1 hp.2.2
    | exit id => exact leave (.exit id) V3 hp.1 hp.2.1 hp.2.2
    | goto t => exact leave (.goto t) V3 hp.1 hp.2.1 hp.2.2
    | panic ch => exact hp.elim
    | outgrown => exact hp.elim
  · rintro e W2 ⟨⟨v, rfl⟩, (⟨hi, hl, hd⟩ | ⟨pre, hSp, c, hi, hl, hd⟩)⟩
    · exact ⟨_, _, run_endLoop (P := P) hl (by simp [lrec]), hdone _ _ (Nat.le_refl _) (hI.putObj _ hi (by omega) hl rfl) ((World.putObj_heap_other (by omega)).trans hd)⟩
    · exact ⟨_, _, run_endLoop (P := P) hl (by simp [lrec]), hstop _ c pre _ (Nat.le_refl _) hSp ((hIx c).putObj _ hi (by omega) hl rfl) ((World.putObj_heap_other (by omega)).trans hd)⟩
theorem rangeI {α : Type} {P : Program} {n : Nat} {g : Operand} {ps : Array Tmp} {assign body : Code} {Q : Exit → Act → World → Prop} {a : Act} {w : World} {gf : Nat} {lb : Array Value} {l₀ : Nat} {r₀ : Loop} (hl₀ : w.heap[l₀]? = some (.loop r₀))
    (hg : a.eval g = .func (.func gf) #[] lb) (eg : ∀ args w, (callFunc gf args).run P w = .ok (.enter gf args) w)
    {encs : α → Array Value} {Kp : World → World → Prop} {L : List α} (hseq : SeqL (n - 1) P gf lb encs Kp L w)
    (hKt : ∀ {A B C : World}, Kp A B → Kp B C → Kp A C) (hKb : ∀ (W : World) (l : Nat) (o o' : Obj), w.heap.size ≤ l → W.heap[l]? = some o → o.isCells = false → o.isWalk = false → Kp W (W.putObj l o')) (hps : ∀ x, (encs x).size = ps.size)
    (I : List α → World → Prop) (Ix : Code → List α → World → Prop) (hI : OwnFrom w.heap.size I) (hIx : ∀ c, OwnFrom w.heap.size (Ix c)) (h0 : I [] w) (Ax : α → Act → World → Prop) (hAx : ∀ x a', OwnFrom (β := Unit) w.heap.size (fun _ W => Ax x a' W)) (hKa : ∀ {A B : World}, w.heap.size ≤ A.heap.size → Below A.heap.size A B → Kp A B)
    (hassign : ∀ (l : Nat) (x : α) (W : World) (K : Act → World → Prop), w.heap.size ≤ W.heap.size → (∀ a' W', Below W.heap.size W W' → Ax x a' W' → K a' W') →
      assign.wpIn (Fence.wide.inRound l) (n - 1 - 1) P (Exit.then K (fun _ _ _ => False)) { tmps := (ps.zip (encs x)).foldl (fun t (p, v) => t.setIfInBounds p v) a.tmps, defers := [] } W)
    (hbody : ∀ (l : Nat) (pre : List α) (x : α) (a' : Act) (W : World), w.heap.size ≤ W.heap.size → I pre W → Ax x a' W → pre ++ [x] <+: L →
      body.wpIn (Fence.wide.inRound l) (n - 1 - 1) P (ownPostG w.heap.size Kp (fun xs W' => I xs W' ∧ Kept (w.heap.size + 1) W W') (fun c xs W' => Ix c xs W' ∧ Kept (w.heap.size + 1) W W') (pre ++ [x]) W) a' W)
    (hdone : ∀ (W : World), I L W → Q .normal a W)
    (hstop : ∀ (c : Code) (pre : List α) (W : World), pre <+: L → Ix c pre W → c.wpIn (Fence.wide.inRound l₀) n P Q a W) :
    (Code.rangeFunc g ps assign body).wpIn (Fence.wide.inRound l₀) n P Q a w := by
  refine wpIn_rangeFunc fun fn hfn => ?_
  have hent := run_enterLoop_inner (P := P) hl₀ fn a.tmps ps assign body
  have hL := World.alloc_heap_new w (.loop (lrec fn a.tmps ps assign body r₀.defers .ready none))
  have hs : (w.alloc (.loop (lrec fn a.tmps ps assign body r₀.defers .ready none))).heap.size = w.heap.size + 1 := by simp
  have hI1 := hI.alloc (.loop (lrec fn a.tmps ps assign body r₀.defers .ready none)) h0
  have hb1 : Below w.heap.size w (w.alloc (.loop (lrec fn a.tmps ps assign body r₀.defers .ready none))) := (Below.refl _ w).alloc (Nat.le_refl _) _
  change (Instr.enterLoop fn a.tmps ps assign body (some l₀)).run P w = .ok (w.heap.size, []) (w.alloc (.loop (lrec fn a.tmps ps assign body r₀.defers .ready none))) at hent
  generalize w.alloc (.loop (lrec fn a.tmps ps assign body r₀.defers .ready none)) = W1 at *
  refine ⟨_, _, W1, { target := .fn (.func gf) lb, args := #[.func (.yield (w.heap.size)) #[] #[]] }, W1, gf, #[.func (.yield (w.heap.size)) #[] #[]] ++ lb, W1, hent, ?_, fun _ _ => trivial, by simp [invoke, go_sem, eg], fun h => (by cases h), ?_⟩
  · simp only [resolve, hg]
    simp [go_sem]
  have own2 : ∀ (D : Nat) (o : Obj), D < W1.heap.size → OwnFrom (β := Unit) W1.heap.size (fun _ W => W.heap[D]? = some o) := fun D o hDl _ Y Z row h hg' hr =>
    (hg'.block D (Array.getElem?_eq_some_iff.1 h).1 (fun e => by have := (hr D e.symm).1; omega)).trans h
  have up : ∀ {Y : World} {row : Option Nat}, (∀ r, row = some r → W1.heap.size ≤ r ∧ ∃ o : Obj, Y.heap[r]? = some o ∧ o.isCells = false) → (∀ r, row = some r → w.heap.size ≤ r ∧ ∃ o : Obj, Y.heap[r]? = some o ∧ o.isCells = false) := fun h r e => ⟨by have := (h r e).1; omega, (h r e).2⟩
  refine (hseq (w.heap.size)
    (fun pre W => I pre W ∧ W.heap[w.heap.size]? = some (.loop (lrec fn a.tmps ps assign body r₀.defers .ready none)))
    (fun pre W => ∃ c, Ix c pre W ∧ W.heap[w.heap.size]? = some (.loop (lrec fn a.tmps ps assign body r₀.defers .done (some c))))
    W1 hb1 ?_ ?_ ?_ ⟨hI1, hL⟩).mono ?_
  · rintro s Y Z row ⟨h2, h3⟩ hg' hr
    exact ⟨hI s Y Z row h2 hg' (up hr), own2 _ _ (by omega) () Y Z row h3 hg' hr⟩
  · rintro s Y Z row ⟨c, h2, h3⟩ hg' hr
    exact ⟨c, hIx c s Y Z row h2 hg' (up hr), own2 _ _ (by omega) () Y Z row h3 hg' hr⟩
  · rintro pre x V0 ⟨hi0, hl0⟩ hlen
    have hV0 : w.heap.size < V0.heap.size := (Array.getElem?_eq_some_iff.1 hl0).1
    refine ⟨_, _, _, _, run_yield (P := P) (args := encs x) hl0 (hps x), roundIn_of_wpIn hfn (hassign _ x V0 _ (by omega) fun a' V hbV hax => ?_)⟩
    have hl := (hbV.block _ hV0).trans hl0
    have hV : w.heap.size < V.heap.size := Nat.lt_of_lt_of_le hV0 hbV.size
    have hi := hI _ _ _ none hi0 (grown_none hbV) (fun r e => by cases e)
    have hk0 := hKa (by omega) hbV
    have hq0 := Kept.below (B := W1.heap.size) hbV
    refine ⟨_, run_beginRound hl rfl, ?_⟩
    have hax2 := (hAx x a').putObj (s := ()) (.loop (lrec fn a.tmps ps assign body r₀.defers .busy none)) hax (show w.heap.size ≤ w.heap.size by omega) hl rfl
    have hz2 : w.heap.size ≤ (V.putObj (w.heap.size) (.loop (lrec fn a.tmps ps assign body r₀.defers .busy none))).heap.size := by have := (grownBy_putObj' V (w.heap.size) (.loop (lrec fn a.tmps ps assign body r₀.defers .busy none))).size; omega
    have hl2 := World.putObj_heap_same (w := V) (o := .loop (lrec fn a.tmps ps assign body r₀.defers .busy none)) hV
    have hk2 := hKt hk0 <| hKb V (w.heap.size) _ (.loop (lrec fn a.tmps ps assign body r₀.defers .busy none)) (by omega) hl rfl rfl
    have hq2 := hq0.trans <| Kept.putObj (B := W1.heap.size) (l := w.heap.size) V (.loop (lrec fn a.tmps ps assign body r₀.defers .busy none)) (by omega)
    have hi2 := hI.putObj (.loop (lrec fn a.tmps ps assign body r₀.defers .busy none)) hi (show w.heap.size ≤ w.heap.size by omega) hl rfl
    change Code.wpIn _ _ _ _ _ _ (V.putObj (w.heap.size) (.loop (lrec fn a.tmps ps assign body r₀.defers .busy none)))
    refine wpIn_mono (hbody _ pre x a' _ hz2 hi2 hax2 hlen) ?_
    clear hbody hassign hi2 hax2 hz2
    generalize V.putObj (w.heap.size) (.loop (lrec fn a.tmps ps assign body r₀.defers .busy none)) = V2 at *
    have leave : ∀ (j : Code) (V3 : World), KeepsFrom w.heap.size V2 V3 → Ix j (pre ++ [x]) V3 → Kept (w.heap.size + 1) V2 V3 → ∃ v V4, (Instr.endRound (w.heap.size) (some j)).run P V3 = .ok v V4 ∧
        ((Ending.returned v = .returned (.bool true) ∧ (I (pre ++ [x]) V4 ∧ V4.heap[w.heap.size]? = some (.loop (lrec fn a.tmps ps assign body r₀.defers .ready none))) ∧ Kp V0 V4 ∧ Kept W1.heap.size V0 V4) ∨
        (Ending.returned v = .returned (.bool false) ∧ (∃ c, Ix c (pre ++ [x]) V4 ∧ V4.heap[w.heap.size]? = some (.loop (lrec fn a.tmps ps assign body r₀.defers .done (some c)))) ∧ Kept W1.heap.size V0 V4)) := by
      intro j V3 hk hi3 hq3
      have hl3 := hk.same _ _ (by omega) hl2 rfl
      refine ⟨_, _, run_endRound (P := P) (some j) hl3, .inr ⟨rfl, ⟨j, (hIx j).putObj _ hi3 (by omega) hl3 rfl, World.putObj_heap_same (Array.getElem?_eq_some_iff.1 hl3).1⟩, ?_⟩⟩
      exact (hq2.trans (hs ▸ hq3)).trans (Kept.putObj _ _ (by omega))
    rintro e a3 V3 hp
    cases e with
    | normal =>
      obtain ⟨hk, hkp, hi3, hq3⟩ := hp
      have hl3 := hk.same _ _ (by omega) hl2 rfl
      exact ⟨_, _, run_endRound (P := P) none hl3, .inl ⟨rfl, ⟨hI.putObj _ hi3 (by omega) hl3 rfl, World.putObj_heap_same (Array.getElem?_eq_some_iff.1 hl3).1⟩, hKt (hKt hk2 hkp) (hKb _ _ _ _ (by omega) hl3 rfl rfl), (hq2.trans (hs ▸ hq3)).trans (Kept.putObj _ _ (by omega))⟩⟩
    | ret => exact leave .ret V3 hp.1 hp.2.1 hp.2.2
    | exit id => exact leave (.exit id) V3 hp.1 hp.2.1 hp.2.2
    | goto t => exact leave (.goto t) V3 hp.1 hp.2.1 hp.2.2
    | panic ch => exact hp.elim
    | outgrown => exact hp.elim
  · rintro e W2 ⟨⟨v, rfl⟩, (⟨hi, hl⟩ | ⟨pre, hSp, c, hi, hl⟩)⟩
    · exact ⟨_, _, run_endLoop (P := P) hl (by simp [lrec]), hdone _ (hI.putObj _ hi (by omega) hl rfl)⟩
    · exact ⟨_, _, run_endLoop (P := P) hl (by simp [lrec]), hstop c pre _ hSp ((hIx c).putObj _ hi (by omega) hl rfl)⟩
end Go.Proofs.YthjgbnehoiafhaaDoor

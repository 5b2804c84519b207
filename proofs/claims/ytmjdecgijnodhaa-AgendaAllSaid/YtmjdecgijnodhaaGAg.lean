/- The agenda: what it holds; New, Len, At, First. -/
import Derived.Test.YtmjdecgijnodhaaGRem
import Derived.Maps.OwnSet
namespace Go.Proofs.Ytmjdecgijnodhaa
open Go.RowKit Go.Maps
/-- How a pointer reads in the map. -/
def ptrR : Value → Option (DataW Unit × List MemPlace)
  | .pointer none => some (.lit (.int .i64 (-1)), [])
  | .pointer (some ⟨p, 0, none⟩) => some (.lit (.int .i64 (p : Int)), [])
  | _ => none
theorem ptrR_mk (p : Nat) : ptrR (.pointer (some ⟨p, 0, none⟩)) = some (.lit (.int .i64 (p : Int)), []) := rfl
theorem ptrR_inv {v : Value} {p : Nat} {ps : List MemPlace} (h : ptrR v = some (.lit (.int .i64 (p : Int)), ps)) : v = .pointer (some ⟨p, 0, none⟩) := by
  unfold ptrR at h
  split at h
  · simp at h
  · simp at h; rw [Int.ofNat.inj h.1]
  · cases h
theorem ptrR_nil {v : Value} {ps : List MemPlace} (h : ptrR v = some (.lit (.int .i64 (-1)), ps)) : v = .pointer none := by
  unfold ptrR at h
  split at h
  · rfl
  · simp at h
  · cases h
theorem lawK : Keyed Try.prog 3 := int_keyed Try.underlying3
theorem zeroPtr (w : World) : (zeroValue 57).run Try.prog w = .ok (.pointer none) w := by kernel_rfl
/-- The map has just the ids of the entries, each with its entry. -/
def MapD (D : DataW Unit) (n : Nat) (h : Nat → Nat × Ent) : Prop :=
  ∀ id : Int, ((∃ k, k < n ∧ (h k).2.id = id) → Maps.has D (.int .i64 id) = true) ∧ ((¬ ∃ k, k < n ∧ (h k).2.id = id) → Maps.has D (.int .i64 id) = false ∧ D.atKey (.int .i64 id) (.lit (.int .i64 (-1))) = .lit (.int .i64 (-1))) ∧
    ∀ k, k < n → (h k).2.id = id → D.atKey (.int .i64 id) (.lit (.int .i64 (-1))) = .lit (.int .i64 ((h k).1 : Int))
/-- The agenda at block a. -/
structure Ag (w : World) (a n : Nat) (h : Nat → Nat × Ent) (rowv : Value) (mb sets : Nat) (D : DataW Unit) : Prop where
  box : AgBox w a rowv mb sets
  hp : Hp w n h rowv
  heap : IsHeap (ents h) n
  map : w.ownsMap Try.prog 3 ptrR mb sets D
  mapD : MapD D n h
  ids : ∀ k l, k < n → l < n → (h k).2.id = (h l).2.id → k = l
  wf : ∀ k, k < n → (Lit.int .i64 (h k).2.id).wf = true
  turns : ∀ k, k < n → (h k).2.turn ≤ sets
  dist : ∀ k l, k < n → l < n → (h k).2.turn = (h l).2.turn → k = l
  small : n ≤ sets ∧ sets ≤ 1000000
/-- The agenda's blocks. -/
def FA (a n : Nat) (h : Nat → Nat × Ent) (rowv : Value) (mb k : Nat) : Prop := FH n h rowv k ∨ k = a ∨ k = mb
/-- An agenda that holds just the entries of S. -/
def AgS (w : World) (a : Nat) (F : Nat → Prop) (S : Ent → Prop) (n sets : Nat) : Prop :=
  ∃ h rowv mb D, Ag w a n h rowv mb sets D ∧ (∀ x, S x ↔ ∃ k, k < n ∧ (h k).2 = x) ∧ (∀ k, FA a n h rowv mb k → F k) ∧ ∀ k, F k → k < w.heap.size
theorem Ag.keep {w w' : World} {a n : Nat} {h : Nat → Nat × Ent} {rowv : Value} {mb sets : Nat} {D : DataW Unit} (H : Ag w a n h rowv mb sets D) (hs : ∀ k, FA a n h rowv mb k → w'.heap[k]? = w.heap[k]?) : Ag w' a n h rowv mb sets D := by
  refine ⟨H.box.same (hs a (.inr (.inl rfl))), ⟨owns_same H.hp.row fun g _ e => hs g (.inl (.inl e)), fun k hk => (H.hp.ent k hk).same (hs _ (.inl (.inr ⟨k, hk, rfl⟩))), H.hp.inj⟩, H.heap, ?_, H.mapD, H.ids, H.wf, H.turns, H.dist, H.small⟩
  obtain ⟨es, clock, h1, h2⟩ := H.map
  exact ⟨es, clock, (hs mb (.inr (.inr rfl))).trans h1, h2⟩
theorem AgS.keep {w w' : World} {a : Nat} {F : Nat → Prop} {S : Ent → Prop} {n sets : Nat} (H : AgS w a F S n sets) (hz : w.heap.size ≤ w'.heap.size) (hs : ∀ k, F k → w'.heap[k]? = w.heap[k]?) : AgS w' a F S n sets := by
  obtain ⟨h, rowv, mb, D, h1, h2, h3, h4⟩ := H
  exact ⟨h, rowv, mb, D, h1.keep (fun k hk => hs k (h3 k hk)), h2, h3, fun k hk => Nat.lt_of_lt_of_le (h4 k hk) hz⟩
theorem AgS.below {w w' : World} {a : Nat} {F : Nat → Prop} {S : Ent → Prop} {n sets : Nat} (H : AgS w a F S n sets) (hb : Below w.heap.size w w') : AgS w' a F S n sets :=
  H.keep hb.size fun k hk => hb.block k (by obtain ⟨h, rowv, mb, D, h1, h2, h3, h4⟩ := H; exact h4 k hk)
set_option maxHeartbeats 1000000 in
theorem newA (w : World) : Calls Try.prog 8 #[] w fun e w' => e = .returned (.pointer (some ⟨w.heap.size + 1, 0, none⟩)) ∧ AgS w' (w.heap.size + 1) (fun k => w.heap.size ≤ k ∧ k < w.heap.size + 2) (fun _ => False) 0 0 ∧ Below w.heap.size w w' := by
  have hmm := @run_makeMap Try.prog
  go_enter Try.func8, Try.ntmps8
  go_wp2
  go_ret
  refine ⟨rfl, ⟨fun _ => (0, ⟨0, 0, 0⟩), .slice none 0 0, w.heap.size, .map [], ⟨?_, ⟨World.ownsRow_nil _ _ _ _, fun k hk => by omega, fun k l hk => by omega⟩, fun k _ hk => by omega, (World.ownsMap_made w _ _ _).alloc _, ?_, fun k l hk => by omega, fun k hk => by omega, fun k hk => by omega, fun k l hk => by omega, ⟨Nat.le_refl _, by decide⟩⟩, ?_, ?_, ?_⟩, ((Below.refl _ w).alloc (Nat.le_refl _) _).alloc (by simp) _⟩
  · have := heap_newG (w.alloc (.map #[] 0)) (.cells #[.slice none 0 0, .map (some w.heap.size), .int .i64 0] 60)
    simpa [AgBox] using this
  · intro id
    exact ⟨fun ⟨k, hk, _⟩ => by omega, fun _ => ⟨by simp [Maps.has], by simp [DataW.atKey]⟩, fun k hk => by omega⟩
  · intro x
    exact ⟨fun h => h.elim, fun ⟨k, hk, _⟩ => by omega⟩
  · rintro k ((e | ⟨l, hl, _⟩) | e | e)
    · cases e
    · omega
    · omega
    · omega
  · intro k hk
    simp
    omega
end Go.Proofs.Ytmjdecgijnodhaa

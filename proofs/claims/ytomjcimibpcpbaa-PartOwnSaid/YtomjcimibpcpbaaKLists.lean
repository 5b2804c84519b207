/- Book.Lists: it takes lists in, one by one. -/
import Derived.Test.YtomjcimibpcpbaaKOwn
namespace Go.Proofs.Ytomjcimibpcpbaa.K
open Go.RowKit
/-- What is not the book's, nor one of the rows, stands. -/
structure FrV (tag : Nat → Nat) (vs : List Value) (w : World) (tag' : Nat → Nat) (w' : World) : Prop where
  os : w'.os = w.os
  tape : w'.tape = w.tape
  output : w'.output = w.output
  size : w.heap.size ≤ w'.heap.size
  tg : ∀ g, g < w.heap.size → tag g = 0 → (∀ v ∈ vs, v.ownBlock ≠ some g) → tag' g = 0
  block : ∀ g, g < w.heap.size → tag g = 0 → (∀ v ∈ vs, v.ownBlock ≠ some g) → w'.heap[g]? = w.heap[g]?
theorem FrV.refl (tag : Nat → Nat) (w : World) : FrV tag [] w tag w := ⟨rfl, rfl, rfl, Nat.le_refl _, fun _ _ h _ => h, fun _ _ _ _ => rfl⟩
theorem FrV.snoc {tag tag' tag2 : Nat → Nat} {vs : List Value} {v : Value} {w w' w2 : World} (h : FrV tag vs w tag' w') (k : Fr tag' v w' tag2 w2) : FrV tag (vs ++ [v]) w tag2 w2 :=
  ⟨k.os.trans h.os, k.tape.trans h.tape, k.output.trans h.output, Nat.le_trans h.size k.size,
   fun g hg ht hv => k.tg g (Nat.lt_of_lt_of_le hg h.size) (h.tg g hg ht fun u hu => hv u (List.mem_append_left _ hu)) (hv v (by simp)),
   fun g hg ht hv => (k.block g (Nat.lt_of_lt_of_le hg h.size) (h.tg g hg ht fun u hu => hv u (List.mem_append_left _ hu)) (hv v (by simp))).trans (h.block g hg ht fun u hu => hv u (List.mem_append_left _ hu))⟩
/-- Rows of ints of one's own, told by a row that none of them is. -/
structure Rws (w : World) (tag : Nat → Nat) (ov : Value) (vs : List Value) (rows : Nat → List Int) : Prop where
  outer : ∃ oa cap, ov = .slice oa vs.length cap ∧ ∀ (j : Nat) (v : Value), vs[j]? = some v → ∃ g o, oa = some ⟨g, o, none⟩ ∧ w.cell? ⟨g, o + j, none⟩ = some v ∧ tag g = 0 ∧ ∀ u ∈ vs, u.ownBlock ≠ some g
  inner : ∀ (j : Nat) (v : Value), vs[j]? = some v → w.ownsRow 0 3 1 v (rows j).length (cellsI (rows j)) ∧ (rows j).length ≤ 1000000
  un : ∀ v ∈ vs, ∀ g, v.ownBlock = some g → tag g = 0
  dis : ∀ (i j : Nat) (u v : Value) (g : Nat), i < j → vs[i]? = some u → vs[j]? = some v → u.ownBlock = some g → v.ownBlock ≠ some g
set_option maxRecDepth 100000 in
set_option maxHeartbeats 2000000 in
theorem bookLists (b : Nat) (tag : Nat → Nat) (ov : Value) (vs : List Value) (rows : Nat → List Int) (w : World) (hB : Book w b tag) (hR : Rws w tag ov vs rows) (hl : vs.length ≤ 1000000) :
    Calls Try.prog 17 #[.pointer (some ⟨b, 0, none⟩), ov] w fun e w' => e = .returned (.tuple #[]) ∧ ∃ tag', Book w' b tag' ∧ FrV tag vs w tag' w' := by
  obtain ⟨oa, cap, rfl, hout⟩ := hR.outer
  have hout' := hide' hout
  have hR' := hide' hR
  have hB' := hide' hB
  clear hout hR hB
  go_enter Try.func17, Try.ntmps17
  go_wp2
  go_loopw [4] (fun k wr => ∃ (c : Nat) (tag' : Nat → Nat), c ≤ vs.length ∧ k = .int .i64 c ∧ Hid (Book wr b tag') ∧ Hid (FrV tag (vs.take c) w tag' wr)) (fun k _ => ((vs.length : Int) - intOf k).toNat)
  case atStart => exact ⟨0, tag, Nat.zero_le _, rfl, hB', FrV.refl tag w⟩
  case round =>
    clear hB'
    obtain ⟨c, tag', hc, rfl, hBk, hFr⟩ := hrel
    by_cases hlt : c < vs.length
    · obtain ⟨v, hv⟩ : ∃ v, vs[c]? = some v := ⟨_, List.getElem?_eq_getElem hlt⟩
      obtain ⟨g, o, rfl, c0, ht0, hg0⟩ := hout'.out c v hv
      have hvm : v ∈ vs := List.mem_of_getElem? hv
      have c1 : wr.cell? ⟨g, o + c, none⟩ = some v := by
        have e := hFr.out.block g (cell_lt c0) ht0 (fun u hu => hg0 u (List.mem_of_mem_take hu))
        unfold World.cell? at c0 ⊢
        simp only [e]
        exact c0
      have hne : ∀ q, v.ownBlock = some q → ∀ u ∈ vs.take c, u.ownBlock ≠ some q := fun q hq u hu e => by
        obtain ⟨i, hi⟩ := List.getElem?_of_mem hu
        have hic : i < c := by have := (List.getElem?_eq_some_iff.1 hi).1; rw [List.length_take] at this; omega
        rw [List.getElem?_take_of_lt hic] at hi
        exact hR'.out.dis i c u v q hic hi hv e hq
      obtain ⟨hin, hrl⟩ := hR'.out.inner c v hv
      have hown : wr.ownsRow 0 3 1 v (rows c).length (cellsI (rows c)) := owns_same hin fun q hq e => hFr.out.block q hq (hR'.out.un v hvm q e) (hne q e)
      have KI := hide' (bookInts b tag' v (rows c) wr hBk.out hown hrl (fun q e => hFr.out.tg q (owns_lt hin e) (hR'.out.un v hvm q e) (hne q e)))
      have hT : Hid (vs.take (c + 1) = vs.take c ++ [v]) := by show _ = _; rw [List.take_add_one, hv]; rfl
      obtain ⟨ox, cx, hve⟩ := own_shape hown
      clear hout' hR' hown hin hne hv hvm c0 hBk
      subst hve
      generalize (rows c).length = q at *
      go_wp2_with (first | (go_at_call 8; refine KI.out.mono ?_; rintro e w3 ⟨rfl, tag3, hk3, hf3⟩))
      exact ⟨⟨c + 1, tag3, by omega, by go_num, hk3, by rw [hT.out]; exact hFr.out.snoc hf3⟩, by simp [intOf]; omega⟩
    · obtain rfl : c = vs.length := by omega
      have hFr' : Hid (FrV tag vs w tag' wr) := by have := hFr.out; rw [List.take_length] at this; exact this
      clear hout' hR' hFr
      go_wp2
      first | go_end0 | refine bodyPost_ret (results_none rfl _ _ _) rfl ?_
      exact ⟨rfl, tag', hBk.out, hFr'.out⟩
end Go.Proofs.Ytomjcimibpcpbaa.K

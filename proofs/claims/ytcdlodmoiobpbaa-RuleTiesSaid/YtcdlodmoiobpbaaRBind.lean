/- The document's bind. -/
import Derived.Test.YtcdlodmoiobpbaaRTieM
import Derived.Test.YtcdlodmoiobpbaaRRight
namespace Go.Proofs.Ytcdlodmoiobpbaa
open Go.RowKit
def cellsF (A : Nat → Nat) (m : Nat) : List Value := (List.range m).map fun b => .int .i64 ((A b : Nat) : Int)
theorem cellsF_len (A : Nat → Nat) (m : Nat) : (cellsF A m).length = m := by simp [cellsF]
theorem cellsF_at (A : Nat → Nat) {m b : Nat} (h : b < m) : (cellsF A m)[b]? = some (.int .i64 ((A b : Nat) : Int)) := by simp [cellsF, h]
theorem cellsF_none (A : Nat → Nat) {m b : Nat} (h : ¬ b < m) : (cellsF A m)[b]? = none := List.getElem?_eq_none (by rw [cellsF_len]; omega)
theorem cellsF_set (A : Nat → Nat) (m x q : Nat) : (cellsF A m).set x (.int .i64 (q : Int)) = cellsF (fun b => if b = x then q else A b) m := by
  refine List.ext_getElem? fun b => ?_
  rw [List.getElem?_set, cellsF_len]
  by_cases hb : b < m
  · rw [cellsF_at (fun b => if b = x then q else A b) hb]
    by_cases e : x = b
    · subst e; rw [if_pos rfl, if_pos hb, if_pos rfl]
    · rw [if_neg e, cellsF_at A hb, if_neg (Ne.symm e)]
  · rw [cellsF_none (fun b => if b = x then q else A b) hb]
    by_cases e : x = b
    · subst e; rw [if_pos rfl, if_neg hb]
    · rw [if_neg e, cellsF_none A hb]
theorem cellsF_ints (A : Nat → Nat) (m : Nat) : cellsF A m = cellsI (ints ((List.range m).map A)) := by simp [cellsF, cellsI, ints]
/-- The first c steps of the row have got their label. -/
def laidC (F : Nat → Nat) (T : List Nat) (lo c a : Nat) : Nat := if a ∈ T.take c then lo else F a
theorem laidC_succ (F : Nat → Nat) {T : List Nat} (lo : Nat) {c t : Nat} (h : T[c]? = some t) : (fun b => if b = t then lo else laidC F T lo c b) = laidC F T lo (c + 1) := by
  funext b
  unfold laidC
  rw [List.take_add_one, h]
  by_cases e : b = t
  · simp [e]
  · simp [e]
set_option maxRecDepth 100000 in
set_option maxHeartbeats 2000000 in
theorem rBind (base g n : Nat) (F : Nat → Nat) (T : List Nat) (os : Option Addr) (cs : Nat) (w : World) (hrow : w.ownsRow base 3 1 (.slice (some ⟨g, 0, none⟩) n n) n (cellsF F n)) (hs : ∀ i t : Nat, T[i]? = some t → ∃ g' o, os = some ⟨g', o, none⟩ ∧ g' < g ∧ w.cell? ⟨g', o + i, none⟩ = some (.int .i64 (t : Int))) (hT : ∀ t ∈ T, t < n) (h0 : 0 < T.length) (hTl : T.length ≤ 1000) :
    Calls Try.prog 27 #[.slice (some ⟨g, 0, none⟩) n n, .slice os T.length cs] w fun e w' => e = .returned (.tuple #[]) ∧ Hid (w'.ownsRow base 3 1 (.slice (some ⟨g, 0, none⟩) n n) n (cellsF (bnd F T) n)) ∧ Hid (Below g w w') := by
  have hs' := hide' hs
  have hT' : Hid (∀ i t : Nat, T[i]? = some t → t < n) := fun i t h => hT t (List.mem_of_getElem? h)
  have hlow : Hid (∀ c t : Nat, T[c]? = some t → lowC F T (c + 1) = if F t < lowC F T c then F t else lowC F T c) := fun c t h => by rw [lowC, getD_some h]
  have hrow' := hide' hrow
  clear hs hT hrow
  obtain ⟨t0, ht0⟩ : ∃ x, T[0]? = some x := ⟨_, List.getElem?_eq_getElem h0⟩
  obtain ⟨g', o, rfl, hgg, c0⟩ := hs'.out 0 t0 ht0
  rw [Nat.add_zero] at c0
  have ht0n := hT'.out 0 t0 ht0
  have cl0 : w.cell? ⟨g, t0, none⟩ = some (.int .i64 ((F t0 : Nat) : Int)) := by rw [hrow'.out.cellAt t0 (by omega)]; exact cellsF_at _ ht0n
  have hl0 : Hid (lowC F T 0 = F t0) := by show _ = _; rw [lowC, getD_some ht0]
  clear ht0
  generalize F t0 = f0 at *
  go_enter Try.func27, Try.ntmps27
  go_wp2
  go_loopw [4, 5] (fun v k wr => ∃ (c : Nat), c ≤ T.length ∧ k = .int .i64 c ∧ v = .int .i64 ((lowC F T c : Nat) : Int) ∧ wr = w) (fun _ k _ => ((T.length : Int) - intOf k).toNat)
  case atStart => exact ⟨0, Nat.zero_le _, rfl, by rw [hl0.out], rfl⟩
  case round =>
    obtain ⟨c, hc, rfl, rfl, rfl⟩ := hrel
    clear cl0 c0
    by_cases hlt : c < T.length
    · obtain ⟨t, ht⟩ : ∃ x, T[c]? = some x := ⟨_, List.getElem?_eq_getElem hlt⟩
      obtain ⟨_, _, e, _, c1⟩ := hs'.out c t ht
      cases e
      have htn := hT'.out c t ht
      have c2 : wr.cell? ⟨g, t, none⟩ = some (.int .i64 ((F t : Nat) : Int)) := by rw [hrow'.out.cellAt t (by omega)]; exact cellsF_at _ htn
      have hL := hide' (hlow.out c t ht)
      clear hs' hT' hlow hrow' ht
      generalize F t = x at *
      generalize hlo : lowC F T c = lo at *
      by_cases hx : x < lo
      · have hL' : Hid (lowC F T (c + 1) = x) := by show _ = _; rw [hL.out, if_pos hx]
        have hx' : (x : Int) < (lo : Int) := by omega
        clear hlo hL
        go_wp2
        exact ⟨⟨c + 1, by omega, by go_num, by rw [hL'.out], trivial⟩, by simp [intOf]; omega⟩
      · have hL' : Hid (lowC F T (c + 1) = lo) := by show _ = _; rw [hL.out, if_neg hx]
        have hx' : ¬ (x : Int) < (lo : Int) := by omega
        clear hlo hL
        go_wp2
        exact ⟨⟨c + 1, by omega, by go_num, by rw [hL'.out], trivial⟩, by simp [intOf]; omega⟩
    · obtain rfl : c = T.length := by omega
      have hbn : Hid (∀ W : World, W.ownsRow base 3 1 (.slice (some ⟨g, 0, none⟩) n n) n (cellsF (laidC F T (lowC F T T.length) T.length) n) → W.ownsRow base 3 1 (.slice (some ⟨g, 0, none⟩) n n) n (cellsF (bnd F T) n)) := fun W h => by
        have e : laidC F T (lowC F T T.length) T.length = bnd F T := by
          funext a
          unfold laidC bnd lowT
          rw [List.take_length]
        rwa [e] at h
      have hst : Hid (wr.ownsRow base 3 1 (.slice (some ⟨g, 0, none⟩) n n) n (cellsF (laidC F T (lowC F T T.length) 0) n)) := by
        have e : laidC F T (lowC F T T.length) 0 = F := by funext a; simp [laidC]
        show _
        rw [e]
        exact hrow'.out
      have hnx : Hid (∀ c t : Nat, T[c]? = some t → (fun b => if b = t then lowC F T T.length else laidC F T (lowC F T T.length) c b) = laidC F T (lowC F T T.length) (c + 1)) := fun c t h => laidC_succ F _ h
      clear hrow' hlow hl0
      generalize lowC F T T.length = lo at *
      generalize laidC F T lo = G at *
      go_wp2
      go_loopw [6] (fun k wq => ∃ (c : Nat), c ≤ T.length ∧ k = .int .i64 c ∧ Hid (wq.ownsRow base 3 1 (.slice (some ⟨g, 0, none⟩) n n) n (cellsF (G c) n)) ∧ Hid (Below g wr wq)) (fun k _ => ((T.length : Int) - intOf k).toNat)
      case atStart => exact ⟨0, Nat.zero_le _, rfl, hst, Below.refl _ _⟩
      case round =>
        obtain ⟨c, hc, rfl, hR, hB⟩ := hrel
        by_cases hlt : c < T.length
        · obtain ⟨t, ht⟩ : ∃ x, T[c]? = some x := ⟨_, List.getElem?_eq_getElem hlt⟩
          obtain ⟨_, _, e, _, c1'⟩ := hs'.out c t ht
          cases e
          have c1 := (hB.out.cell (p := ⟨g', o + c, none⟩) hgg).trans c1'
          have htn := hT'.out c t ht
          have c2 : wr.cell? ⟨g, t, none⟩ = some (.int .i64 ((G c t : Nat) : Int)) := by rw [hR.out.cellAt t (by omega)]; exact cellsF_at _ htn
          have fx := hR.out.frozenAt t
          have hS := (hR.out.stored t (.int .i64 (lo : Int))).1
          rw [cellsF_set, hnx.out c t ht] at hS
          have hS' := hide' hS
          clear hs' hT' hR ht hS c1' hnx hbn hst
          generalize G c t = x at *
          go_wp2
          exact ⟨⟨c + 1, by omega, by go_num, hS'.out, hB.out.setCell (Nat.le_refl _) _⟩, by simp [intOf]; omega⟩
        · obtain rfl : c = T.length := by omega
          have hF := hide' (hbn.out _ hR.out)
          clear hs' hT' hnx hbn hst hR
          go_wp2
          exact bodyPost_end (v := .tuple #[]) (by simp [results, Try.results27, go_sem]) rfl ⟨rfl, hF, hB⟩
end Go.Proofs.Ytcdlodmoiobpbaa

/- blockSets, blocksOf: what they answer. -/
import Derived.Test.YtdiplbkgglgnfaaRFoeM
import Derived.Test.YtdiplbkgglgnfaaPKeep
import Derived.Test.YtdiplbkgglgnfaaBWith
namespace Go.Proofs.Ytdiplbkgglgnfaa
open Go.RowKit
theorem infoS : (Try.prog.info? 62).map (fun i => (i.zero, i.size, i.bytes)) = some (some (.agg #[.int .u64 0]), 1, 8) := by kernel_rfl
/-- Words as a row's cells. -/
def cellsW (A : Nat → Nat) (m : Nat) : List Value := (List.range m).map fun b => .int .u64 ((A b : Nat) : Int)
theorem cellsW_len (A : Nat → Nat) (m : Nat) : (cellsW A m).length = m := by simp [cellsW]
theorem cellsW_at (A : Nat → Nat) {m b : Nat} (h : b < m) : (cellsW A m)[b]? = some (.int .u64 ((A b : Nat) : Int)) := by simp [cellsW, h]
theorem cellsW_none (A : Nat → Nat) {m b : Nat} (h : ¬ b < m) : (cellsW A m)[b]? = none := List.getElem?_eq_none (by rw [cellsW_len]; omega)
theorem cellsW_set (A : Nat → Nat) (m x q : Nat) : (cellsW A m).set x (.int .u64 (q : Int)) = cellsW (fun b => if b = x then q else A b) m := by
  refine List.ext_getElem? fun b => ?_
  rw [List.getElem?_set, cellsW_len]
  by_cases hb : b < m
  · rw [cellsW_at (fun b => if b = x then q else A b) hb]
    by_cases e : x = b
    · subst e; rw [if_pos rfl, if_pos hb, if_pos rfl]
    · rw [if_neg e, cellsW_at A hb, if_neg (Ne.symm e)]
  · rw [cellsW_none (fun b => if b = x then q else A b) hb]
    by_cases e : x = b
    · subst e; rw [if_pos rfl, if_neg hb]
    · rw [if_neg e, cellsW_none A hb]
theorem cellsW_congr {A B : Nat → Nat} {m : Nat} (h : ∀ b, b < m → A b = B b) : cellsW A m = cellsW B m := by
  unfold cellsW
  refine List.map_congr_left fun b hb => ?_
  rw [h b (List.mem_range.1 hb)]
theorem cellsW_zero (m : Nat) : List.replicate m (Value.int .u64 0) = cellsW (fun _ => 0) m := by
  refine List.ext_getElem? fun b => ?_
  by_cases hb : b < m
  · rw [cellsW_at _ hb, List.getElem?_replicate, if_pos hb]; rfl
  · rw [cellsW_none _ hb, List.getElem?_replicate, if_neg hb]
theorem pow_le12 {n : Nat} (h : n ≤ 25) : 2 ^ n ≤ 33554432 := by
  have : 2 ^ n ≤ 2 ^ 25 := Nat.pow_le_pow_right (by decide) h
  simpa using this
set_option maxRecDepth 100000 in
set_option maxHeartbeats 4000000 in
theorem blockSetsF (n m : Nat) (t : List Nat) (oa : Option Addr) (cap : Nat) (w : World) (hr : RowI w (.slice oa n cap) (ints t)) (htn : t.length = n) (hn : n ≤ 25) (hL : Leg 0 t) (hm : blks 0 t = m) :
    Calls Try.prog 21 #[.slice oa n cap] w fun e w' => ∃ g, e = .returned (.slice (some ⟨g, 0, none⟩) m m) ∧ Hid (w'.ownsRow w.heap.size 62 1 (.slice (some ⟨g, 0, none⟩) m m) m (cellsW (bwC t n) m)) ∧ Below w.heap.size w w' := by
  obtain ⟨i0, hi, hz0, hz1, hz2⟩ := info_parts infoS
  have hle := blks_leg hL
  have hm25 : m ≤ 25 := by omega
  have KS : Hid (Calls Try.prog 39 #[.slice oa n cap] w fun e w' => e = .returned (.int .i64 (m : Int)) ∧ w' = w) := by
    have := sizeT t _ w hr (by omega) hL
    rwa [hm] at this
  have hin : Hid (∀ (c x : Nat), t[c]? = some x → x < m) := fun c x hx => by have := lt_blks (b := 0) (List.mem_of_getElem? hx); omega
  have hcell : Hid (∀ i x : Nat, t[i]? = some x → ∃ g o, oa = some ⟨g, o, none⟩ ∧ w.cell? ⟨g, o + i, none⟩ = some (.int .i64 (x : Int))) := by
    obtain ⟨_, _, e, _, hc⟩ := hr
    rw [ints_len, htn] at e
    cases e
    exact fun i x hx => hc i x (ints_at hx)
  have hat : Hid (∀ c, c < n → ∃ x, t[c]? = some x) := fun c hc => ⟨_, List.getElem?_eq_getElem (by omega)⟩
  have KW : Hid (∀ (c x : Nat) (W : World), c < n → t[c]? = some x → Calls Try.prog 40 #[.agg #[.int .u64 ((bwC t c x : Nat) : Int)], .int .i64 (c : Int)] W fun e w' => e = .returned (.tuple #[.agg #[.int .u64 ((bwC t (c + 1) x : Nat) : Int)], .int .i64 0]) ∧ Below W.heap.size W w') := fun c x W hc hx => by
    have hp25 : 2 ^ c ≤ 33554432 := pow_le12 (by omega)
    have hlt := bwC_lt t c x
    have e : bwC t (c + 1) x = bwC t c x ||| 2 ^ c := by rw [bwC, if_pos hx]
    exact wiT64 (bwC t c x) (by omega) c (by omega) (2 ^ c) _ (shl64 c (by omega)) (by omega) e.symm W
  clear hr hm hL hle htn
  go_enter Try.func21, Try.ntmps21
  go_wp2_with (first | (go_at_call 39; refine KS.out.mono ?_; rintro e w1 ⟨rfl, rfl⟩) | (at_make; refine wpList_make_full _ rfl _ _ 58 rfl w1.heap.size 62 i0 (.agg #[.int .u64 0]) 1 Try.underlying58 hi hz0 hz1 .i64 .i64 _ _ m rfl rfl rfl rfl (by rw [hz2]; omega) (by unfold maxLen; omega) (by simp) ?_; intro w2 hrow hgrow))
  have hr0 : Hid (w2.ownsRow w1.heap.size 62 1 (.slice (some ⟨w1.heap.size, 0, none⟩) m m) m (cellsW (bwC t 0) m)) := by
    have h := hrow
    rw [show (Value.agg #[.int .u64 0]).cells = #[.int .u64 0] from rfl, toList_madeCells_one, Nat.mul_one, cellsW_zero] at h
    exact h
  have hB0 : Hid (Below w1.heap.size w1 w2) := (Below.refl _ w1).grown hgrow (Nat.le_refl _) (fun j ej => by cases ej)
  clear hrow hgrow KS
  go_loopw [4, 5, 11] (fun _ _ k wr => ∃ (c : Nat), c ≤ n ∧ k = .int .i64 c ∧ Hid (wr.ownsRow w1.heap.size 62 1 (.slice (some ⟨w1.heap.size, 0, none⟩) m m) m (cellsW (bwC t c) m)) ∧ Hid (Below w1.heap.size w1 wr)) (fun _ _ k _ => ((n : Int) - intOf k).toNat)
  case atStart => exact ⟨0, Nat.zero_le _, rfl, hr0, hB0⟩
  case round =>
    clear hr0 hB0
    obtain ⟨c, hcl, rfl, hO, hB⟩ := hrel
    by_cases hlt : c < n
    · obtain ⟨x, hx⟩ := hat.out c hlt
      have hxm := hin.out c x hx
      obtain ⟨g, o, rfl, c1'⟩ := hcell.out c x hx
      have c1 := (hB.out.cell (p := ⟨g, o + c, none⟩) (cell_lt c1')).trans c1'
      have cu : wr.cell? ⟨w1.heap.size, x, none⟩ = some (.int .u64 ((bwC t c x : Nat) : Int)) := by rw [hO.out.cellAt x (by omega)]; exact cellsW_at _ hxm
      have hW := hide' (KW.out c x wr hlt hx)
      have hxm' : (x : Int) < (m : Int) := by omega
      have hlt1 : w1.heap.size < wr.heap.size := cell_lt cu
      have hS : Hid (cellsW (fun b => if b = x then bwC t (c + 1) x else bwC t c b) m = cellsW (bwC t (c + 1)) m) := cellsW_congr fun b _ => by
        by_cases e : b = x
        · rw [if_pos e, e]
        · rw [if_neg e, bwC, if_neg (by rw [hx]; intro h; cases h; exact e rfl)]
      clear hat hin hcell KW hx c1'
      generalize bwC t c x = q at *
      generalize bwC t (c + 1) x = q2 at *
      go_wp2_with (go_at_call 40; refine hW.out.mono ?_; rintro e w3 ⟨rfl, hb⟩; have hO3 := hide' (own_below hO.out hb (Nat.le_refl _)); have cu3 : w3.cell? ⟨w1.heap.size, x, none⟩ = some (.int .u64 (q : Int)) := ((hb.cell (p := ⟨w1.heap.size, x, none⟩) hlt1).trans cu); have fz3 := hO3.out.frozenAt x; have hB3 : Hid (Below w1.heap.size w1 w3) := (hB.out.trans (hb.mono hB.out.size)); clear hb)
      refine ⟨⟨c + 1, by omega, by go_num, ?_, hB3.out.setCell (Nat.le_refl _) _⟩, by simp [intOf]; omega⟩
      have h4 := (hO3.out.stored x (.int .u64 (q2 : Int))).1
      rw [cellsW_set, hS.out] at h4
      exact h4
    · obtain rfl : c = n := by omega
      clear hat hin hcell KW
      go_wp2
      go_ret
      exact ⟨_, rfl, hO, hB.out⟩
set_option maxRecDepth 100000 in
set_option maxHeartbeats 4000000 in
theorem blocksOfF (n : Nat) (T t : List Nat) (os oa : Option Addr) (cs cap : Nat) (w : World) (hs : RowI w (.slice os T.length cs) (ints T)) (hr : RowI w (.slice oa n cap) (ints t)) (htn : t.length = n) (hT : ∀ s ∈ T, s < n) (hTl : T.length ≤ 1000) :
    Calls Try.prog 23 #[.slice os T.length cs, .slice oa n cap] w fun e w' => e = .returned (.slice (some ⟨w.heap.size, 0, none⟩) T.length T.length) ∧ Hid (RowI w' (.slice (some ⟨w.heap.size, 0, none⟩) T.length T.length) (ints (T.map fun s => t.getD s 0))) ∧ Below w.heap.size w w' := by
  obtain ⟨i0, hi, hz0, hz1, hz2⟩ := info_parts info3
  have hcs : Hid (∀ i x : Nat, T[i]? = some x → ∃ g o, os = some ⟨g, o, none⟩ ∧ w.cell? ⟨g, o + i, none⟩ = some (.int .i64 (x : Int))) := by
    obtain ⟨_, _, e, _, hc⟩ := hs
    rw [ints_len] at e
    cases e
    exact fun i x hx => hc i x (ints_at hx)
  have hct : Hid (∀ i x : Nat, t[i]? = some x → ∃ g o, oa = some ⟨g, o, none⟩ ∧ w.cell? ⟨g, o + i, none⟩ = some (.int .i64 (x : Int))) := by
    obtain ⟨_, _, e, _, hc⟩ := hr
    rw [ints_len, htn] at e
    cases e
    exact fun i x hx => hc i x (ints_at hx)
  have hT' := hide' hT
  have htn' := hide' htn
  clear hs hr hT htn
  go_enter Try.func23, Try.ntmps23
  go_wp2_with (at_make; refine wpList_make_full _ rfl _ _ 23 rfl w.heap.size 3 i0 (.int .i64 0) 1 Try.underlying23 hi hz0 hz1 .i64 .i64 _ _ T.length rfl rfl rfl rfl (by rw [hz2]; omega) (by unfold maxLen; omega) (by simp) ?_; intro w2 hrow hgrow)
  have hr0 : Hid (w2.ownsRow w.heap.size 3 1 (.slice (some ⟨w.heap.size, 0, none⟩) T.length T.length) T.length (cellsI (ints ((T.take 0).map fun s => t.getD s 0)) ++ List.replicate (T.length - 0) (.int .i64 0))) := by
    have h := hrow
    rw [show (Value.int .i64 0).cells = #[.int .i64 0] from rfl, toList_madeCells_one, Nat.mul_one] at h
    show w2.ownsRow _ _ _ _ _ _
    simpa [cellsI, ints] using h
  have hB0 : Hid (Below w.heap.size w w2) := (Below.refl _ w).grown hgrow (Nat.le_refl _) (fun j ej => by cases ej)
  clear hrow hgrow
  go_loopw [6, 7, 13] (fun _ _ k wr => ∃ (c : Nat), c ≤ T.length ∧ k = .int .i64 c ∧ Hid (wr.ownsRow w.heap.size 3 1 (.slice (some ⟨w.heap.size, 0, none⟩) T.length T.length) T.length (cellsI (ints ((T.take c).map fun s => t.getD s 0)) ++ List.replicate (T.length - c) (.int .i64 0))) ∧ Hid (Below w.heap.size w wr)) (fun _ _ k _ => ((T.length : Int) - intOf k).toNat)
  case atStart => exact ⟨0, Nat.zero_le _, rfl, hr0, hB0⟩
  case round =>
    clear hr0 hB0
    obtain ⟨c, hcl, rfl, hO, hB⟩ := hrel
    by_cases hlt : c < T.length
    · obtain ⟨s, hx⟩ : ∃ x, T[c]? = some x := ⟨_, List.getElem?_eq_getElem hlt⟩
      have hsn := hT'.out s (List.mem_of_getElem? hx)
      obtain ⟨b, hb⟩ : ∃ x, t[s]? = some x := ⟨_, List.getElem?_eq_getElem (by rw [htn'.out]; exact hsn)⟩
      obtain ⟨g, o, rfl, c1'⟩ := hcs.out c s hx
      have c1 := (hB.out.cell (p := ⟨g, o + c, none⟩) (cell_lt c1')).trans c1'
      obtain ⟨g2, o2, rfl, c2'⟩ := hct.out s b hb
      have c2 := (hB.out.cell (p := ⟨g2, o2 + s, none⟩) (cell_lt c2')).trans c2'
      have hpl : (cellsI (ints ((T.take c).map fun s => t.getD s 0))).length = c := by simp [cellsI, ints]; omega
      have cz : wr.cell? ⟨w.heap.size, c, none⟩ = some (.int .i64 0) := by
        rw [hO.out.cellAt c (by omega), List.getElem?_append_right (by omega), hpl, Nat.sub_self, List.getElem?_replicate, if_pos (by omega)]
      have fz := hO.out.frozenAt c
      have h4 := (hO.out.stored c (.int .i64 (b : Int))).1
      rw [set_mid _ c T.length _ _ hpl hlt] at h4
      have hN : (T.take (c + 1)).map (fun s => t.getD s 0) = (T.take c).map (fun s => t.getD s 0) ++ [b] := by
        rw [take_snoc hx, List.map_append, List.map_singleton, List.getD_eq_getElem?_getD, hb]; rfl
      rw [← cellsI_snoc, ← hN] at h4
      have h4' := hide' h4
      have hsn' : (s : Int) < (n : Int) := by omega
      clear hcs hct hT' htn' hx hb c1' c2' hpl h4 hN hO
      go_wp2
      exact ⟨⟨c + 1, by omega, by go_num, h4', hB.out.setCell (Nat.le_refl _) _⟩, by simp [intOf]; omega⟩
    · obtain rfl : c = T.length := by omega
      rw [List.take_length, Nat.sub_self, List.replicate_zero, List.append_nil] at hO
      clear hcs hct hT' htn'
      go_wp2
      go_ret
      refine ⟨rfl, ?_, hB.out⟩
      have h5 : wr.ownsRow w.heap.size 3 1 (.slice (some ⟨w.heap.size, 0, none⟩) T.length T.length) (ints (T.map fun s => t.getD s 0)).length (cellsI (ints (T.map fun s => t.getD s 0))) := by
        rw [ints_len, List.length_map]; exact hO.out
      have h6 := RowI.of_owns h5
      exact h6
end Go.Proofs.Ytdiplbkgglgnfaa

/- The document's Of: the pattern of labels. -/
import Derived.Test.YtagkopmegfmhaaaEMath
namespace Go.Proofs.Ytagkopmegfmhaaa
open Go.RowKit
set_option maxRecDepth 100000 in
set_option maxHeartbeats 2000000 in
theorem refOf (n : Nat) (L : List Int) (oa : Option Addr) (cap : Nat) (w : World) (hr : RowI w (.slice oa n cap) L) (hln : L.length = n) (hn : n ≤ 25) :
    Calls Try.prog 7 #[.slice oa n cap] w fun e w' => e = .returned (.slice (some ⟨w.heap.size, 0, none⟩) n n) ∧ Hid (RowI w' (.slice (some ⟨w.heap.size, 0, none⟩) n n) (ints (pat L))) ∧ Hid (Below w.heap.size w w') := by
  obtain ⟨i0, hi, hz0, hz1, hz2⟩ := info_parts info3
  have hct : Hid (∀ (i : Nat) (x : Int), L[i]? = some x → ∃ g o, oa = some ⟨g, o, none⟩ ∧ w.cell? ⟨g, o + i, none⟩ = some (.int .i64 x)) := by
    obtain ⟨_, _, e, _, hc⟩ := hr
    rw [hln] at e
    cases e
    exact fun i x hx => hc i x hx
  have hat : Hid (∀ c, c < n → ∃ x, L[c]? = some x) := fun c hc => ⟨_, List.getElem?_eq_getElem (by omega)⟩
  have hdl : Hid (∀ i, dN L i ≤ i) := dN_le L
  have hend : Hid (∀ W : World, W.ownsRow w.heap.size 3 1 (.slice (some ⟨w.heap.size, 0, none⟩) n n) n (cellsZ (outR L n) n) → RowI W (.slice (some ⟨w.heap.size, 0, none⟩) n n) (ints (pat L))) := fun W h => by
    rw [outR_all hln] at h
    have hpl : (ints (pat L)).length = n := by rw [ints_len, pat_len, hln]
    have h2 : W.ownsRow w.heap.size 3 1 (.slice (some ⟨w.heap.size, 0, none⟩) n n) (ints (pat L)).length (cellsI (ints (pat L))) := by rw [hpl]; exact h
    exact RowI.of_owns h2
  have hnew : Hid (∀ i t, L[i]? = some t → (∀ k, k < i → L[k]? ≠ some t) → pN L i = dN L i ∧ dN L (i + 1) = dN L i + 1) := fun i t h1 h2 => new_place h1 h2
  have hold : Hid (∀ i k t, L[i]? = some t → k < i → L[k]? = some t → pN L k = pN L i ∧ dN L (i + 1) = dN L i) := fun i k t h1 h2 h3 => old_place h1 h2 h3
  clear hr hln
  go_enter Try.func7, Try.ntmps7
  go_wp2_with (at_make; refine wpList_make_full _ rfl _ _ 22 rfl w.heap.size 3 i0 (.int .i64 0) 1 Try.underlying22 hi hz0 hz1 .i64 .i64 _ _ n rfl rfl rfl rfl (by rw [hz2]; omega) (by unfold maxLen; omega) (by simp) ?_; intro w2 hrow hgrow)
  have hr0 : Hid (w2.ownsRow w.heap.size 3 1 (.slice (some ⟨w.heap.size, 0, none⟩) n n) n (cellsZ (outR L 0) n)) := by
    have h := hrow
    rw [show (Value.int .i64 0).cells = #[.int .i64 0] from rfl, toList_madeCells_one, Nat.mul_one, cellsZ_zero] at h
    have e : outR L 0 = fun _ => 0 := by funext a; simp [outR]
    rw [e]
    exact h
  have hB0 : Hid (Below w.heap.size w w2) := (Below.refl _ w).grown hgrow (Nat.le_refl _) (fun j ej => by cases ej)
  clear hrow hgrow
  go_wp2
  go_loopw [4, 5, 6] (fun nx k _ wr => ∃ (c : Nat), c ≤ n ∧ k = .int .i64 c ∧ nx = .int .i64 ((dN L c : Nat) : Int) ∧ Hid (wr.ownsRow w.heap.size 3 1 (.slice (some ⟨w.heap.size, 0, none⟩) n n) n (cellsZ (outR L c) n)) ∧ Hid (Below w.heap.size w wr)) (fun _ k _ _ => ((n : Int) - intOf k).toNat)
  case atStart => exact ⟨0, Nat.zero_le _, rfl, rfl, hr0, hB0⟩
  case round =>
    clear hr0 hB0
    obtain ⟨c, hcl, rfl, rfl, hO, hB⟩ := hrel
    by_cases hlt : c < n
    · obtain ⟨t, ht⟩ := hat.out c hlt
      obtain ⟨g, o, rfl, ct⟩ := hct.out c t ht
      have hgl : g < w.heap.size := cell_lt ct
      have hdc := hdl.out c
      have c0 : wr.cell? ⟨w.heap.size, c, none⟩ = some (.int .i64 (outR L c c)) := by rw [hO.out.cellAt c (by omega)]; exact cellsZ_at _ hlt
      have fz0 := hO.out.frozenAt c
      have hS0 := (hO.out.stored c (.int .i64 (-1))).1
      rw [cellsZ_set, inR_first] at hS0
      have hS0' := hide' hS0
      have hB1 := hide' (hB.out.setCell (Nat.le_refl _) (p := ⟨w.heap.size, c, none⟩) (.int .i64 (-1)))
      clear hO hS0 hdl hend hB
      generalize outR L c c = z0 at *
      go_wp2
      go_loopw [6] (fun k wr => ∃ (d : Nat), d ≤ c ∧ k = .int .i64 d ∧ Hid (wr.ownsRow w.heap.size 3 1 (.slice (some ⟨w.heap.size, 0, none⟩) n n) n (cellsZ (inR L c (xN L c d)) n)) ∧ Hid (Below w.heap.size w wr)) (fun k _ => ((c : Int) - intOf k).toNat)
      case atStart => exact ⟨0, Nat.zero_le _, rfl, hS0', hB1⟩
      case round =>
        clear hS0' hB1 c0 fz0
        obtain ⟨d, hdc', rfl, hO, hB⟩ := hrel
        by_cases hltd : d < c
        · obtain ⟨s, hs⟩ := hat.out d (by omega)
          obtain ⟨_, _, e, cs⟩ := hct.out d s hs
          cases e
          have c1 := (hB.out.cell (p := ⟨g, o + c, none⟩) hgl).trans ct
          have c2 := (hB.out.cell (p := ⟨g, o + d, none⟩) hgl).trans cs
          have hdn : d < n := by omega
          by_cases hst : s = t
          · subst hst
            obtain ⟨hp, _⟩ := hold.out c d s ht hltd hs
            have c3 : wr.cell? ⟨w.heap.size, d, none⟩ = some (.int .i64 ((pN L c : Nat) : Int)) := by
              rw [hO.out.cellAt d (by omega), cellsZ_at _ hdn, inR, if_neg (by omega), outR, if_pos hltd, hp]
            have c4 : wr.cell? ⟨w.heap.size, c, none⟩ = some (.int .i64 (inR L c (xN L c d) c)) := by rw [hO.out.cellAt c (by omega)]; exact cellsZ_at _ hlt
            have fz := hO.out.frozenAt c
            have hS := (hO.out.drew.stored c (.int .i64 ((pN L c : Nat) : Int))).1
            have hX : ((pN L c : Nat) : Int) = xN L c (d + 1) := by rw [xN, if_pos (by rw [hs, ht])]
            rw [cellsZ_set, inR_set] at hS
            have hS' : Hid ((wr.drew.setCell ⟨w.heap.size, c, none⟩ (.int .i64 ((pN L c : Nat) : Int))).ownsRow w.heap.size 3 1 (.slice (some ⟨w.heap.size, 0, none⟩) n n) n (cellsZ (inR L c (xN L c (d + 1))) n)) := by rw [← hX]; exact hS
            have hBs := hide' (hB.out.drew.setCell (Nat.le_refl _) (p := ⟨w.heap.size, c, none⟩) (.int .i64 ((pN L c : Nat) : Int)))
            clear hS hX hp hnew hold hct hat hO hs ht ct cs hB
            generalize pN L c = y at *
            generalize inR L c (xN L c d) c = z1 at *
            generalize dN L c = dd at *
            go_wp2
            go_region
            go_wp2
            exact ⟨⟨d + 1, by omega, by go_num, hS', hBs⟩, by simp [intOf]; omega⟩
          · have hne : (s == t) = false := by simpa using hst
            have hX : xN L c (d + 1) = xN L c d := by rw [xN, if_neg (by rw [hs, ht]; intro e; cases e; exact hst rfl)]
            have hO2 : Hid (wr.drew.ownsRow w.heap.size 3 1 (.slice (some ⟨w.heap.size, 0, none⟩) n n) n (cellsZ (inR L c (xN L c (d + 1))) n)) := by rw [hX]; exact hO.out.drew
            have hBs := hide' hB.out.drew
            clear hX hnew hold hct hat hO hs ht ct cs hB
            generalize dN L c = dd at *
            go_wp2
            go_region
            go_wp2
            exact ⟨⟨d + 1, by omega, by go_num, hO2, hBs⟩, by simp [intOf]; omega⟩
        · obtain rfl : d = c := by omega
          have c4 : wr.cell? ⟨w.heap.size, d, none⟩ = some (.int .i64 (xN L d d)) := by rw [hO.out.cellAt d (by omega), cellsZ_at _ hlt, inR, if_pos rfl]
          have fz := hO.out.frozenAt d
          rcases xN_val L d d with ⟨⟨j, hj, e⟩, hx⟩ | ⟨hno, hx⟩
          · obtain ⟨_, hdn⟩ := hold.out d j t ht hj (by rw [e, ht])
            have hdn' := hide' hdn
            have hO2 : Hid (wr.ownsRow w.heap.size 3 1 (.slice (some ⟨w.heap.size, 0, none⟩) n n) n (cellsZ (outR L (d + 1)) n)) := by rw [← inR_last, ← hx]; exact hO.out
            rw [hx] at c4
            have hge : ¬ ((pN L d : Nat) : Int) < 0 := by omega
            clear hnew hold hct hat hO ht ct e hx hdn
            generalize pN L d = y at *
            go_wp2
            exact ⟨⟨d + 1, by omega, by go_num, by rw [hdn'.out], hO2, hB⟩, by simp [intOf]; omega⟩
          · obtain ⟨hp, hdn⟩ := hnew.out d t ht (fun k hk h => hno k hk (by rw [h, ht]))
            have hdn' := hide' hdn
            rw [hx] at c4
            have hS := (hO.out.stored d (.int .i64 ((dN L d : Nat) : Int))).1
            rw [cellsZ_set, inR_set, ← hp, inR_last, hp] at hS
            have hS' := hide' hS
            have hBs := hide' (hB.out.setCell (Nat.le_refl _) (p := ⟨w.heap.size, d, none⟩) (.int .i64 ((dN L d : Nat) : Int)))
            clear hnew hold hct hat hO ht ct hx hdn hS hp hno hB
            generalize hdd : dN L d = dd at *
            clear hdd
            go_wp2
            exact ⟨⟨d + 1, by omega, by go_num, by rw [hdn'.out]; go_num, hS', hBs⟩, by simp [intOf]; omega⟩
    · obtain rfl : c = n := by omega
      have hE := hide' (hend.out _ hO.out)
      clear hat hct hnew hold hend hO
      go_wp2
      go_ret
      exact ⟨rfl, hE, hB⟩
end Go.Proofs.Ytagkopmegfmhaaa

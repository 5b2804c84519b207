/- The document's Ties. -/
import Derived.Test.YtcdlodmoiobpbaaROf
import Derived.Test.YtcdlodmoiobpbaaRSet
namespace Go.Proofs.Ytcdlodmoiobpbaa
open Go.RowKit
theorem cellsF_congr {A B : Nat → Nat} {m : Nat} (h : ∀ b, b < m → A b = B b) : cellsF A m = cellsF B m := by
  unfold cellsF
  refine List.map_congr_left fun b hb => ?_
  rw [h b (List.mem_range.1 hb)]
/-- Labels behind the first c rules of a round. -/
def rnd (F : Nat → Nat) (R : List Rl) (c : Nat) : Nat → Nat := (sms (R.take c)).foldl bnd F
theorem rnd_same {F : Nat → Nat} {R : List Rl} {c : Nat} {r : Rl} (h : R[c]? = some r) (hk : r.kind = 2) : rnd F R (c + 1) = bnd (rnd F R c) (r.steps.map Int.toNat) := by
  unfold rnd sms
  rw [List.take_add_one, h, show (some r).toList = [r] from rfl, List.filterMap_append, List.foldl_append]
  simp [hk]
theorem rnd_skip {F : Nat → Nat} {R : List Rl} {c : Nat} {r : Rl} (h : R[c]? = some r) (hk : ¬ r.kind = 2) : rnd F R (c + 1) = rnd F R c := by
  unfold rnd sms
  rw [List.take_add_one, h, show (some r).toList = [r] from rfl, List.filterMap_append, List.foldl_append]
  simp [hk]
set_option maxRecDepth 100000 in
set_option maxHeartbeats 2000000 in
theorem rTies (R : List Rl) (v : Value) (w : World) (hr : RowR w v R) (hR : R.length ≤ 1000) (n : Nat) (hg : rgt (n : Int) R = true) :
    Calls Try.prog 11 #[.int .i64 (n : Int), v] w fun e w' => ∃ g, e = .returned (.slice (some ⟨g, 0, none⟩) n n) ∧ Hid (RowI w' (.slice (some ⟨g, 0, none⟩) n n) (ints (tie n R))) ∧ Hid (Below w.heap.size w w') := by
  obtain ⟨i0, hi, hz0, hz1, hz2⟩ := info_parts info3
  obtain ⟨n', hn', hn12, hck⟩ := rgt_nat hg
  have : n' = n := by omega
  subst this
  obtain ⟨oa, cap, rfl, hcap, hc⟩ := hr
  have hc' := hide' hc
  have hat : Hid (∀ c, c < R.length → ∃ r, R[c]? = some r) := fun c hc => ⟨_, List.getElem?_eq_getElem hc⟩
  have KB : Hid (∀ (W : World) (F : Nat → Nat) (r : Rl) (os : Option Addr) (cs : Nat), r ∈ R → r.kind = 2 → RowI w (.slice os r.steps.length cs) r.steps → Below w.heap.size w W → W.ownsRow w.heap.size 3 1 (.slice (some ⟨w.heap.size, 0, none⟩) n' n') n' (cellsF F n') → Calls Try.prog 27 #[.slice (some ⟨w.heap.size, 0, none⟩) n' n', .slice os r.steps.length cs] W fun e w' => e = .returned (.tuple #[]) ∧ Hid (w'.ownsRow w.heap.size 3 1 (.slice (some ⟨w.heap.size, 0, none⟩) n' n') n' (cellsF (bnd F (r.steps.map Int.toNat)) n')) ∧ Hid (Below w.heap.size W w')) := fun W F r os cs hr hk h1 h2 h3 => by
    obtain ⟨T, hT, hT2, hTlt, hTn, hTl⟩ := chk_nat (hck r hr)
    rw [hT2, ← hTl]
    rw [← hTl, hT] at h1
    obtain ⟨_, _, e, _, hcc⟩ := h1
    rw [ints_len] at e
    cases e
    have hpos : 0 < T.length := by
      have h := hck r hr
      unfold chk numF at h
      rw [if_pos (Or.inr hk), hTl.symm] at h
      simp at h
      omega
    exact rBind w.heap.size w.heap.size n' F T os cs W h3 (fun i t ht => by
      obtain ⟨g, o, e1, e2⟩ := hcc i t (ints_at ht)
      exact ⟨g, o, e1, cell_lt e2, (h2.cell (p := ⟨g, o + i, none⟩) (cell_lt e2)).trans e2⟩) hTlt hpos (by omega)
  have KO : Hid (∀ W : World, W.ownsRow w.heap.size 3 1 (.slice (some ⟨w.heap.size, 0, none⟩) n' n') n' (cellsF (labN (sms R) n') n') → Calls Try.prog 28 #[.slice (some ⟨w.heap.size, 0, none⟩) n' n'] W fun e w' => e = .returned (.slice (some ⟨W.heap.size, 0, none⟩) n' n') ∧ Hid (RowI w' (.slice (some ⟨W.heap.size, 0, none⟩) n' n') (ints (tie n' R))) ∧ Hid (Below W.heap.size W w')) := fun W h => by
    rw [cellsF_ints] at h
    have hl : (dlab n' R).length = n' := by rw [dlab, List.length_map, List.length_range]
    have h1 : W.ownsRow w.heap.size 3 1 (.slice (some ⟨w.heap.size, 0, none⟩) n' n') (ints (dlab n' R)).length (cellsI (ints (dlab n' R))) := by rw [ints_len, hl]; exact h
    have h2 := rOf n' (dlab n' R) (some ⟨w.heap.size, 0, none⟩) n' W (RowI.of_owns h1) hl (by omega)
    rwa [dlab_pat hck] at h2
  have hS1 : Hid (∀ F c r, R[c]? = some r → r.kind = 2 → rnd F R (c + 1) = bnd (rnd F R c) (r.steps.map Int.toNat)) := fun F c r h hk => rnd_same h hk
  have hS2 : Hid (∀ F c r, R[c]? = some r → ¬ r.kind = 2 → rnd F R (c + 1) = rnd F R c) := fun F c r h hk => rnd_skip h hk
  have hRE : Hid (∀ k, rnd (labN (sms R) k) R R.length = labN (sms R) (k + 1)) := fun k => by unfold rnd; rw [List.take_length]; rfl
  have hR0 : Hid (∀ F, rnd F R 0 = F) := fun F => rfl
  have hfill : Hid (cellsF (fun a => if a < n' then a else 0) n' = cellsF (labN (sms R) 0) n') := cellsF_congr fun b hb => by rw [if_pos hb]; rfl
  clear hc hcap hck hg
  generalize labN (sms R) = lb at *
  go_enter Try.func11, Try.ntmps11
  go_wp2_with (at_make; refine wpList_make_full _ rfl _ _ 23 rfl w.heap.size 3 i0 (.int .i64 0) 1 Try.underlying23 hi hz0 hz1 .i64 .i64 _ _ n' rfl rfl rfl rfl (by rw [hz2]; omega) (by unfold maxLen; omega) (by simp) ?_; intro w2 hrow hgrow)
  have hr0 : Hid (w2.ownsRow w.heap.size 3 1 (.slice (some ⟨w.heap.size, 0, none⟩) n' n') n' (cellsF (fun a => if a < 0 then a else 0) n')) := by
    have h := hrow
    rw [show (Value.int .i64 0).cells = #[.int .i64 0] from rfl, toList_madeCells_one, Nat.mul_one, cellsZ_zero] at h
    have e : cellsF (fun a => if a < 0 then a else 0) n' = cellsZ (fun _ => 0) n' := by
      unfold cellsF cellsZ
      refine List.map_congr_left fun b hb => ?_
      simp
    rw [e]
    exact h
  have hB0 : Hid (Below w.heap.size w w2) := (Below.refl _ w).grown hgrow (Nat.le_refl _) (fun j ej => by cases ej)
  clear hrow hgrow
  go_wp2
  go_loopw [6] (fun k wr => ∃ (c : Nat), c ≤ n' ∧ k = .int .i64 c ∧ Hid (wr.ownsRow w.heap.size 3 1 (.slice (some ⟨w.heap.size, 0, none⟩) n' n') n' (cellsF (fun a => if a < c then a else 0) n')) ∧ Hid (Below w.heap.size w wr)) (fun k _ => ((n' : Int) - intOf k).toNat)
  case atStart => exact ⟨0, Nat.zero_le _, rfl, hr0, hB0⟩
  case round =>
    clear hr0 hB0
    obtain ⟨c, hcl, rfl, hO, hB⟩ := hrel
    by_cases hlt : c < n'
    · have c0 : wr.cell? ⟨w.heap.size, c, none⟩ = some (.int .i64 (((if c < c then c else 0 : Nat) : Nat) : Int)) := by rw [hO.out.cellAt c (by omega)]; exact cellsF_at _ hlt
      have fz := hO.out.frozenAt c
      have hS := (hO.out.stored c (.int .i64 (c : Int))).1
      rw [cellsF_set] at hS
      have e : (fun b => if b = c then c else if b < c then b else 0) = fun a => if a < c + 1 then a else 0 := by
        funext b
        by_cases e : b = c
        · subst e; rw [if_pos rfl, if_pos (by omega)]
        · rw [if_neg e]
          by_cases h : b < c
          · rw [if_pos h, if_pos (by omega)]
          · rw [if_neg h, if_neg (by omega)]
      rw [e] at hS
      have hS' := hide' hS
      clear hS e hO hc' hat KB KO hS1 hS2 hRE hR0 hfill
      generalize (if c < c then c else 0 : Nat) = z at *
      go_wp2
      exact ⟨⟨c + 1, by omega, by go_num, hS', hB.out.setCell (Nat.le_refl _) _⟩, by simp [intOf]; omega⟩
    · obtain rfl : c = n' := by omega
      have hO' := hide' hO.out
      rw [hfill.out] at hO'
      clear hO hfill
      go_wp2
      go_loopw [7, 8] (fun k _ wr => ∃ (q : Nat), q ≤ c ∧ k = .int .i64 q ∧ Hid (wr.ownsRow w.heap.size 3 1 (.slice (some ⟨w.heap.size, 0, none⟩) c c) c (cellsF (lb q) c)) ∧ Hid (Below w.heap.size w wr)) (fun k _ _ => ((c : Int) - intOf k).toNat)
      case atStart => exact ⟨0, Nat.zero_le _, rfl, hO', hB⟩
      case round =>
        clear hO' hB
        obtain ⟨q, hql, rfl, hO, hB⟩ := hrel
        by_cases hlt2 : q < c
        · have hst : Hid (wr.ownsRow w.heap.size 3 1 (.slice (some ⟨w.heap.size, 0, none⟩) c c) c (cellsF (rnd (lb q) R 0) c)) := by rw [hR0.out]; exact hO.out
          have hEq := hide' (hRE.out q)
          clear hO hRE KO hR0
          go_wp2
          go_loopw [8] (fun k wr => ∃ (d : Nat), d ≤ R.length ∧ k = .int .i64 d ∧ Hid (wr.ownsRow w.heap.size 3 1 (.slice (some ⟨w.heap.size, 0, none⟩) c c) c (cellsF (rnd (lb q) R d) c)) ∧ Hid (Below w.heap.size w wr)) (fun k _ => ((R.length : Int) - intOf k).toNat)
          case atStart => exact ⟨0, Nat.zero_le _, rfl, hst, hB⟩
          case round =>
            clear hst hB
            obtain ⟨d, hdl, rfl, hO, hB⟩ := hrel
            by_cases hlt3 : d < R.length
            · obtain ⟨r, hx⟩ := hat.out d hlt3
              obtain ⟨g, o, sv, rfl, c1', c2', c3', hs⟩ := hc'.out d r hx
              have c1 := (hB.out.cell (p := ⟨g, o + d * 3, none⟩) (cell_lt c1')).trans c1'
              have c3 := (hB.out.cell (p := ⟨g, o + d * 3 + 2, none⟩) (cell_lt c3')).trans c3'
              obtain ⟨os, cs, rfl⟩ := hs.shape
              by_cases hk : r.kind = 2
              · have hH := hide' (KB.out wr _ r os cs (List.mem_of_getElem? hx) hk hs hB.out hO.out)
                rw [← hS1.out (lb q) d r hx hk] at hH
                rw [hk] at c1
                clear KB hc' c1' c2' c3' hx hS1 hS2 hat hs hO hk
                generalize r.steps.length = ql at *
                go_wp2_with (go_at_call 27; refine hH.out.mono ?_; rintro e w3 ⟨rfl, hO3, hb3⟩)
                exact ⟨⟨d + 1, by omega, by go_num, hO3, hB.out.trans hb3.out⟩, by simp [intOf]; omega⟩
              · have hd : (r.kind == 2) = false := by simpa using hk
                have hO3 : Hid (wr.ownsRow w.heap.size 3 1 (.slice (some ⟨w.heap.size, 0, none⟩) c c) c (cellsF (rnd (lb q) R (d + 1)) c)) := by rw [hS2.out (lb q) d r hx hk]; exact hO.out
                clear KB hc' c1' c2' c3' c3 hx hS1 hS2 hat hs hO hk
                generalize r.kind = kd at *
                go_wp2
                exact ⟨⟨d + 1, by omega, by go_num, hO3, hB⟩, by simp [intOf]; omega⟩
            · obtain rfl : d = R.length := by omega
              rw [hEq.out] at hO
              clear KB hc' hS1 hS2 hat hEq
              go_wp2
              exact ⟨⟨q + 1, by omega, by go_num, hO, hB⟩, by simp [intOf]; omega⟩
        · obtain rfl : q = c := by omega
          have hH := hide' (KO.out wr hO.out)
          clear KB KO hc' hS1 hS2 hat hRE hR0 hO
          go_wp2_with (go_at_call 28; refine hH.out.mono ?_; rintro e w3 ⟨rfl, hO3, hb3⟩)
          go_ret
          exact ⟨_, rfl, hO3, hB.out.trans (hb3.out.mono hB.out.size)⟩
end Go.Proofs.Ytcdlodmoiobpbaa

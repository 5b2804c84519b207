/- Holds, Broken, wakes: what they answer. -/
import Derived.Test.YtfajgbdnfphajaaREarly
namespace Go.Proofs.Ytfajgbdnfphajaa
open Go.RowKit
set_option maxRecDepth 100000 in
set_option maxHeartbeats 1000000 in
theorem holdsF (r : Rl) (sv lv : Value) (L : List Int) (w : World) (hs : RowI w sv r.steps) (hl : RowI w lv L) (hm : r.steps.length ≤ 1000) :
    Calls Try.prog 41 #[rv r sv, lv] w fun e w' => e = .returned (.bool (holds r L)) ∧ Below w.heap.size w w' := by
  have KE : Hid (∀ W, Below w.heap.size w W → Calls Try.prog 45 #[rv r sv, .int .i64 L.length, lv] W fun e w' => e = .returned (.bool (holds r L)) ∧ Below W.heap.size W w') := fun W hW => earlyF r L.length sv lv L W (hs.below hW (Nat.le_refl _)) (hl.below hW (Nat.le_refl _)) hm
  obtain ⟨oa, ca, rfl, _, _⟩ := hs
  obtain ⟨ob, cb, rfl, _, _⟩ := hl
  unfold rv at KE ⊢
  have hB : Hid (Below w.heap.size w (w.alloc (.cells #[.int .i64 r.kind, .int .i64 r.k, .slice oa r.steps.length ca] 62))) := (Below.refl _ w).alloc (Nat.le_refl _) _
  go_enter Try.func41, Try.ntmps41
  go_wp2_with (go_at_call 45; refine (KE.out _ hB.out).mono ?_; rintro e w1 ⟨rfl, hb1⟩)
  go_ret
  exact ⟨rfl, hB.out.trans (hb1.mono hB.out.size)⟩
/-- The places, up to c, of the rules that are broken. -/
def brk (R : List Rl) (L : List Int) (c : Nat) : List Nat := (List.range c).filter fun i => match R[i]? with | some r => !holds r L | none => false
theorem brk_all (R : List Rl) (L : List Int) : broken R L = brk R L R.length := rfl
theorem brk_snoc (R : List Rl) (L : List Int) {c : Nat} {r : Rl} (h : R[c]? = some r) : brk R L (c + 1) = brk R L c ++ if holds r L then [] else [c] := by
  unfold brk
  rw [List.range_succ, List.filter_append]
  congr 1
  rw [List.filter_cons, h]
  cases hh : holds r L <;> simp [hh]
theorem brk_len (R : List Rl) (L : List Int) (c : Nat) : (brk R L c).length ≤ c := by
  refine Nat.le_trans (List.length_filter_le _ _) ?_
  simp
set_option maxRecDepth 100000 in
set_option maxHeartbeats 4000000 in
theorem brokenF (R : List Rl) (v lv : Value) (L : List Int) (w : World) (hr : RowR w v R) (hl : RowI w lv L) (hR : R.length ≤ 1000) (hm : ∀ r ∈ R, r.steps.length ≤ 1000) :
    Calls Try.prog 28 #[v, lv] w fun e w' => ∃ v', e = .returned v' ∧ w'.ownsRow w.heap.size 3 1 v' (broken R L).length (cellsI (ints (broken R L))) ∧ Below w.heap.size w w' := by
  obtain ⟨i0, hi, hz0, hz1, hz2⟩ := info_parts info3
  have KH : Hid (∀ r sv W, r ∈ R → RowI w sv r.steps → Below w.heap.size w W → Calls Try.prog 41 #[rv r sv, lv] W fun e w' => e = .returned (.bool (holds r L)) ∧ Below W.heap.size W w') := fun r sv W hr hs hW => holdsF r sv lv L W (hs.below hW (Nat.le_refl _)) (hl.below hW (Nat.le_refl _)) (hm r hr)
  obtain ⟨oa, cap, rfl, hcap, hc⟩ := hr
  obtain ⟨ob, cb, rfl, _, _⟩ := hl
  have hc' := hide' hc
  clear hc hcap hm
  rw [brk_all]
  go_enter Try.func28, Try.ntmps28
  go_wp2
  go_loopw [5, 6, 7, 10] (fun v _ _ k wr => ∃ (c : Nat), c ≤ R.length ∧ k = .int .i64 c ∧ Hid (wr.ownsRow w.heap.size 3 1 v (brk R L c).length (cellsI (ints (brk R L c)))) ∧ Hid (Below w.heap.size w wr)) (fun _ _ _ k _ => ((R.length : Int) - intOf k).toNat)
  case atStart => exact ⟨0, Nat.zero_le _, rfl, World.ownsRow_nil _ _ _ _, Below.refl _ _⟩
  case round =>
    obtain ⟨c, hcl, rfl, hO, hB⟩ := hrel
    by_cases hlt : c < R.length
    · obtain ⟨r, hx⟩ : ∃ x, R[c]? = some x := ⟨_, List.getElem?_eq_getElem hlt⟩
      obtain ⟨g, o, sv, rfl, c1', c2', c3', hs⟩ := hc'.out c r hx
      have c1 := (hB.out.cell (p := ⟨g, o + c * 3, none⟩) (cell_lt c1')).trans c1'
      have c2 := (hB.out.cell (p := ⟨g, o + c * 3 + 1, none⟩) (cell_lt c2')).trans c2'
      have c3 := (hB.out.cell (p := ⟨g, o + c * 3 + 2, none⟩) (cell_lt c3')).trans c3'
      have hN := hide' (brk_snoc R L hx)
      have hbl := brk_len R L c
      have hH := hide' (KH.out r sv (wr.alloc (.cells #[.int .i64 r.kind, .int .i64 r.k, sv] 62)) (List.mem_of_getElem? hx) hs (hB.out.alloc hB.out.size _))
      have hB1 : Hid (Below wr.heap.size wr (wr.alloc (.cells #[.int .i64 r.kind, .int .i64 r.k, sv] 62))) := (Below.refl _ wr).alloc (Nat.le_refl _) _
      obtain ⟨os, cs, rfl, _, _⟩ := hs
      unfold rv at hH
      clear KH hc' c1' c2' c3' hx
      generalize r.steps.length = q at *
      generalize r.kind = kd at *
      generalize r.k = kk at *
      cases hh : holds r L with
      | true =>
        rw [hh] at hH
        rw [hh, if_pos rfl, List.append_nil] at hN
        clear hh
        go_wp2_with (go_at_call 41; refine hH.out.mono ?_; rintro e w1 ⟨rfl, hb1⟩)
        have hb2 : Below wr.heap.size wr w1 := hB1.out.trans (hb1.mono hB1.out.size)
        exact ⟨⟨c + 1, by omega, by go_num, by rw [hN.out]; exact own_below hO.out hb2 (Nat.le_refl _), hB.out.trans (hb2.mono hB.out.size)⟩, by simp [intOf]; omega⟩
      | false =>
        rw [hh] at hH
        rw [hh, if_neg (by decide)] at hN
        clear hh
        generalize hql : (brk R L c).length = ql at *
        go_wp2_with (first | (go_at_call 41; refine hH.out.mono ?_; rintro e w1 ⟨rfl, hb1⟩; have hb2 : Hid (Below wr.heap.size wr w1) := hB1.out.trans (hb1.mono hB1.out.size); have hO1 := hide' (own_below hO.out hb2.out (Nat.le_refl _)); clear hb1) | (at_builtin; refine wpList_append_own _ rfl _ _ 24 rfl w.heap.size 3 i0 (.int .i64 0) 1 8 Try.underlying24 hi hz0 hz1 hz2 rfl (by decide) _ ql (cellsI (ints (brk R L c))) rfl (hO1.out.alloc _) ⟨w1.heap.size, 0, none⟩ 1 1 [.int .i64 (c : Int)] rfl rfl (World.news_of_block (cs := #[.int .i64 (c : Int)]) (heap_new _ _)) (by simp [Value.oneCell']) (by unfold maxLen; omega) (by omega) (by have := hB.out.size; have := hb2.out.size; simp; omega) ?_; intro v1 w2 hown2 hgrow2 _; have hO2 := hide' hown2; have hG2 := hide' hgrow2; clear hown2 hgrow2))
        have hb3 : Below w.heap.size w w1 := hB.out.trans (hb2.out.mono hB.out.size)
        refine ⟨⟨c + 1, by omega, by go_num, ?_, (hb3.alloc hb3.size _).grown hG2.out (by simp; exact Nat.le_trans hb3.size (Nat.le_succ _)) (fun j ej => own_ge' hO1.out ej)⟩, by simp [intOf]; omega⟩
        rw [hN.out, cellsI_snoc, List.length_append, hql]
        exact hO2.out
    · obtain rfl : c = R.length := by omega
      clear hc' KH
      go_wp2
      go_ret
      exact ⟨_, rfl, hO.out, hB.out⟩
theorem rowL (w : World) (cs : Array Value) (l : List Int) (h : cs.toList = cellsI l) : RowI (w.alloc (.cells cs 3)) (.slice (some ⟨w.heap.size, 0, none⟩) l.length l.length) l := by
  refine ⟨_, _, rfl, ⟨Nat.le_refl _, fun e => by cases e⟩, fun i z hz => ⟨w.heap.size, 0, rfl, ?_⟩⟩
  have : cs[i]? = some (Value.int .i64 z) := by
    rw [← Array.getElem?_toList, h]
    simp [cellsI, hz]
  have e : (w.alloc (.cells cs 3)).heap[w.heap.size]? = some (.cells cs 3) := heap_new w _
  rw [Nat.zero_add, World.cell?]
  show (match (w.alloc (.cells cs 3)).heap[w.heap.size]? with | some (.cells c _ _) => c[i]? | _ => none) = _
  rw [e]
  exact this
end Go.Proofs.Ytfajgbdnfphajaa

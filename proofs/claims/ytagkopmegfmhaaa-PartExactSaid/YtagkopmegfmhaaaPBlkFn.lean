/- Blocks: what it answers. -/
import Derived.Test.YtagkopmegfmhaaaPBlk
namespace Go.Proofs.Ytagkopmegfmhaaa
open Go.RowKit
theorem tabs_start {B : Nat} {w : World} {gt m : Nat} (h : w.ownsRow B 22 1 (.slice (some ⟨gt, 0, none⟩) m m) m (List.replicate m (.slice none 0 0))) : Tab B w gt m (List.replicate m (.slice none 0 0)) (plc []) := by
  have hn : ∀ (j : Nat) (v : Value), (List.replicate m (Value.slice none 0 0))[j]? = some v → v = .slice none 0 0 := fun j v hv => List.eq_of_mem_replicate (List.mem_of_getElem? hv)
  refine ⟨h, fun j v hv => ?_, fun j k v u b hv _ h1 _ => ?_⟩
  · rw [hn j v hv]; exact World.ownsRow_nil w _ _ _
  · rw [hn j v hv] at h1; cases h1
set_option maxRecDepth 100000 in
set_option maxHeartbeats 2000000 in
theorem blocksP (n m : Nat) (l : List Nat) (v : Value) (w : World) (hr : RowI w v (ints l)) (hln : l.length = n) (hn : n ≤ 25) (hl : Leg 0 l) (hm : blks 0 l = m) :
    Calls Try.prog 28 #[v] w fun e w' => ∃ gt vs, e = .returned (.slice (some ⟨gt, 0, none⟩) m m) ∧ Tab w.heap.size w' gt m vs (plc l) ∧ Below w.heap.size w w' := by
  obtain ⟨i0, hi, hz0, hz1, hz2⟩ := info_parts info3
  obtain ⟨i1, hj, hy0, hy1, hy2⟩ := info_parts infoL
  have hle := blks_leg hl
  have hm25 : m ≤ 25 := by omega
  have KL := hide' (legalT l v w hr (by omega) hl)
  have KB : Hid (Calls Try.prog 46 #[v] w fun e w' => e = .returned (.int .i64 m) ∧ w' = w) := by
    have := blocksIn l v w hr (by omega) (fun z hz => by have := lt_blks (b := 0) hz; omega)
    rwa [hm] at this
  have hin : Hid (∀ (c x : Nat), l[c]? = some x → x < m) := fun c x hx => by have := lt_blks (b := 0) (List.mem_of_getElem? hx); omega
  obtain ⟨oa, ca, rfl, ha⟩ := rowI_shape' hr hln
  have ha' := hide' ha
  have hln' := hide' hln
  clear ha hr hln hl hm hle
  go_enter Try.func28, Try.ntmps28
  go_wp2_with (first | (go_at_call 23; refine KL.out.mono ?_; rintro e w1 ⟨rfl, rfl⟩) | (go_at_call 46; refine KB.out.mono ?_; rintro e w1 ⟨rfl, rfl⟩) | (at_make; refine wpList_make_full _ rfl _ _ 51 rfl w1.heap.size 22 i1 (.slice none 0 0) 1 Try.underlying51 hj hy0 hy1 .i64 .i64 _ _ m rfl rfl rfl rfl (by rw [hy2]; omega) (by unfold maxLen; omega) (by simp) ?_; intro w2 hrow hgrow))
  have hT0 : Tab w1.heap.size w2 w1.heap.size m (List.replicate m (.slice none 0 0)) (plc (l.take 0)) := by
    have h := hrow
    rw [show (Value.slice none 0 0).cells = #[.slice none 0 0] from rfl, toList_madeCells_one, Nat.mul_one] at h
    exact tabs_start h
  have hB0 : Below w1.heap.size w1 w2 := (Below.refl _ w1).grown hgrow (Nat.le_refl _) (fun j ej => by cases ej)
  clear hrow hgrow KL KB
  go_loopw [14] (fun k wr => ∃ (c : Nat) (vs : List Value), c ≤ n ∧ k = .int .i64 c ∧ Tab w1.heap.size wr w1.heap.size m vs (plc (l.take c)) ∧ Below w1.heap.size w1 wr) (fun k _ => ((n : Int) - intOf k).toNat)
  case atStart => exact ⟨0, _, Nat.zero_le _, rfl, hT0, hB0⟩
  case round =>
    clear hT0 hB0
    obtain ⟨c, vs, hc, rfl, hT, hB⟩ := hrel
    by_cases hlt : c < n
    · obtain ⟨x, hx⟩ : ∃ x, l[c]? = some x := ⟨_, List.getElem?_eq_getElem (by have := hln'.out; omega)⟩
      have hxm := hin.out c x hx
      obtain ⟨g, o, rfl, cx0⟩ := ha'.out c x hx
      have cx := (hB.cell (p := ⟨g, o + c, none⟩) (cell_lt cx0)).trans cx0
      obtain ⟨u, hu⟩ : ∃ u, vs[x]? = some u := ⟨_, List.getElem?_eq_getElem (by rw [hT.len]; exact hxm)⟩
      have cu : wr.cell? ⟨w1.heap.size, x, none⟩ = some u := by rw [hT.outer.cellAt x (by omega)]; exact hu
      have hT1 := hT.alloc (.cells #[.int .i64 (c : Int)] 3)
      have hI := hT1.inner x u hu
      have hpl := plc_len (l.take c) x
      rw [List.length_take] at hpl
      have hne := hT1.ne hu
      have hlen : Hid ((l.take c).length = c) := by show _ = _; rw [List.length_take]; have := hln'.out; omega
      have htk := hide' (take_snoc hx)
      have hu' := hide' hu
      have hT' := hide' hT1
      have hne' := hide' hne
      have hge : Hid (∀ j, u.ownBlock = some j → w1.heap.size ≤ j) := fun j ej => own_ge hI ej
      generalize hq : (plc (l.take c) x).length = q at *
      clear hx cx0 hu hT hT1 hne
      go_wp2_with (at_builtin; refine wpList_append_lies _ rfl _ _ 22 rfl w1.heap.size 3 i0 (.int .i64 0) 1 8 Try.underlying22 hi hz0 hz1 hz2 rfl (by decide) u q _ rfl hI ⟨wr.heap.size, 0, none⟩ 1 1 [.int .i64 (c : Int)] rfl rfl (World.news_of_block (cs := #[.int .i64 (c : Int)]) (heap_new _ _)) (by simp [Value.oneCell']) (by decide) (by unfold maxLen; omega) (by omega) (by have := hB.size; simp; omega) _ rfl ?_; intro g2 cap2 w3 hown3 hgrow3 hat3 hlt3; have hO3 := hT'.out.outer.kept hgrow3 (.inr fun e => hne'.out e.symm); have cz3 : w3.cell? ⟨w1.heap.size, x, none⟩ = some u := (by rw [hO3.cellAt x (by omega)]; exact hu'.out); have fz3 := hO3.frozenAt x)
      subst hq
      have hS := (hT'.out.step hxm hu'.out hown3 hgrow3 hat3).congr (rows' := plc (l.take (c + 1))) fun j _ => by
        rw [htk.out, plc_snoc, hlen.out]
        by_cases e : j = x
        · subst e; rw [if_pos rfl, if_pos rfl]
        · rw [if_neg e, if_neg (Ne.symm e), List.append_nil]
      have hB1 := hB.alloc hB.size (.cells #[.int .i64 (c : Int)] 3)
      exact ⟨⟨c + 1, _, by omega, by go_num, hS, (hB1.grown hgrow3 hB1.size hge.out).setCell (Nat.le_refl _) _⟩, by simp [intOf]; omega⟩
    · obtain rfl : c = n := by omega
      rw [List.take_of_length_le (by rw [hln'.out]; exact Nat.le_refl _)] at hT
      go_wp2
      go_ret
      exact ⟨_, _, rfl, hT, hB⟩
end Go.Proofs.Ytagkopmegfmhaaa

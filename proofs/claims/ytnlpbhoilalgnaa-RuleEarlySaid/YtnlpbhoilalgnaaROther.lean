/- other: a label that is none of these; append of one label. -/
import Derived.Test.YtnlpbhoilalgnaaRSet
namespace Go.Proofs.Ytnlpbhoilalgnaa
open Go.RowKit
theorem nodup_le : ∀ (A l : List Int), A.Nodup → (∀ x ∈ A, x ∈ l) → A.length ≤ l.length
  | [], _, _, _ => Nat.zero_le _
  | a :: A, l, hn, hs => by
    obtain ⟨h1, h2⟩ := List.nodup_cons.1 hn
    have ha : a ∈ l := hs a List.mem_cons_self
    have := nodup_le A (l.erase a) h2 fun x hx => (List.mem_erase_of_ne (fun e => h1 (by rw [← e]; exact hx))).2 (hs x (List.mem_cons_of_mem _ hx))
    rw [List.length_erase_of_mem ha] at this
    have hp : 0 < l.length := List.length_pos_of_mem ha
    rw [List.length_cons]; omega
theorem first_le {l : List Int} {c : Nat} (h : ∀ k : Nat, k < c → (k : Int) ∈ l) : c ≤ l.length := by
  have := nodup_le ((List.range c).map fun k : Nat => (k : Int)) l ?_ ?_
  · simpa using this
  · rw [List.nodup_iff_pairwise_ne, List.pairwise_map]
    refine List.Pairwise.imp ?_ (List.nodup_range (n := c))
    intro a b hab; omega
  · intro x hx
    obtain ⟨k, hk, rfl⟩ := List.mem_map.1 hx
    exact h k (List.mem_range.1 hk)
set_option maxRecDepth 100000 in
set_option maxHeartbeats 2000000 in
theorem otherF (l : List Int) (v : Value) (w : World) (hr : RowI w v l) (hn : l.length ≤ 1000) :
    Calls Try.prog 20 #[v] w fun e w' => ∃ z : Nat, e = .returned (.int .i64 (z : Int)) ∧ Hid ((z : Int) ∉ l) ∧ w' = w := by
  obtain ⟨oa, cap, rfl, _, hc⟩ := hr
  have hc' := hide' hc
  clear hc
  go_enter Try.func20, Try.ntmps20
  go_wp2
  go_loop [3, 4, 5] (fun k _ _ => ∃ c : Nat, k = .int .i64 c ∧ Hid (∀ j : Nat, j < c → (j : Int) ∈ l) ∧ c ≤ l.length) (fun k _ _ => ((l.length : Int) + 1 - intOf k).toNat)
  case atStart => exact ⟨0, rfl, fun j hj => by omega, Nat.zero_le _⟩
  case round =>
    obtain ⟨c, rfl, hall, hcl⟩ := hrel
    go_wp2
    go_loop [4, 5] (fun ok k => ∃ d : Nat, d ≤ l.length ∧ k = .int .i64 d ∧ ok = .bool (decide ((c : Int) ∉ l.take d))) (fun _ k => ((l.length : Int) - intOf k).toNat)
    case atStart => exact ⟨0, Nat.zero_le _, rfl, by simp⟩
    case round =>
      obtain ⟨d, hdl, rfl, rfl⟩ := hrel
      by_cases hlt : d < l.length
      · obtain ⟨x, hx⟩ : ∃ x, l[d]? = some x := ⟨_, List.getElem?_eq_getElem hlt⟩
        obtain ⟨g, o, rfl, cx⟩ := hc'.out d x hx
        have hMem : Hid ((c : Int) ∈ l.take (d + 1) ↔ ((c : Int) ∈ l.take d ∨ (c : Int) = x)) := by
          show _ ↔ _
          rw [List.take_add_one, hx, show (some x).toList = [x] from rfl]; simp
        clear hc' hx hall
        by_cases hfi : (c : Int) ∈ l.take d
        · have hd : decide ((c : Int) ∉ l.take d) = false := by simpa using hfi
          have hd2 : Hid (decide ((c : Int) ∉ l.take (d + 1)) = false) := by
            show _ = _
            simp only [decide_not, Bool.not_eq_false', decide_eq_true_iff]
            exact hMem.out.2 (.inl hfi)
          rw [hd]
          clear hfi hd hMem
          go_wp2
          exact ⟨⟨d + 1, by omega, by go_num, by rw [hd2.out]⟩, by simp [intOf]; omega⟩
        · have hd : decide ((c : Int) ∉ l.take d) = true := by simpa using hfi
          have hd2 : Hid (decide ((c : Int) ∉ l.take (d + 1)) = (x != (c : Int))) := by
            show _ = _
            rw [Bool.eq_iff_iff]
            simp only [decide_eq_true_iff, bne_iff_ne]
            rw [hMem.out]
            exact ⟨fun h e => h (.inr e.symm), fun h e => e.elim hfi fun e => h e.symm⟩
          rw [hd]
          clear hfi hd hMem
          go_wp2
          exact ⟨⟨d + 1, by omega, by go_num, by rw [hd2.out]⟩, by simp [intOf]; omega⟩
      · obtain rfl : d = l.length := by omega
        rw [List.take_length]
        clear hc'
        by_cases hfi : (c : Int) ∈ l
        · have hd : decide ((c : Int) ∉ l) = false := by simpa using hfi
          have hall2 : Hid (∀ j : Nat, j < c + 1 → (j : Int) ∈ l) := fun j hj => by
            rcases Nat.lt_or_ge j c with h | h
            · exact hall.out j h
            · rw [show j = c by omega]; exact hfi
          have hle := first_le hall2.out
          rw [hd]
          clear hfi hd hall
          go_wp2
          exact ⟨⟨c + 1, by go_num, hall2, by omega⟩, by simp [intOf]; omega⟩
        · have hd : decide ((c : Int) ∉ l) = true := by simpa using hfi
          have hfi' := hide' hfi
          rw [hd]
          clear hfi hd hall
          go_wp2
          go_ret
          exact ⟨c, rfl, hfi'.out, rfl⟩
/-- A label laid behind a row of one's own. -/
theorem app_one {o : Oper} {a : Act} {K : Act → World → Prop} {Q : Exit → Act → World → Prop} (s x : Operand) (B : Nat) (W : World) (v : Value) (m : Nat) (l : List Int) (z : Int) (ho : o.op = .call { callee := .builtin .append, args := #[s, x], argTypes := #[23, 23] })
    (es : a.eval s = v) (ex : a.eval x = .slice (some ⟨W.heap.size, 0, none⟩) 1 1) (hl : l.length = m) (hT : W.ownsRow B 3 1 v m (cellsI l)) (hB : B ≤ W.heap.size) (hn : m ≤ 1000000)
    (hK : ∀ oa1 cap1 w2, RowI w2 (.slice oa1 (m + 1) cap1) (l ++ [z]) → Below B W w2 → K (a.put o.dst (.slice oa1 (m + 1) cap1)) w2) : o.wp Try.prog a (W.alloc (.cells #[.int .i64 z] 3)) K Q := by
  subst hl
  obtain ⟨i0, hi, hz0, hz1, hz2⟩ := info_parts info3
  refine wp_append_own _ s x 23 ho B 3 i0 (.int .i64 0) 1 8 Try.underlying23 hi hz0 hz1 hz2 rfl (by decide) v l.length (cellsI l) es (hT.alloc _) ⟨W.heap.size, 0, none⟩ 1 1 [.int .i64 z] ex rfl (World.news_of_block (cs := #[.int .i64 z]) (heap_new _ _)) (by simp [Value.oneCell']) (by unfold maxLen; omega) (by omega) (by simp; omega) ?_
  intro v2 w2 hown hgrow _
  obtain ⟨oa1, cap1, rfl⟩ := own_shp hown
  refine hK _ _ _ ?_ (((Below.refl B W).alloc hB _).grown hgrow (by simp; omega) (fun j ej => own_ge' hT ej))
  have h2 : w2.ownsRow B 3 1 (.slice oa1 (l.length + 1) cap1) (l ++ [z]).length (cellsI (l ++ [z])) := by
    rw [List.length_append]
    simpa [cellsI] using hown
  exact RowI.of_owns h2
/-- The same, wherever the label lies. -/
theorem app_any {o : Oper} {a : Act} {K : Act → World → Prop} {Q : Exit → Act → World → Prop} (s x : Operand) (B b : Nat) (W : World) (v : Value) (m : Nat) (l : List Int) (z : Int) (ho : o.op = .call { callee := .builtin .append, args := #[s, x], argTypes := #[23, 23] })
    (es : a.eval s = v) (ex : a.eval x = .slice (some ⟨b, 0, none⟩) 1 1) (hc : W.cell? ⟨b, 0, none⟩ = some (.int .i64 z)) (hl : l.length = m) (hT : W.ownsRow B 3 1 v m (cellsI l)) (hB : B ≤ W.heap.size) (hn : m ≤ 1000000)
    (hK : ∀ oa1 cap1 w2, RowI w2 (.slice oa1 (m + 1) cap1) (l ++ [z]) → Below B W w2 → K (a.put o.dst (.slice oa1 (m + 1) cap1)) w2) : o.wp Try.prog a W K Q := by
  subst hl
  obtain ⟨i0, hi, hz0, hz1, hz2⟩ := info_parts info3
  refine wp_append_own _ s x 23 ho B 3 i0 (.int .i64 0) 1 8 Try.underlying23 hi hz0 hz1 hz2 rfl (by decide) v l.length (cellsI l) es hT ⟨b, 0, none⟩ 1 1 [.int .i64 z] ex rfl (fun j u hu => ?_) (by simp [Value.oneCell']) (by unfold maxLen; omega) (by omega) hB ?_
  · cases j with
    | zero => cases hu; exact hc
    | succ j => simp at hu
  intro v2 w2 hown hgrow _
  obtain ⟨oa1, cap1, rfl⟩ := own_shp hown
  refine hK _ _ _ ?_ ((Below.refl B W).grown hgrow hB (fun j ej => own_ge' hT ej))
  have h2 : w2.ownsRow B 3 1 (.slice oa1 (l.length + 1) cap1) (l ++ [z]).length (cellsI (l ++ [z])) := by
    rw [List.length_append]
    simpa [cellsI] using hown
  exact RowI.of_owns h2
end Go.Proofs.Ytnlpbhoilalgnaa

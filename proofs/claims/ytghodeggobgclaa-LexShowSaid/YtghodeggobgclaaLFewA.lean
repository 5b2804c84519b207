/- few: tokens in new memory, cut. -/
import Derived.Test.YtghodeggobgclaaLLinM
namespace Go.Proofs.Ytghodeggobgclaa
open Go.RowKit Go.Shelf
/-- A row of tokens, wherever it lies. -/
def RowTk (w : World) (v : Value) (L : List Tok) : Prop := ∃ oa cap, v = .slice oa L.length cap ∧ (L.length ≤ cap ∧ (oa = none → cap = 0) ∧ cap ≤ 9223372036854775807) ∧ ∀ i t, L[i]? = some t → ∃ g o, oa = some ⟨g, o, none⟩ ∧ w.cell? ⟨g, o + i * 5, none⟩ = some (.int .i64 t.kind) ∧ w.cell? ⟨g, o + i * 5 + 1, none⟩ = some (.string (bs t.text)) ∧ w.cell? ⟨g, o + i * 5 + 2, none⟩ = some (.int .i64 t.num) ∧ w.cell? ⟨g, o + i * 5 + 3, none⟩ = some (.int .i64 t.line) ∧ w.cell? ⟨g, o + i * 5 + 4, none⟩ = some (.int .i64 t.col)
theorem RowTk.below {w w' : World} {v : Value} {l : List Tok} {n : Nat} (h : RowTk w v l) (hb : Below n w w') (hn : w.heap.size ≤ n) : RowTk w' v l := by
  obtain ⟨oa, cap, e, e0, h⟩ := h
  refine ⟨oa, cap, e, e0, fun i z hz => ?_⟩
  obtain ⟨g, o, e1, e2, e3, e4, e5, e6⟩ := h i z hz
  have K : ∀ j v, w.cell? ⟨g, j, none⟩ = some v → w'.cell? ⟨g, j, none⟩ = some v := fun j v hv => (hb.cell (p := ⟨g, j, none⟩) (Nat.lt_of_lt_of_le (cell_lt hv) hn)).trans hv
  exact ⟨g, o, e1, K _ _ e2, K _ _ e3, K _ _ e4, K _ _ e5, K _ _ e6⟩
theorem RowTk.take {w : World} {oa : Option Addr} {cap : Nat} {L : List Tok} (h : RowTk w (.slice oa L.length cap) L) {n : Nat} (hn : n ≤ L.length) : RowTk w (.slice oa n cap) (L.take n) := by
  obtain ⟨oa', cap', e, h0, h1⟩ := h
  cases e
  refine ⟨oa, cap, by rw [List.length_take, Nat.min_eq_left hn], ⟨by rw [List.length_take]; omega, h0.2⟩, fun i z hz => ?_⟩
  rw [List.getElem?_take] at hz
  split at hz
  · exact h1 i z hz
  · cases hz
theorem RowTk.cells {w : World} {g o n cap : Nat} {L : List Tok} (h : RowTk w (.slice (some ⟨g, o, none⟩) n cap) L) : ∀ j u, (cellsT L)[j]? = some u → w.cell? ⟨g, o + j, none⟩ = some u := fun j u hj => by
  obtain ⟨oa', cap', e, h0, h1⟩ := h
  cases e
  have hjm : j % 5 < 5 := Nat.mod_lt _ (by decide)
  have hj2 : j = (j / 5) * 5 + j % 5 := by omega
  have hat := cellsT_at L (j / 5) (j % 5) hjm
  rw [← hj2, hj] at hat
  cases ht : L[j / 5]? with
  | none => rw [ht] at hat; cases hat
  | some t =>
    rw [ht] at hat
    obtain ⟨g', o', e1, e2, e3, e4, e5, e6⟩ := h1 _ _ ht
    cases e1
    have hat' : some u = (tcells t)[j % 5]? := hat
    rw [show o + j = o + j / 5 * 5 + j % 5 by omega]
    generalize j % 5 = m at *
    generalize o + j / 5 * 5 = q at *
    unfold tcells at hat'
    match m, hjm with
    | 0, _ => simp at hat'; subst hat'; exact e2
    | 1, _ => simp at hat'; subst hat'; exact e3
    | 2, _ => simp at hat'; subst hat'; exact e4
    | 3, _ => simp at hat'; subst hat'; exact e5
    | 4, _ => simp at hat'; subst hat'; exact e6
theorem RowTk.of_own {w : World} {B : Nat} {v : Value} {L : List Tok} (h : w.ownsRow B 35 5 v L.length (cellsT L)) : RowTk w v L := by
  rcases h.2 with ⟨rfl, h0⟩ | ⟨g, cap, cur, rfl, hbg, hgg, hcap, hcm, _⟩
  · refine ⟨none, 0, by rw [h0], ⟨by omega, fun _ => rfl, by omega⟩, fun i z hz => ?_⟩
    have := (List.getElem?_eq_some_iff.1 hz).1
    omega
  · obtain ⟨oa, cap', e⟩ := own_shapeT h
    have H := TokAt.own (oa := some ⟨g, 0, none⟩) (n := L.length) (cap := cap) h
    refine ⟨_, cap, rfl, ⟨hcap, fun e => (by cases e), hcm⟩, fun i z hz => ?_⟩
    obtain ⟨g', e1, e2, e3, e4, e5, e6⟩ := H i z hz
    cases e1
    exact ⟨g, 0, rfl, by rw [Nat.zero_add]; exact e2, by rw [Nat.zero_add]; exact e3, by rw [Nat.zero_add]; exact e4, by rw [Nat.zero_add]; exact e5, by rw [Nat.zero_add]; exact e6⟩
set_option maxRecDepth 100000 in
set_option maxHeartbeats 4000000 in
theorem fewF (L : List Tok) (v : Value) (w : World) (h : RowTk w v L) :
    Calls Try.prog 6 #[v] w fun e w' => ∃ v', e = .returned v' ∧ w'.ownsRow w.heap.size 35 5 v' (L.take 3000).length (cellsT (L.take 3000)) ∧ Below w.heap.size w w' := by
  obtain ⟨i0, hi, hz0, hz1, hz2⟩ := info_partsL infoT
  have hE := hide' (own_empty w)
  obtain ⟨oa, cap, rfl, hcap, hc⟩ := id h
  have hfin : Hid (∀ (m : Nat) (v4 : Value) (w4 : World), m = (L.take 3000).length → w4.ownsRow w.heap.size 35 5 v4 (0 + m) ([] ++ cellsT (L.take 3000)) → (w.alloc (.cells #[] 35)).grownBy w4 (some w.heap.size) → (w4.ownsRow w.heap.size 35 5 v4 (L.take 3000).length (cellsT (L.take 3000)) ∧ Below w.heap.size w w4)) := fun m v4 w4 e h1 h2 => by
    subst e
    refine ⟨by simpa using h1, ((Below.refl _ w).alloc (Nat.le_refl _) _).grown h2 (by simp) fun j ej => ?_⟩
    cases ej
    exact Nat.le_refl _
  have hone := hide' (cellsT_one (L.take 3000))
  have hcellsG : Hid (∀ g o n, n = (L.take 3000).length → oa = some ⟨g, o, none⟩ → ∀ j u, (cellsT (L.take 3000))[j]? = some u → (w.alloc (.cells #[] 35)).cell? ((⟨g, o, none⟩ : Addr).add j) = some u) := fun g o n _ e j u hj => by
    subst e
    have h1 := (h.take (n := (L.take 3000).length) (by rw [List.length_take]; omega))
    have e2 : L.take (L.take 3000).length = L.take 3000 := by
      rw [List.length_take]
      by_cases h : 3000 ≤ L.length
      · rw [Nat.min_eq_left h]
      · rw [Nat.min_eq_right (by omega), List.take_length, List.take_of_length_le (by omega)]
    rw [e2] at h1
    have h3 := h1.cells j u hj
    rw [Addr.add_lit]
    exact (((Below.refl _ w).alloc (Nat.le_refl _) (.cells #[] 35)).cell (p := ⟨g, o + j, none⟩) (cell_lt h3)).trans h3
  have hsome : 0 < L.length → ∃ g o, oa = some ⟨g, o, none⟩ := fun h0 => by
    obtain ⟨g, o, e, _⟩ := hc 0 L[0] (List.getElem?_eq_getElem h0)
    exact ⟨g, o, e⟩
  by_cases hlong : 3000 < L.length
  · obtain ⟨g, o, rfl⟩ := hsome (by omega)
    clear hsome
    have hm : (L.take 3000).length = 3000 := by rw [List.length_take]; omega
    have hlen : Hid ((cellsT (L.take 3000)).length = 3000 * 5) := by show _ = _; rw [cellsT_len, hm]
    have hcl := hide' (hcellsG.out g o 3000 hm.symm rfl)
    have hfin' := hide' (hfin.out 3000 · · hm.symm)
    have hl' : (3000 : Int) < (L.length : Int) := by omega
    clear hc h hcellsG hfin hm
    generalize L.length = q at *
    generalize cellsT (L.take 3000) = CC at *
    go_enter Try.func6, Try.ntmps6
    go_wp2_with (at_builtin; go_loud (refine wpList_append_own _ rfl _ _ 22 rfl w.heap.size 35 i0 (.agg #[.int .i64 0, .string ⟨#[]⟩, .int .i64 0, .int .i64 0, .int .i64 0]) 5 48 Try.underlying22 hi hz0 hz1 hz2 rfl (by decide) (.slice (some ⟨w.heap.size, 0, none⟩) 0 0) 0 [] rfl hE.out ⟨g, o, none⟩ 3000 cap CC rfl hlen.out hcl.out hone.out (by unfold maxLen; omega) (by omega) (by simp) ?_); intro v4 w4 hown4 hgrow4 _; have HO := hide' (hfin'.out v4 w4 hown4 hgrow4); clear hown4 hgrow4)
    go_ret
    exact ⟨v4, rfl, HO.out.1, HO.out.2⟩
  · have hm : (L.take 3000).length = L.length := by rw [List.length_take]; omega
    have hlen : Hid ((cellsT (L.take 3000)).length = L.length * 5) := by show _ = _; rw [cellsT_len, hm]
    have hfin' := hide' (hfin.out L.length · · hm.symm)
    cases oa with
    | none =>
      have h0 : cap = 0 := hcap.2.1 rfl
      subst h0
      have hLn : L = [] := List.eq_nil_of_length_eq_zero (by omega)
      subst hLn
      clear hfin hfin' hcellsG hc h hlong
      go_enter Try.func6, Try.ntmps6
      go_wp2_with fail
      go_ret
      exact ⟨_, rfl, hE.out, (Below.refl _ w).alloc (Nat.le_refl _) _⟩
    | some ad =>
      by_cases h0 : L.length = 0
      · have hLn : L = [] := List.eq_nil_of_length_eq_zero h0
        subst hLn
        have hcl : Hid (∀ j u, ([] : List Value)[j]? = some u → (w.alloc (.cells #[] 35)).cell? (ad.add j) = some u) := fun j u hj => by cases hj
        clear hfin hcellsG hc h hlong hone hlen hm
        go_enter Try.func6, Try.ntmps6
        go_wp2_with (at_builtin; go_loud (refine wpList_append_own _ rfl _ _ 22 rfl w.heap.size 35 i0 (.agg #[.int .i64 0, .string ⟨#[]⟩, .int .i64 0, .int .i64 0, .int .i64 0]) 5 48 Try.underlying22 hi hz0 hz1 hz2 rfl (by decide) (.slice (some ⟨w.heap.size, 0, none⟩) 0 0) 0 [] rfl hE.out ad 0 cap [] rfl rfl hcl.out (fun u hu => by cases hu) (by decide) (by decide) (by simp) ?_); intro v4 w4 hown4 hgrow4 _; have HO := hide' (hfin'.out v4 w4 hown4 hgrow4); clear hown4 hgrow4)
        go_ret
        exact ⟨v4, rfl, HO.out.1, HO.out.2⟩
      · obtain ⟨g, o, e⟩ := hsome (by omega)
        cases e
        clear hsome
        have hcl := hide' (hcellsG.out g o L.length hm.symm rfl)
        have hl' : ¬ (3000 : Int) < (L.length : Int) := by omega
        clear hc h hcellsG hfin hm h0
        generalize (L.take 3000).length = mm at *
        generalize L.length = q at *
        generalize cellsT (L.take 3000) = CC at *
        go_enter Try.func6, Try.ntmps6
        go_wp2_with (at_builtin; go_loud (refine wpList_append_own _ rfl _ _ 22 rfl w.heap.size 35 i0 (.agg #[.int .i64 0, .string ⟨#[]⟩, .int .i64 0, .int .i64 0, .int .i64 0]) 5 48 Try.underlying22 hi hz0 hz1 hz2 rfl (by decide) (.slice (some ⟨w.heap.size, 0, none⟩) 0 0) 0 [] rfl hE.out ⟨g, o, none⟩ q cap CC rfl hlen.out hcl.out hone.out (by unfold maxLen; omega) (by omega) (by simp) ?_); intro v4 w4 hown4 hgrow4 _; have HO := hide' (hfin'.out v4 w4 hown4 hgrow4); clear hown4 hgrow4)
        go_ret
        exact ⟨v4, rfl, HO.out.1, HO.out.2⟩
end Go.Proofs.Ytghodeggobgclaa

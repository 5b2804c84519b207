/- few2: tokens in new memory. -/
import Derived.Test.YtmkiggbpbojiiaaLKeep
import Derived.Laws.AppendOwnNone
namespace Go.Proofs.Ytmkiggbpbojiiaa
open Go.RowKit Go.Shelf
theorem cellsT_one (L : List Tok) : ∀ u ∈ cellsT L, u.oneCell' = true := by
  intro u hu
  unfold cellsT at hu
  obtain ⟨t, _, h⟩ := List.mem_flatMap.1 hu
  simp [tcells] at h
  rcases h with rfl | rfl | rfl | rfl | rfl <;> rfl
theorem own_empty (w : World) : (w.alloc (.cells #[] 35)).ownsRow w.heap.size 35 5 (.slice (some ⟨w.heap.size, 0, none⟩) 0 0) 0 [] :=
  ⟨rfl, .inr ⟨w.heap.size, 0, #[], rfl, Nat.le_refl _, heap_alloc_new w _, Nat.le_refl _, Nat.zero_le _, rfl, rfl⟩⟩
set_option maxRecDepth 100000 in
set_option maxHeartbeats 4000000 in
theorem few2F (b : Nat) (v : Value) (L : List Tok) (w : World) (h : w.ownsRow b 35 5 v L.length (cellsT L)) (hL : L.length ≤ 1000000) :
    Calls Try.prog 15 #[v] w fun e w' => ∃ v', e = .returned v' ∧ w'.ownsRow w.heap.size 35 5 v' L.length (cellsT L) ∧ Below w.heap.size w w' := by
  obtain ⟨i0, hi, hz0, hz1, hz2⟩ := info_partsL infoT
  have hE := hide' (own_empty w)
  have hlen := hide' (cellsT_len L)
  have hone := hide' (cellsT_one L)
  rcases h.2 with ⟨rfl, h0⟩ | ⟨g, cap, cur, rfl, hbg, hgg, _⟩
  · have hLn : L = [] := List.eq_nil_of_length_eq_zero h0
    subst hLn
    clear h h0 hL
    go_enter Try.func15, Try.ntmps15
    go_wp2_with fail
    go_ret
    exact ⟨_, rfl, hE.out, (Below.refl _ w).alloc (Nat.le_refl _) _⟩
  · have hlt : g < w.heap.size := (Array.getElem?_eq_some_iff.1 hgg).1
    have hcl : Hid (∀ j u, (cellsT L)[j]? = some u → (w.alloc (.cells #[] 35)).cell? ((⟨g, 0, none⟩ : Addr).add j) = some u) := fun j u hj => by
      have hjl : j < L.length * 5 := by rw [← cellsT_len]; exact (List.getElem?_eq_some_iff.1 hj).1
      have a0 := h.cellAt j hjl
      rw [hj] at a0
      rw [((Below.refl _ w).alloc (Nat.le_refl _) _).cell (p := (⟨g, 0, none⟩ : Addr).add j) (by rw [Addr.add_lit]; exact hlt)]
      rw [Addr.add_lit]
      simpa using a0
    clear h
    go_enter Try.func15, Try.ntmps15
    go_wp2_with (at_builtin; go_loud (refine wpList_append_own _ rfl _ _ 22 rfl w.heap.size 35 i0 (.agg #[.int .i64 0, .string ⟨#[]⟩, .int .i64 0, .int .i64 0, .int .i64 0]) 5 48 Try.underlying22 hi hz0 hz1 hz2 rfl (by decide) (.slice (some ⟨w.heap.size, 0, none⟩) 0 0) 0 [] rfl hE.out ⟨g, 0, none⟩ L.length cap (cellsT L) rfl hlen.out hcl.out hone.out (by unfold maxLen; omega) (by omega) (by simp) ?_); intro v4 w4 hown4 hgrow4 _; have HO := hide' (And.intro hown4 hgrow4); clear hown4 hgrow4)
    go_ret
    refine ⟨v4, rfl, by simpa using HO.out.1, ((Below.refl _ w).alloc (Nat.le_refl _) _).grown HO.out.2 (by simp) fun j ej => ?_⟩
    have : w.heap.size = j := by simpa [Value.ownBlock] using ej
    omega
end Go.Proofs.Ytmkiggbpbojiiaa

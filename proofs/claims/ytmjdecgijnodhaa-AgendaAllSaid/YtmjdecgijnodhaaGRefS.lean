/- The document's agenda: Set. -/
import Derived.Test.YtmjdecgijnodhaaGRefD
namespace Go.Proofs.Ytmjdecgijnodhaa
open Go.RowKit Go.Maps
theorem owns_moreG {w : World} {B C : Nat} {e : TypeId} {size : Nat} {v : Value} {n : Nat} {xs : List Value} (h : w.ownsRow B e size v n xs) (hC : ∀ k, v.ownBlock = some k → C ≤ k) : w.ownsRow C e size v n xs := ⟨h.1, h.2.imp (fun x => x) (fun ⟨g, cap, cur, e1, e2, r⟩ => ⟨g, cap, cur, e1, hC g (by rw [e1]; rfl), r⟩)⟩
/-- What Set leaves. -/
def SetR (r : Nat) (L : List (Int × Int)) (id tm : Int) (w : World) (e : Ending) (w' : World) : Prop :=
  e = .returned (.tuple #[]) ∧ ∃ rowv', RefA w' r (dropL L id ++ [(id, tm)]) rowv' ∧ Mv (fun k => k = r) w w' ∧ ∀ k, rowv'.ownBlock = some k → w.heap.size ≤ k
set_option maxRecDepth 100000 in
set_option maxHeartbeats 4000000 in
theorem setR (r : Nat) (L : List (Int × Int)) (rowv : Value) (id tm : Int) (hnd : (L.map (·.1)).Nodup) (hsm : L.length + 1 ≤ 1000000) (w : World) (H : RefA w r L rowv) : Calls Try.prog 11 #[.pointer (some ⟨r, 0, none⟩), .int .i64 id, .int .i64 tm] w (SetR r L id tm w) := by
  obtain ⟨i0, hi, hz0, hz1, hz2⟩ := info_parts infoR
  have hrlt : r < w.heap.size := (Array.getElem?_eq_some_iff.1 H.box).1
  have KD := hide' (dropR r L rowv id hnd w H)
  have hdl : (dropL L id).length ≤ L.length := List.length_filter_le _ _
  clear H
  go_enter Try.func11, Try.ntmps11
  go_wp2_with fail
  refine KD.out.mono ?_
  intro e w1 hP
  have he : ∃ b, e = .returned (.bool b) := by
    by_cases h : ∃ x ∈ L, x.1 = id
    · exact ⟨_, hP.1 h⟩
    · exact ⟨_, hP.2.1 (fun x hx e => h ⟨x, hx, e⟩)⟩
  obtain ⟨b, rfl⟩ := he
  obtain ⟨-, -, rowv1, H1, M1, hfar⟩ := hP
  obtain ⟨oa, cap, rfl⟩ := own_shapeG H1.row
  have c0 := H1.c0
  have f0 := H1.fz
  have hbox := hide' H1.box
  have hz := M1.size
  have hrow := hide' (owns_moreG H1.row hfar)
  have hfar' := hide' hfar
  have M1' := hide' M1
  have hcs := hide' (cellsP_snoc (dropL L id) (id, tm))
  have hll : Hid ((dropL L id ++ [(id, tm)]).length = (dropL L id).length + 1) := by show _ = _; simp
  clear KD H1 hfar M1 hnd
  generalize hm : (dropL L id).length = m at *
  have hm' := hide' hm
  clear hm
  go_wp2_with (at_builtin; go_loud (refine wpList_append_lies _ rfl _ _ 36 rfl w.heap.size 39 i0 (.agg #[.int .i64 0, .int .i64 0]) 2 16 Try.underlying36 hi hz0 hz1 hz2 rfl (by decide) (.slice oa m cap) m (cellsP (dropL L id)) rfl (hrow.out.alloc _) ⟨w1.heap.size, 0, none⟩ 1 1 [.int .i64 id, .int .i64 tm] rfl rfl (cell_two_new _ _ _ _) (by simp [Value.oneCell']) (by decide) (by unfold maxLen; omega) (by omega) (by simp; omega) _ rfl ?_); intro g4 cap4 w4 hown4 hgrow4 hat4 hlt4; have M4 := hide' ((Mv.alloc (F := fun k => w.heap.size ≤ k) (w := w1) (.cells #[.int .i64 id, .int .i64 tm] 39)).trans (Mv.grown (F := fun k => w.heap.size ≤ k) hgrow4 hfar'.out (fun k ek => (ne_row hrow.out ek (by decide)).same (Below.heap_alloc _ _ _ (hrow.out.lt k ek).2))) (fun _ _ x => x)); have hbox4 := hide' ((M4.out.block r (by omega) (by omega)).trans hbox.out); have f4 := frozen_of_row w4 r 0 _ _ hbox4.out; have c4 : w4.cell? ⟨r, 0, none⟩ = some (.slice oa m cap) := (by simp [World.cell?, hbox4.out]); have hown4' := hide' hown4; clear hown4 hgrow4 hat4 hlt4)
  have hfin : SetR r L id tm w (.returned (.tuple #[])) (w4.setCell ⟨r, 0, none⟩ (.slice (some ⟨g4, 0, none⟩) (m + 1) cap4)) := by
    have hfar4 : ∀ k, (Value.slice (some ⟨g4, 0, none⟩) (m + 1) cap4).ownBlock = some k → w.heap.size ≤ k := fun k ek => (hown4'.out.lt k ek).1
    refine ⟨rfl, _, ⟨?_, ?_, fun e => by have := hfar4 r e; omega, by rw [hll.out]; omega⟩, ((M1'.out.trans M4.out (fun k hk x => by omega))).trans (Mv.setCell (F := fun k => k = r) _ rfl (.inl (ne_other hbox4.out (by decide)))) (fun _ _ x => x), hfar4⟩
    · have := heap_setCell_same w4 r 0 _ _ (.slice (some ⟨g4, 0, none⟩) (m + 1) cap4) hbox4.out; simpa using this
    · rw [hll.out, ← hcs.out]
      exact owns_lessG (owns_same hown4'.out fun g _ eg => Below.heap_setCell _ _ _ _ (fun e => by have h1 := hfar4 g eg; have h2 : g = r := e; omega)) (Nat.zero_le _)
  first | go_end0 | refine bodyPost_ret (results_none rfl _ _ _) rfl ?_
  exact hfin
end Go.Proofs.Ytmjdecgijnodhaa

/- queue.Pop, heap.Push: what they answer. -/
import Derived.Test.YtmjdecgijnodhaaGPush
namespace Go.Proofs.Ytmjdecgijnodhaa
open Go.RowKit
theorem Mv.set2 {F : Nat → Prop} {w : World} {p q : Addr} (u v : Value) (hp : F p.block) (hq : F q.block) (hn : NE w p.block) (hm : NE w q.block) : Mv F w ((w.setCell p u).setCell q v) :=
  (Mv.setCell u hp (.inl hn)).trans (Mv.setCell v hq (.inl (hm.setCell p u))) fun _ _ x => x
theorem owns_short {w : World} {base : Nat} {e : TypeId} {g n m cap : Nat} {xs : List Value} (h : w.ownsRow base e 1 (.slice (some ⟨g, 0, none⟩) n cap) n xs) (hm : m ≤ n) :
    w.ownsRow base e 1 (.slice (some ⟨g, 0, none⟩) m cap) m (xs.take m) := by
  rcases h.2 with ⟨h', _⟩ | ⟨g', cap', cur, h', hb, hg, hnc, hcm, hcs, htake⟩
  · simp at h'
  · simp only [Value.slice.injEq, Option.some.injEq, Addr.mk.injEq, and_true, true_and] at h'
    obtain ⟨rfl, rfl⟩ := h'
    refine ⟨by rw [List.length_take, h.1]; omega, .inr ⟨g, cap, cur, rfl, hb, hg, by omega, hcm, hcs, ?_⟩⟩
    rw [← htake, List.take_take, Nat.min_eq_left (by omega)]
    simp
theorem ptrs_take (h : Nat → Nat × Ent) (n : Nat) (u : Value) : ((ptrs h (n + 1)).set n u).take n = ptrs h n := by
  rw [ptrs_snoc, List.set_append_right _ _ (by rw [ptrs_len]; exact Nat.le_refl _), ptrs_len, Nat.sub_self]
  exact List.take_left' (ptrs_len h n)
set_option maxRecDepth 100000 in
set_option maxHeartbeats 4000000 in
theorem popQ (a n mb : Nat) (sets : Int) (rowv : Value) (h : Nat → Nat × Ent) (hn : n ≤ 1000000) (w : World) (H : Hp w (n + 1) h rowv) (hb : AgBox w a rowv mb sets) :
    Calls Try.prog 72 #[.pointer (some ⟨a, 0, none⟩)] w fun e w' => e = .returned (.iface 57 (.pointer (some ⟨(h n).1, 0, none⟩))) ∧ ∃ g cap, rowv = .slice (some ⟨g, 0, none⟩) (n + 1) cap ∧ Hp w' n h (.slice (some ⟨g, 0, none⟩) n cap) ∧ AgBox w' a (.slice (some ⟨g, 0, none⟩) n cap) mb sets ∧ Mv (fun k => rowv.ownBlock = some k ∨ k = a) w w' := by
  obtain ⟨g, cap, rfl, _, _⟩ := H.row.form (by omega)
  have c0 := hb.c0
  have f0 := hb.fz 0
  have cn : w.cell? ⟨g, n, none⟩ = some (.pointer (some ⟨(h n).1, 0, none⟩)) := by rw [H.row.cellAt n (by omega)]; exact ptrs_at h (by omega)
  have fn := H.row.frozenAt n
  have hga : g ≠ a := fun x => box_far H hb (.inl (by rw [x]; rfl))
  have hcap : n + 1 ≤ cap := by
    rcases H.row.2 with ⟨h', _⟩ | ⟨g', cap', cur, h', _, _, hnc, _⟩
    · simp at h'
    · simp only [Value.slice.injEq] at h'; omega
  have B1 : Hid (AgBox ((w.setCell ⟨g, n, none⟩ (.pointer none)).setCell ⟨a, 0, none⟩ (.slice (some ⟨g, 0, none⟩) n cap)) a (.slice (some ⟨g, 0, none⟩) n cap) mb sets) := (hb.same (Below.heap_setCell w ⟨g, n, none⟩ (.pointer none) a (fun x => hga x.symm))).s0 _
  have H1 : Hid (Hp ((w.setCell ⟨g, n, none⟩ (.pointer none)).setCell ⟨a, 0, none⟩ (.slice (some ⟨g, 0, none⟩) n cap)) n h (.slice (some ⟨g, 0, none⟩) n cap)) := by
    refine ⟨owns_same ?_ fun k _ ek => Below.heap_setCell _ _ _ _ (fun x => hga (by cases ek; exact x)), fun k hk => ?_, fun k l hk hl => H.inj k l (by omega) (by omega)⟩
    · have := owns_short (H.row.stored n (.pointer none)).1 (Nat.le_succ n)
      rwa [ptrs_take] at this
    · have hk' : k < n + 1 := by omega
      have n1 : (h k).1 ≠ g := fun x => H.far hk' (by rw [x]; rfl)
      have n2 : (h k).1 ≠ a := fun x => box_far H hb (.inr ⟨k, hk', x⟩)
      exact ((H.ent k hk').same (Below.heap_setCell _ _ _ _ n1)).same (Below.heap_setCell _ _ _ _ n2)
  have M1 : Hid (Mv (fun k => (Value.slice (some ⟨g, 0, none⟩) (n + 1) cap).ownBlock = some k ∨ k = a) w ((w.setCell ⟨g, n, none⟩ (.pointer none)).setCell ⟨a, 0, none⟩ (.slice (some ⟨g, 0, none⟩) n cap))) := Mv.set2 (p := ⟨g, n, none⟩) (q := ⟨a, 0, none⟩) _ _ (.inl rfl) (.inr rfl) (ne_row H.row rfl (by decide)) (ne_other hb (by decide))
  have c1 : (w.setCell ⟨g, n, none⟩ (.pointer none)).cell? ⟨a, 0, none⟩ = some (.slice (some ⟨g, 0, none⟩) (n + 1) cap) := cell_set_o c0 _ (fun x => hga x.symm)
  generalize (h n).1 = p at *
  clear H hb
  go_enter Try.func72, Try.ntmps72
  go_wp2
  go_ret
  exact ⟨rfl, g, cap, rfl, H1.out, B1.out, M1.out⟩
set_option maxRecDepth 100000 in
set_option maxHeartbeats 4000000 in
theorem pushH (a n mb p pl : Nat) (sets : Int) (rowv : Value) (h : Nat → Nat × Ent) (e : Ent) (hn : n ≤ 1000000) (w : World) (H : Hp w n h rowv) (hH : IsHeap (ents h) n) (hb : AgBox w a rowv mb sets) (he : EntAt w p e pl) (hp : ∀ k, k < n → (h k).1 ≠ p) :
    Calls Try.prog 26 #[.iface 68 (.pointer (some ⟨a, 0, none⟩)), .iface 57 (.pointer (some ⟨p, 0, none⟩))] w fun e' w' => e' = .returned (.tuple #[]) ∧ ∃ g cap h', Hp w' (n + 1) h' (.slice (some ⟨g, 0, none⟩) (n + 1) cap) ∧ AgBox w' a (.slice (some ⟨g, 0, none⟩) (n + 1) cap) mb sets ∧ IsHeap (ents h') (n + 1) ∧ Same (n + 1) (addF h n p e) h' ∧ (rowv.ownBlock = some g ∨ w.heap.size ≤ g) ∧ Mv (fun k => FH n h rowv k ∨ k = a ∨ k = p) w w' := by
  have hfa := hide' (box_far H hb)
  have KP := hide' (pushQ a n mb p pl sets rowv h e hn w H hb he hp)
  have hlw := hide' hb.lt
  have hU : Hid (UpAt (ents (addF h n p e)) (n + 1) n) := up_start (hH.congr fun k hk => by unfold ents; rw [addF_o h e (by omega)])
  have hpw := hide' (fun k (hk : k < n) => (H.ent k hk).lt)
  have hpl := hide' he.lt
  have e0 := mPush (218 - 1) (.pointer (some ⟨a, 0, none⟩)) w
  clear H hH hb he hp
  go_enter Try.func26, Try.ntmps26
  go_wp2_with (first | (go_at_call 73; refine KP.out.mono ?_; rintro e' w1 ⟨rfl, g, cap, H1, B1, hg1, M1⟩; have H1' := hide' H1; have B1' := hide' B1; have M1' := hide' M1; have hg1' := hide' hg1; have e1 := mLen (218 - 1) a (some ⟨g, 0, none⟩) (n + 1) cap w1 B1.c0; have ca1 := hide' B1.c0; have KU := hide' (upH a (n + 1) (n + 1) n _ (addF h n p e) (by omega) (Nat.le_refl _) (by omega) w1 H1 hU.out B1.c0 (box_far H1 B1)); clear H1 B1 M1 hg1) | (go_at_call 69; refine (lenQ _ _ _ _).mono ?_; rintro e' w2 ⟨rfl, hw2⟩; obtain rfl : w1 = w2 := hw2.symm) | (go_at_call 34; refine KU.out.mono ?_; rintro e' w3 ⟨rfl, h3, H3, hH3, hS3, _, M3⟩; have H3' := hide' H3; have hH3' := hide' hH3; have hS3' := hide' hS3; have M3' := hide' M3; clear H3 hH3 hS3 M3))
  first | go_end0 | refine bodyPost_ret (results_none rfl _ _ _) rfl ?_
  have hfb := box_far H1'.out B1'.out
  refine ⟨rfl, g, cap, h3, H3'.out, B1'.out.same (M3'.out.block a B1'.out.lt hfb), hH3'.out, hS3'.out, hg1'.out, M1'.out.trans M3'.out ?_⟩
  rintro k hk (x | ⟨l, hl, x⟩)
  · rcases hg1'.out with y | y
    · exact .inl (.inl (by have x2 : some g = some k := x; rw [← x2]; exact y))
    · have x2 : some g = some k := x
      cases x2; omega
  · by_cases e1 : l = n
    · subst e1; rw [addF_n] at x; exact .inr (.inr x.symm)
    · rw [addF_o h e e1] at x; exact .inl (.inr ⟨l, by omega, x⟩)
end Go.Proofs.Ytmjdecgijnodhaa

/- container/heap's up: what it answers. -/
import Derived.Test.YtmjdecgijnodhaaGMeth
namespace Go.Proofs.Ytmjdecgijnodhaa
open Go.RowKit
/-- The entries alone. -/
def ents (h : Nat → Nat × Ent) (k : Nat) : Ent := (h k).2
theorem ents_sw (h : Nat → Nat × Ent) (i j : Nat) : ents (swF h i j) = swF (ents h) i j := by
  funext k
  unfold ents swF
  by_cases e : k = i
  · simp [e]
  · by_cases e2 : k = j
    · simp [e2]; split <;> rfl
    · simp [e, e2]
theorem FH.same {n : Nat} {h h' : Nat → Nat × Ent} {rowv : Value} (hs : Same n h h') (k : Nat) : FH n h' rowv k → FH n h rowv k := by
  rintro (e | ⟨l, hl, e⟩)
  · exact .inl e
  · obtain ⟨m, hm, e2⟩ := (hs (h' l)).2 ⟨l, hl, rfl⟩
    exact .inr ⟨m, hm, by rw [e2]; exact e⟩
theorem Mv.cell {F : Nat → Prop} {w w' : World} (h : Mv F w w') {b o : Nat} {v : Value} (hc : w.cell? ⟨b, o, none⟩ = some v) (hf : ¬ F b) : w'.cell? ⟨b, o, none⟩ = some v :=
  (World.cell?_of_block (w := w) (h.block b (cell_lt hc) hf)).trans hc
set_option maxRecDepth 100000 in
set_option maxHeartbeats 4000000 in
theorem upH (a N n j : Nat) (rowv : Value) (h : Nat → Nat × Ent) (hj : j < n) (hnN : n ≤ N) (hn : N ≤ 4611686018427387903) (w : World) (H : Hp w N h rowv) (hU : UpAt (ents h) n j) (ca : w.cell? ⟨a, 0, none⟩ = some rowv) (hfa : ¬ FH N h rowv a) :
    Calls Try.prog 34 #[.iface 68 (.pointer (some ⟨a, 0, none⟩)), .int .i64 j] w fun e w' => e = .returned (.tuple #[]) ∧ ∃ h', Hp w' N h' rowv ∧ IsHeap (ents h') n ∧ Same N h h' ∧ (∀ k, n ≤ k → h' k = h k) ∧ Mv (FH N h rowv) w w' := by
  obtain ⟨g, cap, rfl, _, _⟩ := H.row.form (by omega)
  have H' := hide' H
  have hU' := hide' hU
  clear H hU
  go_enter Try.func34, Try.ntmps34
  go_wp2
  go_loopw [1] (fun k wr => ∃ (c : Nat) (h' : Nat → Nat × Ent), c < n ∧ k = .int .i64 c ∧ Hp wr N h' (.slice (some ⟨g, 0, none⟩) N cap) ∧ Hid (UpAt (ents h') n c) ∧ Hid (Same N h h') ∧ Hid (∀ k, n ≤ k → h' k = h k) ∧ wr.cell? ⟨a, 0, none⟩ = some (.slice (some ⟨g, 0, none⟩) N cap) ∧ Mv (FH N h (.slice (some ⟨g, 0, none⟩) N cap)) w wr) (fun k _ => (intOf k).toNat)
  case atStart => exact ⟨j, h, hj, rfl, H'.out, hU', Same.refl _ _, fun _ _ => rfl, ca, Mv.refl _ _⟩
  case round =>
    clear H' hU' ca
    obtain ⟨c, h', hc, rfl, H, hU, hS, hT, ca, hM⟩ := hrel
    by_cases h0 : c = 0
    · subst h0
      have H' := hide' H
      have hM' := hide' hM
      clear H hM
      go_wp2
      first | go_end0 | refine bodyPost_ret (results_none rfl _ _ _) rfl ?_
      exact ⟨rfl, h', H'.out, up_done hU.out (.inl rfl), hS.out, hT.out, hM'.out⟩
    · have hp := par_lt (k := c) (by omega)
      have hq : Hid (((c : Int) - 1).tdiv 2 = ((par c : Nat) : Int)) := by show _ = _; unfold par; rw [Int.tdiv_eq_ediv_of_nonneg (by omega)]; omega
      have hbe : (((par c : Nat) : Int) == (c : Int)) = false := by rw [beq_eq_false_iff_ne]; omega
      have K0 := lessQ N h' _ c (par c) (by omega) (by omega) (by omega) wr H
      have hfa' : ¬ FH N h' (.slice (some ⟨g, 0, none⟩) N cap) a := fun x => hfa (FH.same hS.out a x)
      by_cases hl : ltE (h' c).2 (h' (par c)).2
      · have KL : Hid (Calls Try.prog 70 #[.slice (some ⟨g, 0, none⟩) N cap, .int .i64 c, .int .i64 (par c : Nat)] wr fun e w' => e = .returned (.bool true) ∧ Below wr.heap.size wr w') := K0.mono fun e w' ⟨⟨b, he, hb⟩, hw⟩ => ⟨by rw [he, hb.2 hl], hw⟩
        have KS : Hid (∀ W, Below wr.heap.size wr W → Calls Try.prog 71 #[.slice (some ⟨g, 0, none⟩) N cap, .int .i64 (par c : Nat), .int .i64 c] W fun e w' => e = .returned (.tuple #[]) ∧ Hp w' N (swF h' (par c) c) (.slice (some ⟨g, 0, none⟩) N cap) ∧ Mv (FH N h' (.slice (some ⟨g, 0, none⟩) N cap)) W w') := fun W hW => swapQ N h' _ (par c) c (by omega) (by omega) (by omega) (by omega) W (H.below hW)
        have hU2 : Hid (UpAt (ents (swF h' (par c) c)) n (par c)) := by rw [ents_sw]; exact up_step hU.out (by omega) hc hl
        have hS2 : Hid (Same N h (swF h' (par c) c)) := hS.out.trans (Same.sw h' (by omega) (by omega))
        have hT2 : Hid (∀ k, n ≤ k → swF h' (par c) c k = h k) := fun k hk => by rw [swF_o h' (by omega) (by omega)]; exact hT.out k hk
        have hM' := hide' hM
        have hFs := hide' (fun k => FH.same (rowv := .slice (some ⟨g, 0, none⟩) N cap) hS.out k)
        generalize hh2 : swF h' (par c) c = h2 at *
        generalize par c = i at *
        clear hh2 K0 H hM hl
        have hq' := hq.out
        have e1 : (method 218 68 (.pointer (some ⟨a, 0, none⟩)) "Less").run Try.prog wr = .ok (70, .slice (some ⟨g, 0, none⟩) N cap) wr := mLess (218 - 1) a _ N cap wr ca
        go_wp2_with (first | (go_at_call 70; refine KL.out.mono ?_; rintro e w1 ⟨rfl, hb⟩; have hb' := hide' hb; have ca1 := cell_over ca hb; have e2 : (method 218 68 (.pointer (some ⟨a, 0, none⟩)) "Swap").run Try.prog w1 = .ok (71, .slice (some ⟨g, 0, none⟩) N cap) w1 := mSwap (218 - 1) a _ N cap w1 ca1; clear hb) | (go_at_call 71; refine (KS.out _ hb'.out).mono ?_; rintro e w2 ⟨rfl, H2, hM2⟩; have H2' := hide' H2; have hM2' := hide' hM2; clear H2 hM2))
        have hMx : Mv (FH N h (.slice (some ⟨g, 0, none⟩) N cap)) w w2 := (hM'.out.trans (Mv.below (F := fun _ => False) hb'.out) (fun _ _ x => x.elim)).trans hM2'.out (fun k _ x => hFs.out k x)
        exact ⟨⟨i, h2, by omega, rfl, H2'.out, hU2, hS2, hT2, hM2'.out.cell ca1 hfa', hMx⟩, by simp [intOf]; omega⟩
      · have KL : Hid (Calls Try.prog 70 #[.slice (some ⟨g, 0, none⟩) N cap, .int .i64 c, .int .i64 (par c : Nat)] wr fun e w' => e = .returned (.bool false) ∧ Below wr.heap.size wr w') := K0.mono fun e w' ⟨⟨b, he, hb⟩, hw⟩ => ⟨by
          cases b with
          | true => exact absurd (hb.1 rfl) hl
          | false => exact he, hw⟩
        have hHeap := hide' (up_done hU.out (.inr hl))
        have H' := hide' H
        have hM' := hide' hM
        generalize par c = i at *
        clear K0 H hM hl hU
        have hq' := hq.out
        have e1 : (method 218 68 (.pointer (some ⟨a, 0, none⟩)) "Less").run Try.prog wr = .ok (70, .slice (some ⟨g, 0, none⟩) N cap) wr := mLess (218 - 1) a _ N cap wr ca
        go_wp2_with (go_at_call 70; refine KL.out.mono ?_; rintro e w1 ⟨rfl, hb⟩; have hb' := hide' hb; clear hb)
        first | go_end0 | refine bodyPost_ret (results_none rfl _ _ _) rfl ?_
        exact ⟨rfl, h', H'.out.below hb'.out, hHeap.out, hS.out, hT.out, hM'.out.trans (Mv.below (F := fun _ => False) hb'.out) (fun _ _ x => x.elim)⟩
end Go.Proofs.Ytmjdecgijnodhaa

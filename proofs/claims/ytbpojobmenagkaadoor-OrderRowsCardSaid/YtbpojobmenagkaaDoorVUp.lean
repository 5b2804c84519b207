/- container/heap's up over turns: what it answers. -/
import Derived.Test.YtbpojobmenagkaaDoorVMeth
namespace Go.Proofs.YtbpojobmenagkaaDoor
open Go.RowKit
theorem TH.below {w w' : World} {n : Nat} {f : Nat → Ent} {v : Value} (h : TH w n f v) (hb : Below w.heap.size w w') : TH w' n f v := by
  unfold TH at *
  refine ⟨h.1, ?_⟩
  rcases h.2 with hn | ⟨g, cap, cur, rfl, hb0, hgg, rest⟩
  · exact .inl hn
  · refine .inr ⟨g, cap, cur, rfl, hb0, ?_, rest⟩
    rw [hb.block g (Array.getElem?_eq_some_iff.1 hgg).1]
    exact hgg
theorem grown_belowV {w w' : World} (h : Below w.heap.size w w') (row : Option Nat) : w.grownBy w' row := ⟨h.os, h.tape, h.output, h.size, fun k hk _ => h.block k hk⟩
theorem grown_cellV {w w' : World} {a o g : Nat} {v : Value} (h : w.grownBy w' (some g)) (hc : w.cell? ⟨a, o, none⟩ = some v) (ha : a ≠ g) : w'.cell? ⟨a, o, none⟩ = some v := by
  have e := h.block a (cell_lt hc) (fun e => ha (by cases e; rfl))
  unfold World.cell? at hc ⊢
  simp only [e]
  exact hc
set_option maxRecDepth 100000 in
set_option maxHeartbeats 4000000 in
theorem upH (a N n j : Nat) (g cap : Nat) (h : Nat → Ent) (hj : j < n) (hnN : n ≤ N) (hn : N ≤ 1000) (w : World) (H : TH w N h (.slice (some ⟨g, 0, none⟩) N cap)) (hU : UpAt h n j) (ca : w.cell? ⟨a, 0, none⟩ = some (.slice (some ⟨g, 0, none⟩) N cap)) (hfa : a ≠ g) :
    Calls Tryd.prog 39 #[.iface 50 (.pointer (some ⟨a, 0, none⟩)), .int .i64 j] w fun e w' => e = .returned (.tuple #[]) ∧ ∃ h', TH w' N h' (.slice (some ⟨g, 0, none⟩) N cap) ∧ IsHeap h' n ∧ SameE N h h' ∧ (∀ k, n ≤ k → h' k = h k) ∧ w.grownBy w' (some g) := by
  have H' := hide' H
  have hU' := hide' hU
  clear H hU
  go_enter Tryd.func39, Tryd.ntmps39
  go_wp2
  go_loopw [1] (fun k wr => ∃ (c : Nat) (h' : Nat → Ent), c < n ∧ k = .int .i64 c ∧ TH wr N h' (.slice (some ⟨g, 0, none⟩) N cap) ∧ Hid (UpAt h' n c) ∧ Hid (SameE N h h') ∧ Hid (∀ k, n ≤ k → h' k = h k) ∧ wr.cell? ⟨a, 0, none⟩ = some (.slice (some ⟨g, 0, none⟩) N cap) ∧ w.grownBy wr (some g)) (fun k _ => (intOf k).toNat)
  case atStart => exact ⟨j, h, hj, rfl, H'.out, hU', SameE.refl _ _, fun _ _ => rfl, ca, World.grownBy.refl _ _⟩
  case round =>
    clear H' hU' ca
    obtain ⟨c, h', hc, rfl, H, hU, hS, hT, ca, hM⟩ := hrel
    by_cases h0 : c = 0
    · subst h0
      have H' := hide' H
      have hM' := hide' hM
      clear H hM
      go_wp2
      first | go_end0 | refine bodyPost_ret (results_none rfl _ _ _) rfl ?_
      exact ⟨rfl, h', H'.out, up_done hU.out (.inl rfl), hS.out, hT.out, hM'.out⟩
    · have hp := par_lt (k := c) (by omega)
      have hq : Hid (((c : Int) - 1).tdiv 2 = ((par c : Nat) : Int)) := by show _ = _; unfold par; rw [Int.tdiv_eq_ediv_of_nonneg (by omega)]; omega
      have hbe : (((par c : Nat) : Int) == (c : Int)) = false := by rw [beq_eq_false_iff_ne]; omega
      have K0 := lessT N h' c (par c) (by omega) (by omega) (by omega) g cap wr H
      by_cases hl : ltE (h' c) (h' (par c))
      · have KL : Hid (Calls Tryd.prog 74 #[.slice (some ⟨g, 0, none⟩) N cap, .int .i64 c, .int .i64 (par c : Nat)] wr fun e w' => e = .returned (.bool true) ∧ Below wr.heap.size wr w') := K0.mono fun e w' ⟨⟨b, he, hb⟩, hw⟩ => ⟨by rw [he, hb.2 hl], hw⟩
        have KS : Hid (∀ W, Below wr.heap.size wr W → Calls Tryd.prog 77 #[.slice (some ⟨g, 0, none⟩) N cap, .int .i64 (par c : Nat), .int .i64 c] W fun e w' => e = .returned (.tuple #[]) ∧ TH w' N (swF h' (par c) c) (.slice (some ⟨g, 0, none⟩) N cap) ∧ W.grownBy w' (some g)) := fun W hW => swapT N h' (par c) c (by omega) (by omega) (by omega) g cap W (TH.below H hW)
        have hU2 : Hid (UpAt ((swF h' (par c) c)) n (par c)) := by exact up_step hU.out (by omega) hc hl
        have hS2 : Hid (SameE N h (swF h' (par c) c)) := hS.out.trans (SameE.sw h' (by omega) (by omega))
        have hT2 : Hid (∀ k, n ≤ k → swF h' (par c) c k = h k) := fun k hk => by rw [swF_o h' (by omega) (by omega)]; exact hT.out k hk
        have hM' := hide' hM
        generalize hh2 : swF h' (par c) c = h2 at *
        generalize par c = i at *
        clear hh2 K0 H hM hl
        have hq' := hq.out
        have e1 : (method 209 50 (.pointer (some ⟨a, 0, none⟩)) "Less").run Tryd.prog wr = .ok (74, .slice (some ⟨g, 0, none⟩) N cap) wr := mLess (209 - 1) a _ N cap wr ca
        go_wp2_with (first | (go_at_call 74; refine KL.out.mono ?_; rintro e w1 ⟨rfl, hb⟩; have hb' := hide' hb; have ca1 := cell_over ca hb; have e2 : (method 209 50 (.pointer (some ⟨a, 0, none⟩)) "Swap").run Tryd.prog w1 = .ok (77, .slice (some ⟨g, 0, none⟩) N cap) w1 := mSwap (209 - 1) a _ N cap w1 ca1; clear hb) | (go_at_call 77; refine (KS.out _ hb'.out).mono ?_; rintro e w2 ⟨rfl, H2, hM2⟩; have H2' := hide' H2; have hM2' := hide' hM2; clear H2 hM2))
        have hMx : w.grownBy w2 (some g) := (hM'.out.trans (grown_belowV hb'.out _)).trans hM2'.out
        exact ⟨⟨i, h2, by omega, rfl, H2'.out, hU2, hS2, hT2, grown_cellV hM2'.out ca1 hfa, hMx⟩, by simp [intOf]; omega⟩
      · have KL : Hid (Calls Tryd.prog 74 #[.slice (some ⟨g, 0, none⟩) N cap, .int .i64 c, .int .i64 (par c : Nat)] wr fun e w' => e = .returned (.bool false) ∧ Below wr.heap.size wr w') := K0.mono fun e w' ⟨⟨b, he, hb⟩, hw⟩ => ⟨by
          cases b with
          | true => exact absurd (hb.1 rfl) hl
          | false => exact he, hw⟩
        have hHeap := hide' (up_done hU.out (.inr hl))
        have H' := hide' H
        have hM' := hide' hM
        generalize par c = i at *
        clear K0 H hM hl hU
        have hq' := hq.out
        have e1 : (method 209 50 (.pointer (some ⟨a, 0, none⟩)) "Less").run Tryd.prog wr = .ok (74, .slice (some ⟨g, 0, none⟩) N cap) wr := mLess (209 - 1) a _ N cap wr ca
        go_wp2_with (go_at_call 74; refine KL.out.mono ?_; rintro e w1 ⟨rfl, hb⟩; have hb' := hide' hb; clear hb)
        first | go_end0 | refine bodyPost_ret (results_none rfl _ _ _) rfl ?_
        exact ⟨rfl, h', TH.below H'.out hb'.out, hHeap.out, hS.out, hT.out, hM'.out.trans (grown_belowV hb'.out _)⟩
end Go.Proofs.YtbpojobmenagkaaDoor

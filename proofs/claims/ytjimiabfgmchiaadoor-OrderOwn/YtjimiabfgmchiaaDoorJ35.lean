/- container/heap's down over turns: what it answers. -/
import Derived.Test.YtjimiabfgmchiaaDoorJ34
namespace Go.Proofs.YtjimiabfgmchiaaDoor
open Go.RowKit
theorem par_two {k c : Nat} (h : 0 < k) (e : par k = c) : k = 2 * c + 1 ∨ k = 2 * c + 2 := by unfold par at e; omega
theorem par_kid {k c : Nat} (h : k = 2 * c + 1 ∨ k = 2 * c + 2) : par k = c := by unfold par; omega
theorem DW.mono {f : Nat → Ent} {n i : Nat} {e e' : Prop} (h : DW f n i e) (hm : e → e') : DW f n i e' := ⟨fun k k0 hk hp he => h.1 k k0 hk hp (fun x => he (hm x)), h.2⟩
/-- What down leaves: moved, a heap; not moved, one that is to be lifted. -/
def DownR (f : Nat → Ent) (n i0 : Nat) (b : Bool) : Prop := (b = true → IsHeap f n) ∧ (b = false → UpAt f n i0)
theorem down_end {f : Nat → Ent} {n i0 c : Nat} (h : DW f n c (c = i0)) (hc : i0 ≤ c) (hk : ∀ k, 0 < k → k < n → par k = c → OKh f k) : DownR f n i0 (decide (i0 < c)) := by
  refine ⟨fun h1 => ?_, fun h1 => ?_⟩
  · have : i0 < c := by simpa using h1
    exact dw_heap (h.mono (fun e => by omega)) hk
  · have : c = i0 := by have : ¬ i0 < c := by simpa using h1
                        omega
    subst this
    exact dw_up h hk
def DownPost (N n i0 : Nat) (h : Nat → Ent) (g cap : Nat) (w : World) (e : Ending) (w' : World) : Prop :=
  ∃ b, e = .returned (.bool b) ∧ ∃ h', TH w' N h' (.slice (some ⟨g, 0, none⟩) N cap) ∧ SameE N h h' ∧ (∀ k, n ≤ k → h' k = h k) ∧ DownR h' n i0 b ∧ w.grownBy w' (some g)
set_option maxRecDepth 100000 in
set_option maxHeartbeats 8000000 in
theorem downH (a N n i0 : Nat) (g cap : Nat) (h : Nat → Ent) (hi : i0 < n) (hnN : n ≤ N) (hN : N ≤ 1000) (w : World) (H : TH w N h (.slice (some ⟨g, 0, none⟩) N cap)) (hD : DW h n i0 True) (ca : w.cell? ⟨a, 0, none⟩ = some (.slice (some ⟨g, 0, none⟩) N cap)) (hfa : a ≠ g) :
    Calls Tryd.prog 58 #[.iface 79 (.pointer (some ⟨a, 0, none⟩)), .int .i64 i0, .int .i64 n] w (DownPost N n i0 h g cap w) := by
  have H' := hide' H
  have hD' := hide' hD
  clear H hD
  go_enter Tryd.func58, Tryd.ntmps58
  go_wp2
  go_loopw [7] (fun iv wr => ∃ (c : Nat) (h' : Nat → Ent), c < n ∧ i0 ≤ c ∧ iv = .int .i64 c ∧ TH wr N h' (.slice (some ⟨g, 0, none⟩) N cap) ∧ Hid (SameE N h h') ∧ Hid (∀ k, n ≤ k → h' k = h k) ∧ Hid (DW h' n c (c = i0)) ∧ wr.cell? ⟨a, 0, none⟩ = some (.slice (some ⟨g, 0, none⟩) N cap) ∧ w.grownBy wr (some g)) (fun iv _ => ((n : Int) - intOf iv).toNat)
  case atStart => exact ⟨i0, h, hi, Nat.le_refl _, rfl, H'.out, SameE.refl _ _, fun _ _ => rfl, hD'.out.mono (fun _ => rfl), ca, World.grownBy.refl _ _⟩
  case round =>
    clear H' hD' ca
    obtain ⟨c, h', hc, hci, rfl, H, hS, hT, hD, ca, hM⟩ := hrel
    by_cases h1 : 2 * c + 1 < n
    · by_cases h2 : 2 * c + 2 < n
      · by_cases hl1 : ltE (h' (2 * c + 2)) (h' (2 * c + 1))
        · skip
          have K2 := hide' (fun W (hW : Below wr.heap.size wr W) => lessT N h' (2 * c + 2) c (by omega) (by omega) (by omega) g cap W (TH.below H hW))
          have KS := hide' (fun W (hW : Below wr.heap.size wr W) => swapT N h' c (2 * c + 2) (by omega) (by omega) (by omega) g cap W (TH.below H hW))
          have K1 : Hid (Calls Tryd.prog 88 #[.slice (some ⟨g, 0, none⟩) N cap, .int .i64 ((2 * c + 2 : Nat) : Int), .int .i64 ((2 * c + 1 : Nat) : Int)] wr fun e w' => e = .returned (.bool true) ∧ Below wr.heap.size wr w') := (lessT N h' (2 * c + 2) (2 * c + 1) (by omega) (by omega) (by omega) g cap wr H).mono fun e w' ⟨⟨b, he, hb⟩, hw⟩ => ⟨by
            rw [he, hb.2 hl1], hw⟩
          have hmin : ∀ k, 0 < k → k < n → par k = c → k ≠ (2 * c + 2) → ¬ ltE (h' k) (h' (2 * c + 2)) := fun k k0 hk ek hne => by
            have : k = 2 * c + 1 := by have := par_two k0 ek; omega
            subst this; exact hl1.asymm
          by_cases hl2 : ltE (h' (2 * c + 2)) (h' c)
          · have K2' : Hid (∀ W, Below wr.heap.size wr W → Calls Tryd.prog 88 #[.slice (some ⟨g, 0, none⟩) N cap, .int .i64 (((2 * c + 2) : Nat) : Int), .int .i64 c] W fun e w' => e = .returned (.bool true) ∧ Below W.heap.size W w') := fun W hW => (K2.out W hW).mono fun e w' ⟨⟨b, he, hb⟩, hw⟩ => ⟨by rw [he, hb.2 hl2], hw⟩
            have hD2 : Hid (DW ((swF h' c (2 * c + 2))) n (2 * c + 2) ((2 * c + 2) = i0)) := by exact (dw_step hD.out (by omega) (by omega) (par_kid (by omega)) hl2 hmin).mono (fun x => x.elim)
            have hS2 : Hid (SameE N h (swF h' c (2 * c + 2))) := hS.out.trans (SameE.sw h' (by omega) (by omega))
            have hT2 : Hid (∀ k, n ≤ k → swF h' c (2 * c + 2) k = h k) := fun k hk => by rw [swF_o h' (by omega) (by omega)]; exact hT.out k hk
            have hM' := hide' hM
            generalize hh2 : swF h' c (2 * c + 2) = h2 at *
            clear hh2 H hM hl2 hmin K2 hD hl1
            have en : ((2 * c + 1 : Nat) : Int) = 2 * (c : Int) + 1 := by omega
            have en2 : ((2 * c + 2 : Nat) : Int) = 2 * (c : Int) + 1 + 1 := by omega
            rw [en2] at KS K2'
            rw [en, en2] at K1
            have e1 : (method 228 79 (.pointer (some ⟨a, 0, none⟩)) "Less").run Tryd.prog wr = .ok (88, .slice (some ⟨g, 0, none⟩) N cap) wr := mLess (228 - 1) a _ N cap wr ca
            go_wp2_with (first | (go_at_call 88; refine K1.out.mono ?_; rintro e w1 ⟨rfl, hb⟩; have hb1 := hide' hb; have ca1 := cell_over ca hb; have e2 : (method 228 79 (.pointer (some ⟨a, 0, none⟩)) "Less").run Tryd.prog w1 = .ok (88, .slice (some ⟨g, 0, none⟩) N cap) w1 := mLess (228 - 1) a _ N cap w1 ca1; clear hb K1) | (go_at_call 88; refine (K2'.out _ hb1.out).mono ?_; rintro e w2 ⟨rfl, hb⟩; have hb2 := hide' (hb1.out.trans (hb.mono hb1.out.size)); have ca2 := cell_over ca hb2.out; have e3 : (method 228 79 (.pointer (some ⟨a, 0, none⟩)) "Swap").run Tryd.prog w2 = .ok (91, .slice (some ⟨g, 0, none⟩) N cap) w2 := mSwap (228 - 1) a _ N cap w2 ca2; clear hb) | (go_at_call 91; refine (KS.out _ hb2.out).mono ?_; rintro e w3 ⟨rfl, H3, hM3⟩; have H3' := hide' H3; have hM3' := hide' hM3; clear H3 hM3))
            have hMx : w.grownBy w3 (some g) := (hM'.out.trans (grown_belowV hb2.out _)).trans hM3'.out
            exact ⟨⟨(2 * c + 2), h2, by omega, by omega, by go_num, H3'.out, hS2, hT2, hD2, grown_cellV hM3'.out ca2 hfa, hMx⟩, by simp [intOf]; omega⟩
          · have K2' : Hid (∀ W, Below wr.heap.size wr W → Calls Tryd.prog 88 #[.slice (some ⟨g, 0, none⟩) N cap, .int .i64 (((2 * c + 2) : Nat) : Int), .int .i64 c] W fun e w' => e = .returned (.bool false) ∧ Below W.heap.size W w') := fun W hW => (K2.out W hW).mono fun e w' ⟨⟨b, he, hb⟩, hw⟩ => ⟨by
              cases b with
              | true => exact absurd (hb.1 rfl) hl2
              | false => exact he, hw⟩
            have hC : ∀ k, 0 < k → k < n → par k = c → OKh h' k := fun k k0 hk ek => by
              unfold OKh
              rw [ek]
              by_cases e : k = (2 * c + 2)
              · subst e; exact hl2
              · exact geE (hmin k k0 hk ek e) hl2
            have hEnd : Hid (DownR h' n i0 (decide (i0 < c))) := down_end hD.out hci hC
            have H' := hide' H
            have hM' := hide' hM
            clear H hM hl2 hmin K2 hD hC KS hl1
            have en : ((2 * c + 1 : Nat) : Int) = 2 * (c : Int) + 1 := by omega
            have en2 : ((2 * c + 2 : Nat) : Int) = 2 * (c : Int) + 1 + 1 := by omega
            rw [en2] at K2'
            rw [en, en2] at K1
            have e1 : (method 228 79 (.pointer (some ⟨a, 0, none⟩)) "Less").run Tryd.prog wr = .ok (88, .slice (some ⟨g, 0, none⟩) N cap) wr := mLess (228 - 1) a _ N cap wr ca
            go_wp2_with (first | (go_at_call 88; refine K1.out.mono ?_; rintro e w1 ⟨rfl, hb⟩; have hb1 := hide' hb; have ca1 := cell_over ca hb; have e2 : (method 228 79 (.pointer (some ⟨a, 0, none⟩)) "Less").run Tryd.prog w1 = .ok (88, .slice (some ⟨g, 0, none⟩) N cap) w1 := mLess (228 - 1) a _ N cap w1 ca1; clear hb K1) | (go_at_call 88; refine (K2'.out _ hb1.out).mono ?_; rintro e w2 ⟨rfl, hb⟩; have hb2 := hide' (hb1.out.trans (hb.mono hb1.out.size)); clear hb))
            go_ret
            exact ⟨_, rfl, h', TH.below H'.out hb2.out, hS.out, hT.out, hEnd.out, hM'.out.trans (grown_belowV hb2.out _)⟩
        · skip
          have K2 := hide' (fun W (hW : Below wr.heap.size wr W) => lessT N h' (2 * c + 1) c (by omega) (by omega) (by omega) g cap W (TH.below H hW))
          have KS := hide' (fun W (hW : Below wr.heap.size wr W) => swapT N h' c (2 * c + 1) (by omega) (by omega) (by omega) g cap W (TH.below H hW))
          have K1 : Hid (Calls Tryd.prog 88 #[.slice (some ⟨g, 0, none⟩) N cap, .int .i64 ((2 * c + 2 : Nat) : Int), .int .i64 ((2 * c + 1 : Nat) : Int)] wr fun e w' => e = .returned (.bool false) ∧ Below wr.heap.size wr w') := (lessT N h' (2 * c + 2) (2 * c + 1) (by omega) (by omega) (by omega) g cap wr H).mono fun e w' ⟨⟨b, he, hb⟩, hw⟩ => ⟨by
            cases b with
            | true => exact absurd (hb.1 rfl) hl1
            | false => exact he, hw⟩
          have hmin : ∀ k, 0 < k → k < n → par k = c → k ≠ (2 * c + 1) → ¬ ltE (h' k) (h' (2 * c + 1)) := fun k k0 hk ek hne => by
            have : k = 2 * c + 2 := by have := par_two k0 ek; omega
            subst this; exact hl1
          by_cases hl2 : ltE (h' (2 * c + 1)) (h' c)
          · have K2' : Hid (∀ W, Below wr.heap.size wr W → Calls Tryd.prog 88 #[.slice (some ⟨g, 0, none⟩) N cap, .int .i64 (((2 * c + 1) : Nat) : Int), .int .i64 c] W fun e w' => e = .returned (.bool true) ∧ Below W.heap.size W w') := fun W hW => (K2.out W hW).mono fun e w' ⟨⟨b, he, hb⟩, hw⟩ => ⟨by rw [he, hb.2 hl2], hw⟩
            have hD2 : Hid (DW ((swF h' c (2 * c + 1))) n (2 * c + 1) ((2 * c + 1) = i0)) := by exact (dw_step hD.out (by omega) (by omega) (par_kid (by omega)) hl2 hmin).mono (fun x => x.elim)
            have hS2 : Hid (SameE N h (swF h' c (2 * c + 1))) := hS.out.trans (SameE.sw h' (by omega) (by omega))
            have hT2 : Hid (∀ k, n ≤ k → swF h' c (2 * c + 1) k = h k) := fun k hk => by rw [swF_o h' (by omega) (by omega)]; exact hT.out k hk
            have hM' := hide' hM
            generalize hh2 : swF h' c (2 * c + 1) = h2 at *
            clear hh2 H hM hl2 hmin K2 hD hl1
            have en : ((2 * c + 1 : Nat) : Int) = 2 * (c : Int) + 1 := by omega
            have en2 : ((2 * c + 2 : Nat) : Int) = 2 * (c : Int) + 1 + 1 := by omega
            rw [en] at KS K2'
            rw [en, en2] at K1
            have e1 : (method 228 79 (.pointer (some ⟨a, 0, none⟩)) "Less").run Tryd.prog wr = .ok (88, .slice (some ⟨g, 0, none⟩) N cap) wr := mLess (228 - 1) a _ N cap wr ca
            go_wp2_with (first | (go_at_call 88; refine K1.out.mono ?_; rintro e w1 ⟨rfl, hb⟩; have hb1 := hide' hb; have ca1 := cell_over ca hb; have e2 : (method 228 79 (.pointer (some ⟨a, 0, none⟩)) "Less").run Tryd.prog w1 = .ok (88, .slice (some ⟨g, 0, none⟩) N cap) w1 := mLess (228 - 1) a _ N cap w1 ca1; clear hb K1) | (go_at_call 88; refine (K2'.out _ hb1.out).mono ?_; rintro e w2 ⟨rfl, hb⟩; have hb2 := hide' (hb1.out.trans (hb.mono hb1.out.size)); have ca2 := cell_over ca hb2.out; have e3 : (method 228 79 (.pointer (some ⟨a, 0, none⟩)) "Swap").run Tryd.prog w2 = .ok (91, .slice (some ⟨g, 0, none⟩) N cap) w2 := mSwap (228 - 1) a _ N cap w2 ca2; clear hb) | (go_at_call 91; refine (KS.out _ hb2.out).mono ?_; rintro e w3 ⟨rfl, H3, hM3⟩; have H3' := hide' H3; have hM3' := hide' hM3; clear H3 hM3))
            have hMx : w.grownBy w3 (some g) := (hM'.out.trans (grown_belowV hb2.out _)).trans hM3'.out
            exact ⟨⟨(2 * c + 1), h2, by omega, by omega, by go_num, H3'.out, hS2, hT2, hD2, grown_cellV hM3'.out ca2 hfa, hMx⟩, by simp [intOf]; omega⟩
          · have K2' : Hid (∀ W, Below wr.heap.size wr W → Calls Tryd.prog 88 #[.slice (some ⟨g, 0, none⟩) N cap, .int .i64 (((2 * c + 1) : Nat) : Int), .int .i64 c] W fun e w' => e = .returned (.bool false) ∧ Below W.heap.size W w') := fun W hW => (K2.out W hW).mono fun e w' ⟨⟨b, he, hb⟩, hw⟩ => ⟨by
              cases b with
              | true => exact absurd (hb.1 rfl) hl2
              | false => exact he, hw⟩
            have hC : ∀ k, 0 < k → k < n → par k = c → OKh h' k := fun k k0 hk ek => by
              unfold OKh
              rw [ek]
              by_cases e : k = (2 * c + 1)
              · subst e; exact hl2
              · exact geE (hmin k k0 hk ek e) hl2
            have hEnd : Hid (DownR h' n i0 (decide (i0 < c))) := down_end hD.out hci hC
            have H' := hide' H
            have hM' := hide' hM
            clear H hM hl2 hmin K2 hD hC KS hl1
            have en : ((2 * c + 1 : Nat) : Int) = 2 * (c : Int) + 1 := by omega
            have en2 : ((2 * c + 2 : Nat) : Int) = 2 * (c : Int) + 1 + 1 := by omega
            rw [en] at K2'
            rw [en, en2] at K1
            have e1 : (method 228 79 (.pointer (some ⟨a, 0, none⟩)) "Less").run Tryd.prog wr = .ok (88, .slice (some ⟨g, 0, none⟩) N cap) wr := mLess (228 - 1) a _ N cap wr ca
            go_wp2_with (first | (go_at_call 88; refine K1.out.mono ?_; rintro e w1 ⟨rfl, hb⟩; have hb1 := hide' hb; have ca1 := cell_over ca hb; have e2 : (method 228 79 (.pointer (some ⟨a, 0, none⟩)) "Less").run Tryd.prog w1 = .ok (88, .slice (some ⟨g, 0, none⟩) N cap) w1 := mLess (228 - 1) a _ N cap w1 ca1; clear hb K1) | (go_at_call 88; refine (K2'.out _ hb1.out).mono ?_; rintro e w2 ⟨rfl, hb⟩; have hb2 := hide' (hb1.out.trans (hb.mono hb1.out.size)); clear hb))
            go_ret
            exact ⟨_, rfl, h', TH.below H'.out hb2.out, hS.out, hT.out, hEnd.out, hM'.out.trans (grown_belowV hb2.out _)⟩
      · skip
        have K2 := hide' (fun W (hW : Below wr.heap.size wr W) => lessT N h' (2 * c + 1) c (by omega) (by omega) (by omega) g cap W (TH.below H hW))
        have KS := hide' (fun W (hW : Below wr.heap.size wr W) => swapT N h' c (2 * c + 1) (by omega) (by omega) (by omega) g cap W (TH.below H hW))
        have hmin : ∀ k, 0 < k → k < n → par k = c → k ≠ (2 * c + 1) → ¬ ltE (h' k) (h' (2 * c + 1)) := fun k k0 hk ek hne => by
          have := par_two k0 ek; omega
        by_cases hl2 : ltE (h' (2 * c + 1)) (h' c)
        · have K2' : Hid (∀ W, Below wr.heap.size wr W → Calls Tryd.prog 88 #[.slice (some ⟨g, 0, none⟩) N cap, .int .i64 (((2 * c + 1) : Nat) : Int), .int .i64 c] W fun e w' => e = .returned (.bool true) ∧ Below W.heap.size W w') := fun W hW => (K2.out W hW).mono fun e w' ⟨⟨b, he, hb⟩, hw⟩ => ⟨by rw [he, hb.2 hl2], hw⟩
          have hD2 : Hid (DW ((swF h' c (2 * c + 1))) n (2 * c + 1) ((2 * c + 1) = i0)) := by exact (dw_step hD.out (by omega) (by omega) (par_kid (by omega)) hl2 hmin).mono (fun x => x.elim)
          have hS2 : Hid (SameE N h (swF h' c (2 * c + 1))) := hS.out.trans (SameE.sw h' (by omega) (by omega))
          have hT2 : Hid (∀ k, n ≤ k → swF h' c (2 * c + 1) k = h k) := fun k hk => by rw [swF_o h' (by omega) (by omega)]; exact hT.out k hk
          have hM' := hide' hM
          generalize hh2 : swF h' c (2 * c + 1) = h2 at *
          clear hh2 H hM hl2 hmin K2 hD
          have en : ((2 * c + 1 : Nat) : Int) = 2 * (c : Int) + 1 := by omega
          have en2 : ((2 * c + 2 : Nat) : Int) = 2 * (c : Int) + 1 + 1 := by omega
          rw [en] at KS K2'
          have e2 : (method 228 79 (.pointer (some ⟨a, 0, none⟩)) "Less").run Tryd.prog wr = .ok (88, .slice (some ⟨g, 0, none⟩) N cap) wr := mLess (228 - 1) a _ N cap wr ca
          have hb1 : Hid (Below wr.heap.size wr wr) := Below.refl _ _
          go_wp2_with (first | (go_at_call 88; refine (K2'.out _ hb1.out).mono ?_; rintro e w2 ⟨rfl, hb⟩; have hb2 := hide' (hb1.out.trans (hb.mono hb1.out.size)); have ca2 := cell_over ca hb2.out; have e3 : (method 228 79 (.pointer (some ⟨a, 0, none⟩)) "Swap").run Tryd.prog w2 = .ok (91, .slice (some ⟨g, 0, none⟩) N cap) w2 := mSwap (228 - 1) a _ N cap w2 ca2; clear hb) | (go_at_call 91; refine (KS.out _ hb2.out).mono ?_; rintro e w3 ⟨rfl, H3, hM3⟩; have H3' := hide' H3; have hM3' := hide' hM3; clear H3 hM3))
          have hMx : w.grownBy w3 (some g) := (hM'.out.trans (grown_belowV hb2.out _)).trans hM3'.out
          exact ⟨⟨(2 * c + 1), h2, by omega, by omega, by go_num, H3'.out, hS2, hT2, hD2, grown_cellV hM3'.out ca2 hfa, hMx⟩, by simp [intOf]; omega⟩
        · have K2' : Hid (∀ W, Below wr.heap.size wr W → Calls Tryd.prog 88 #[.slice (some ⟨g, 0, none⟩) N cap, .int .i64 (((2 * c + 1) : Nat) : Int), .int .i64 c] W fun e w' => e = .returned (.bool false) ∧ Below W.heap.size W w') := fun W hW => (K2.out W hW).mono fun e w' ⟨⟨b, he, hb⟩, hw⟩ => ⟨by
            cases b with
            | true => exact absurd (hb.1 rfl) hl2
            | false => exact he, hw⟩
          have hC : ∀ k, 0 < k → k < n → par k = c → OKh h' k := fun k k0 hk ek => by
            unfold OKh
            rw [ek]
            by_cases e : k = (2 * c + 1)
            · subst e; exact hl2
            · exact geE (hmin k k0 hk ek e) hl2
          have hEnd : Hid (DownR h' n i0 (decide (i0 < c))) := down_end hD.out hci hC
          have H' := hide' H
          have hM' := hide' hM
          clear H hM hl2 hmin K2 hD hC KS
          have en : ((2 * c + 1 : Nat) : Int) = 2 * (c : Int) + 1 := by omega
          have en2 : ((2 * c + 2 : Nat) : Int) = 2 * (c : Int) + 1 + 1 := by omega
          rw [en] at K2'
          have e2 : (method 228 79 (.pointer (some ⟨a, 0, none⟩)) "Less").run Tryd.prog wr = .ok (88, .slice (some ⟨g, 0, none⟩) N cap) wr := mLess (228 - 1) a _ N cap wr ca
          have hb1 : Hid (Below wr.heap.size wr wr) := Below.refl _ _
          go_wp2_with (first | (go_at_call 88; refine (K2'.out _ hb1.out).mono ?_; rintro e w2 ⟨rfl, hb⟩; have hb2 := hide' (hb1.out.trans (hb.mono hb1.out.size)); clear hb))
          go_ret
          exact ⟨_, rfl, h', TH.below H'.out hb2.out, hS.out, hT.out, hEnd.out, hM'.out.trans (grown_belowV hb2.out _)⟩
    · have hC : ∀ k, 0 < k → k < n → par k = c → OKh h' k := fun k k0 hk ek => by have := par_two k0 ek; omega
      have hEnd : Hid (DownR h' n i0 (decide (i0 < c))) := down_end hD.out hci hC
      have H' := hide' H
      have hM' := hide' hM
      clear H hM hD hC
      go_wp2
      go_ret
      exact ⟨_, rfl, h', H'.out, hS.out, hT.out, hEnd.out, hM'.out⟩
end Go.Proofs.YtjimiabfgmchiaaDoor

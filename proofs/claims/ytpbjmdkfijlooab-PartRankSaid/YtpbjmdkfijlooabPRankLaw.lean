/- PartRank answers true for every row of labels; it makes new memory alone. -/
import Derived.Test.YtpbjmdkfijlooabPStep
import Derived.Test.YtpbjmdkfijlooabPWakes
namespace Go.Proofs.Ytpbjmdkfijlooab
open Go.RowKit
theorem ints_take (l : List Nat) (h : l.length ≤ 25) : (ints l).take 25 = ints l := List.take_of_length_le (by rw [ints_len]; exact h)
theorem keepT (l : List Int) (v1 v2 : Value) (W : World) (r1 : RowI W v1 l) (r2 : RowI W v2 l) (h : l.length ≤ 1000000) : Calls Try.prog 13 #[v1, v2] W fun e w' => e = .returned (.bool true) ∧ Below W.heap.size W w' := by
  have := keepInts l l v1 v2 W r1 r2 h h
  simpa using this
theorem rowI_cell {W : World} {g o n cap : Nat} {l : List Int} (h : RowI W (.slice (some ⟨g, o, none⟩) n cap) l) : ∀ i z, l[i]? = some z → W.cell? ⟨g, o + i, none⟩ = some (.int .i64 z) := fun i z hz => by
  obtain ⟨oa, cap', e, _, h⟩ := h
  cases e
  obtain ⟨g', o', e, h⟩ := h i z hz
  cases e
  exact h
/-- What is kept of a row, and of all that lay ahead. -/
theorem keepR {w W w1 : World} {v : Value} {l : List Int} (h : RowI W v l ∧ Below w.heap.size w W) (hb : Below W.heap.size W w1) : RowI w1 v l ∧ Below w.heap.size w w1 :=
  ⟨h.1.below hb (Nat.le_refl _), h.2.trans (hb.mono h.2.size)⟩
theorem keepR2 {w W w1 : World} {v u : Value} {l m : List Int} (h : RowI W v l ∧ RowI W u m ∧ Below w.heap.size w W) (hb : Below W.heap.size W w1) : RowI w1 v l ∧ RowI w1 u m ∧ Below w.heap.size w w1 :=
  ⟨h.1.below hb (Nat.le_refl _), h.2.1.below hb (Nat.le_refl _), h.2.2.trans (hb.mono h.2.2.size)⟩
set_option maxRecDepth 100000 in
set_option maxHeartbeats 4000000 in
theorem partRank_walk (L : List Int) (v : Value) (w : World) (hr : RowI w v L) (hwf : ∀ z ∈ L, (Lit.int .i64 z).wf = true) :
    Calls Try.prog 3 #[v] w fun e w' => e = .returned (.bool true) ∧ Below w.heap.size w w' := by
  obtain ⟨A, hA⟩ : ∃ A, pat (L.take 25) = A := ⟨_, rfl⟩
  have hlen : A.length ≤ 25 := by rw [← hA, pat, patG_len, List.length_take]; omega
  have hleg : Leg 0 A := by rw [← hA]; exact leg_pat [] (L.take 25)
  have hAl : (L.take 25).length = A.length := by rw [← hA, pat, patG_len]
  have K1 := hide' (few L v 25 w hr (by omega))
  have K2 : Hid (∀ v' W, RowI W v' (L.take 25) → Calls Try.prog 8 #[v'] W fun e w' => ∃ g, e = .returned (.tuple #[.slice (some ⟨g, 0, none⟩) A.length A.length, .int .i64 0]) ∧ w'.ownsRow W.heap.size 3 1 (.slice (some ⟨g, 0, none⟩) A.length A.length) A.length (cellsI (ints A)) ∧ Below W.heap.size W w') := fun v' W h => by
    have := ofP (L.take 25) v' W h (by rw [List.length_take]; omega) (fun z hz => hwf z (List.mem_of_mem_take hz))
    rw [hA, hAl] at this
    exact this
  have K3 : Hid (∀ v' W, RowI W v' (ints A) → Calls Try.prog 9 #[v', .int .i64 25] W fun e w' => ∃ v'', e = .returned v'' ∧ RowI w' v'' (ints A) ∧ Below W.heap.size W w') := fun v' W h => by
    have := few (ints A) v' 25 W h (by omega)
    rwa [ints_take A hlen] at this
  have K4 : Hid (∀ v' W, RowI W v' (ints A) → Calls Try.prog 10 #[v'] W fun e w' => e = .returned (.tuple #[.int .u64 ((rk 0 A : Nat) : Int), .int .i64 0]) ∧ Below W.heap.size W w') := fun v' W h => rankP A v' W h hlen hleg
  have K5 := hide' (bellP A.length hlen)
  have hlt := rk_lt hleg
  have hmx := ways_small (l := A.length) (b := 0) (by omega)
  have K6 : Hid (∀ W, Calls Try.prog 12 #[.int .i64 A.length, .int .u64 ((rk 0 A : Nat) : Int)] W fun e w' => ∃ g, e = .returned (.tuple #[.slice (some ⟨g, 0, none⟩) A.length A.length, .int .i64 0]) ∧ w'.ownsRow W.heap.size 3 1 (.slice (some ⟨g, 0, none⟩) A.length A.length) A.length (cellsI (ints A)) ∧ Below W.heap.size W w') := fun W => by
    have := atP A.length (rk 0 A) hlen hlt W
    rwa [at_rk hleg] at this
  have K7 : Hid (∀ v1 v2 W, RowI W v1 (ints A) → RowI W v2 (ints A) → Calls Try.prog 13 #[v1, v2] W fun e w' => e = .returned (.bool true) ∧ Below W.heap.size W w') := fun v1 v2 W r1 r2 => keepT _ v1 v2 W r1 r2 (by rw [ints_len]; omega)
  have K8 := hide' wakes
  have K9 : Hid (∀ v' W, RowI W v' (ints A) → Calls Try.prog 15 #[v'] W fun e w' => (∃ p x t g cap, A = p ++ x :: t ∧ x < blks 0 p ∧ Full (blks 0 p) t ∧ e = .returned (.tuple #[.slice (some ⟨g, 0, none⟩) A.length cap, .bool true]) ∧ w'.ownsRow W.heap.size 3 1 (.slice (some ⟨g, 0, none⟩) A.length cap) A.length (cellsI (ints (p ++ (x + 1) :: List.replicate t.length 0))) ∧ Below W.heap.size W w') ∨
      (e = .returned (.tuple #[.slice none 0 0, .bool false]) ∧ Full 0 A ∧ Below W.heap.size W w')) := fun v' W h => nextP A v' W h hlen hleg
  have Hleg := hide' hleg
  have hfull : Hid (Full 0 A → rk 0 A + 1 = ways A.length 0) := fun h => rk_full h
  obtain ⟨oa, cap, rfl, _, _⟩ := hr
  clear hA hAl hwf hleg
  generalize hrk : rk 0 A = r at *
  generalize hwy : ways A.length 0 = bell at *
  have hrk' := hide' hrk
  clear hrk hwy
  go_enter Try.func3, Try.ntmps3
  go_wp2_with fail
  refine K1.out.mono ?_
  rintro e w1 ⟨v1, rfl, hr1, hb1⟩
  go_wp2_with fail
  refine (K2.out _ _ hr1).mono ?_
  rintro e w2 ⟨g, rfl, hown, hb2⟩
  have hk := keepR ⟨RowI.of_owns hown, hb1.trans (hb2.mono hb1.size)⟩ (Below.refl _ w2)
  clear hr1 hb1 hb2 hown K1 K2
  generalize hn : A.length = n at *
  go_wp2_with fail
  refine (K3.out _ _ hk.1).mono ?_
  rintro e w3 ⟨v3, rfl, hr3, hb⟩
  replace hk := keepR hk hb
  clear hb
  go_wp2_with fail
  refine (K4.out _ _ hr3).mono ?_
  rintro e w4 ⟨rfl, hb⟩
  replace hk := keepR hk hb
  clear hb hr3
  go_wp2_with fail
  refine (K5.out _).mono ?_
  rintro e w5 ⟨rfl, hb⟩
  replace hk := keepR hk hb
  clear hb
  go_wp2_with fail
  refine (K6.out _).mono ?_
  rintro e w6 ⟨g6, rfl, hown6, hb⟩
  replace hk := keepR hk hb
  have hr6 := RowI.of_owns hown6
  clear hb hown6
  have hd : decide ((bell : Int) ≤ (r : Int)) = false := by simp; omega
  go_wp2_with (first | (go_at_call 13; refine (K7.out _ _ _ hk.1 hr6).mono ?_; rintro e w7 ⟨rfl, hb⟩; replace hk := keepR hk hb; clear hb) | (go_at_call 14; refine (K8.out _).mono ?_; rintro e w8 ⟨rfl, hb⟩; replace hk := keepR hk hb; clear hb) | (go_at_call 9; refine (K3.out _ _ hk.1).mono ?_; rintro e w9 ⟨v9, rfl, hr9, hb⟩; replace hk := keepR hk hb; clear hb))
  refine (K9.out _ _ hr9).mono ?_
  rintro e w10 (⟨p, x, t, gc, capc, hA1, hx, hF, rfl, hownc, hb⟩ | ⟨rfl, hF, hb⟩)
  · replace hk := keepR hk hb
    obtain ⟨C, hC⟩ : ∃ C, p ++ (x + 1) :: List.replicate t.length 0 = C := ⟨_, rfl⟩
    have hkc : RowI w10 (.slice (some ⟨gc, 0, none⟩) n capc) (ints C) := by rw [← hC]; exact RowI.of_owns hownc
    have hCl : C.length = n := by rw [← hC, ← hn, hA1]; simp
    have hCleg : Leg 0 C := by rw [← hC]; exact Leg.next (t := t) (by rw [← hA1]; exact Hleg.out) hx _
    have hrC : rk 0 C = r + 1 := by rw [← hC, rk_next hx hF, ← hA1, hrk'.out]
    have K10 : Hid (∀ v' W, RowI W v' (ints C) → Calls Try.prog 9 #[v', .int .i64 25] W fun e w' => ∃ v'', e = .returned v'' ∧ RowI w' v'' (ints C) ∧ Below W.heap.size W w') := fun v' W h => by
      have := few (ints C) v' 25 W h (by omega)
      rwa [ints_take C (by omega)] at this
    have K11 : Hid (∀ v' W, RowI W v' (ints C) → Calls Try.prog 10 #[v'] W fun e w' => e = .returned (.tuple #[.int .u64 ((r + 1 : Nat) : Int), .int .i64 0]) ∧ Below W.heap.size W w') := fun v' W h => by
      have := rankP C v' W h (by omega) hCleg
      rwa [hrC] at this
    have K12 : Hid (∀ v' W, RowI W v' (ints C) → Calls Try.prog 16 #[v'] W fun e w' => ∃ g cap n, e = .returned (.tuple #[.slice (some ⟨g, 0, none⟩) n cap, .bool true]) ∧ w'.ownsRow W.heap.size 3 1 (.slice (some ⟨g, 0, none⟩) n cap) n (cellsI (ints A)) ∧ Below W.heap.size W w') := fun v' W h => by
      have := prevP p t x v' W (by rw [hC]; exact h) (by rw [hC]; omega) (by rw [hC]; exact hCleg) hx hF
      rwa [← hA1] at this
    have hcm : Hid (∀ i y z, A[i]? = some y → C[i]? = some z → (i < p.length → y = z) ∧ (i = p.length → y < z)) := fun i y z h1 h2 => by
      rw [hA1] at h1
      rw [← hC] at h2
      refine ⟨fun hi => ?_, fun hi => ?_⟩
      · rw [List.getElem?_append_left hi] at h1 h2
        rw [h1] at h2; exact Option.some.inj h2
      · subst hi
        rw [List.getElem?_append_right (Nat.le_refl _), Nat.sub_self] at h1 h2
        simp at h1 h2; omega
    have hpl : p.length < n := by rw [← hn, hA1]; simp
    have hw2 : IntKind.u64.wrap ((r : Int) + 1) = ((r + 1 : Nat) : Int) := by
      simp only [IntKind.wrap, IntKind.bits, IntKind.signed]; simp; omega
    have hk2 := keepR2 ⟨hk.1, hkc, hk.2⟩ (Below.refl _ w10)
    generalize p.length = q at *
    clear hk hkc hb hownc hA1 hC hF hx hfull hrk' hCleg hrC K4 K5 K6 K8 K9 hr6 hr9 hd
    generalize hs : r + 1 = s at *
    go_wp2_with fail
    refine (K10.out _ _ hk2.2.1).mono ?_
    rintro e w11 ⟨v11, rfl, hr11, hb⟩
    replace hk2 := keepR2 hk2 hb
    clear hb
    go_wp2_with fail
    refine (K11.out _ _ hr11).mono ?_
    rintro e w12 ⟨rfl, hb⟩
    replace hk2 := keepR2 hk2 hb
    clear hb hr11
    go_wp2_with fail
    refine (K10.out _ _ hk2.2.1).mono ?_
    rintro e w13 ⟨v13, rfl, hr13, hb⟩
    replace hk2 := keepR2 hk2 hb
    clear hb
    go_wp2_with fail
    refine (K12.out _ _ hr13).mono ?_
    rintro e w14 ⟨gd, capd, nd, rfl, hownd, hb⟩
    replace hk2 := keepR2 hk2 hb
    have hrd := RowI.of_owns hownd
    clear hb hr13 hownd K10 K11 K12
    go_wp2
    have hcA' := hide' (rowI_cell hk2.1)
    have hcC' := hide' (rowI_cell hk2.2.1)
    go_loopw [16, 17] (fun mv k wr => ∃ (c : Nat) (mo : Bool), k = .int .i64 c ∧ mv = .bool mo ∧ ((mo = false ∧ c ≤ q) ∨ (mo = true ∧ c = q + 1)) ∧ Below w14.heap.size w14 wr) (fun _ k _ => ((n : Int) - intOf k).toNat)
    case atStart => exact ⟨0, false, rfl, rfl, .inl ⟨rfl, Nat.zero_le _⟩, Below.refl _ _⟩
    case round =>
      obtain ⟨c, mo, rfl, rfl, hmo, hB⟩ := hrel
      rcases hmo with ⟨rfl, hcq⟩ | ⟨rfl, rfl⟩
      · obtain ⟨y, hy⟩ : ∃ y, A[c]? = some y := ⟨_, List.getElem?_eq_getElem (by omega)⟩
        obtain ⟨z, hz⟩ : ∃ z, C[c]? = some z := ⟨_, List.getElem?_eq_getElem (by omega)⟩
        have ca0 := hcA'.out c y (ints_at hy)
        have cb0 := hcC'.out c z (ints_at hz)
        have ca := (hB.cell (p := ⟨g, 0 + c, none⟩) (cell_lt ca0)).trans ca0
        have cb := (hB.cell (p := ⟨gc, 0 + c, none⟩) (cell_lt cb0)).trans cb0
        rw [Nat.zero_add] at ca cb
        obtain ⟨h1, h2⟩ := hcm.out c y z hy hz
        have hcn : c < n := by omega
        clear ca0 cb0 hy hz
        by_cases hq : c < q
        · obtain rfl := h1 hq
          clear h1 h2
          go_wp2
          go_region
          go_wp2
          go_region
          go_wp2
          exact ⟨⟨c + 1, false, by go_num, rfl, .inl ⟨rfl, by omega⟩, hB.drew.drew⟩, by simp [intOf]; omega⟩
        · obtain rfl : c = q := by omega
          have hyz := h2 rfl
          have hf1 : decide ((z : Int) < (y : Int)) = false := by simp; omega
          have hf2 : decide ((y : Int) < (z : Int)) = true := by simp; omega
          clear h1 h2
          go_wp2
          go_region
          go_wp2
          go_region
          go_wp2
          exact ⟨⟨c + 1, true, by go_num, rfl, .inr ⟨rfl, rfl⟩, hB.drew.drew⟩, by simp [intOf]; omega⟩
      · have hr1 := hrd.below hB (Nat.le_refl _)
        have hr2 := hk2.1.below hB (Nat.le_refl _)
        have hBf := hk2.2.2.trans (hB.mono hk2.2.2.size)
        clear hrd hcm
        go_wp2_with (go_at_call 13; refine (K7.out _ _ _ hr1 hr2).mono ?_; rintro e w15 ⟨rfl, hb⟩)
        all_goals go_ret
        all_goals exact ⟨rfl, hBf.trans (hb.mono hBf.size)⟩
  · replace hk := keepR hk hb
    have h1 := hfull.out hF
    have hw1 : IntKind.u64.wrap ((bell : Int) - 1) = (r : Int) := by
      simp only [IntKind.wrap, IntKind.bits, IntKind.signed]; simp; omega
    clear h1 hF hfull hb
    go_wp2
    go_ret
    exact ⟨rfl, hk.2⟩
end Go.Proofs.Ytpbjmdkfijlooab

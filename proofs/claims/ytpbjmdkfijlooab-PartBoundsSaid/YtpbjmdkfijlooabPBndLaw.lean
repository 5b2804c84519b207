/- PartBounds answers true for every three rows of labels; it makes new memory alone. -/
import Derived.Test.YtpbjmdkfijlooabPJoinFn
import Derived.Deep.DeepCutAuto
namespace Go.Proofs.Ytpbjmdkfijlooab
open Go.RowKit
set_option maxRecDepth 100000 in
set_option maxHeartbeats 1000000 in
theorem joinP0 (va vb : Value) (w : World) (ra : RowI w va (ints [])) (rb : RowI w vb (ints [])) :
    Calls Try.prog 18 #[va, vb] w fun e w' => ∃ g, e = .returned (.tuple #[.slice (some ⟨g, 0, none⟩) 0 0, .int .i64 0]) ∧ w'.ownsRow w.heap.size 3 1 (.slice (some ⟨g, 0, none⟩) 0 0) 0 (cellsI (ints (joinR [] []))) ∧ Below w.heap.size w w' := by
  have KA := hide' (alikeT 0 [] [] va vb w ra rb rfl rfl (by decide) trivial trivial)
  have KC := hide' (clone (ints []) va w ra (by decide))
  have KO : Hid (∀ v W, RowI W v [] → Calls Try.prog 8 #[v] W fun e w' => ∃ g, e = .returned (.tuple #[.slice (some ⟨g, 0, none⟩) 0 0, .int .i64 0]) ∧ w'.ownsRow W.heap.size 3 1 (.slice (some ⟨g, 0, none⟩) 0 0) 0 (cellsI (ints (joinR [] []))) ∧ Below W.heap.size W w') := fun v W h => ofP [] v W h (by decide) (fun z hz => by cases hz)
  obtain ⟨oa, ca, rfl, _⟩ := rowI_shape' ra (n := 0) rfl
  obtain ⟨ob, cb, rfl, _⟩ := rowI_shape' rb (n := 0) rfl
  clear ra rb
  go_enter Try.func18, Try.ntmps18
  go_wp2_with fail
  refine KA.out.mono ?_
  rintro e w1 ⟨rfl, rfl⟩
  go_wp2_with fail
  refine KC.out.mono ?_
  rintro e w2 ⟨v, rfl, hown, hB2⟩
  have hR := RowI.of_owns hown
  obtain ⟨ov, cv, rfl, _⟩ := rowI_shape' hR (n := 0) rfl
  go_wp2
  refine wp_loop_rounds 1 ?_
  rw [rounds_succ]
  go_wp2_with (go_at_call 8; refine (KO.out _ _ hR).mono ?_; rintro e w3 ⟨g3, rfl, hown3, hb3⟩)
  exact bodyPost_ret (v := .tuple #[.slice (some ⟨g3, 0, none⟩) 0 0, .int .i64 0]) (by simp [results, Try.results18, go_sem]) rfl ⟨g3, rfl, owns_less hown3 hB2.size, hB2.trans (hb3.mono hB2.size)⟩
theorem joinQ (n : Nat) (a b : List Nat) (va vb : Value) (w : World) (ra : RowI w va (ints a)) (rb : RowI w vb (ints b)) (hla : a.length = n) (hlb : b.length = n) (hn : n ≤ 25) (ha : Leg 0 a) (hb : Leg 0 b) :
    Calls Try.prog 18 #[va, vb] w fun e w' => ∃ g, e = .returned (.tuple #[.slice (some ⟨g, 0, none⟩) n n, .int .i64 0]) ∧ w'.ownsRow w.heap.size 3 1 (.slice (some ⟨g, 0, none⟩) n n) n (cellsI (ints (joinR a b))) ∧ Below w.heap.size w w' := by
  by_cases h : n = 0
  · subst h
    obtain rfl := List.eq_nil_of_length_eq_zero hla
    obtain rfl := List.eq_nil_of_length_eq_zero hlb
    exact joinP0 va vb w ra rb
  · exact joinP n a b va vb w ra rb hla hlb hn (by omega) ha hb
theorem Finr.trans {a b c : List Nat} (hl : a.length = b.length) (h1 : Finr a b) (h2 : Finr b c) : Finr a c := fun i j hi hj h => h2 i j (by omega) (by omega) (h1 i j hi hj h)
theorem Finr.refl (a : List Nat) : Finr a a := fun _ _ _ _ h => h
/-- What is kept of the law's argument. -/
theorem keepX {w W w1 : World} {x : Nat} {va vb vc : Value} {la lb lc : List Int} (h : W.cell? ⟨x, 0, none⟩ = some va ∧ W.cell? ⟨x, 1, none⟩ = some vb ∧ W.cell? ⟨x, 2, none⟩ = some vc ∧ RowI W va la ∧ RowI W vb lb ∧ RowI W vc lc ∧ Below w.heap.size w W) (hb : Below W.heap.size W w1) :
    w1.cell? ⟨x, 0, none⟩ = some va ∧ w1.cell? ⟨x, 1, none⟩ = some vb ∧ w1.cell? ⟨x, 2, none⟩ = some vc ∧ RowI w1 va la ∧ RowI w1 vb lb ∧ RowI w1 vc lc ∧ Below w.heap.size w w1 := by
  obtain ⟨h0, h1, h2, h3, h4, h5, h6⟩ := h
  exact ⟨(hb.cell (p := ⟨x, 0, none⟩) (cell_lt h0)).trans h0, (hb.cell (p := ⟨x, 1, none⟩) (cell_lt h0)).trans h1, (hb.cell (p := ⟨x, 2, none⟩) (cell_lt h0)).trans h2, h3.below hb (Nat.le_refl _), h4.below hb (Nat.le_refl _), h5.below hb (Nat.le_refl _), h6.trans (hb.mono h6.size)⟩
theorem alloc3 (w : World) (a b c : Value) (t : TypeId) : (w.alloc (.cells #[a, b, c] t)).cell? ⟨w.heap.size, 0, none⟩ = some a ∧ (w.alloc (.cells #[a, b, c] t)).cell? ⟨w.heap.size, 1, none⟩ = some b ∧ (w.alloc (.cells #[a, b, c] t)).cell? ⟨w.heap.size, 2, none⟩ = some c := by
  have h := heap_new w (.cells #[a, b, c] t)
  simp only [World.cell?, h]
  exact ⟨rfl, rfl, rfl⟩
/-- The law's argument, in its box, and all that lay ahead. -/
def XC (w : World) (va vb vc : Value) (la lb lc : List Int) (W : World) : Prop := W.cell? ⟨w.heap.size, 0, none⟩ = some va ∧ W.cell? ⟨w.heap.size, 1, none⟩ = some vb ∧ W.cell? ⟨w.heap.size, 2, none⟩ = some vc ∧ RowI W va la ∧ RowI W vb lb ∧ RowI W vc lc ∧ Below w.heap.size w W
theorem XC.keep {w W w1 : World} {va vb vc : Value} {la lb lc : List Int} (h : XC w va vb vc la lb lc W) (hb : Below W.heap.size W w1) : XC w va vb vc la lb lc w1 := keepX h hb
def IffB (q : Bool) (P : Prop) : Prop := q = true ↔ P
theorem IffB.mk {q : Bool} {P : Prop} (h : q = true ↔ P) : IffB q P := h
theorem exB (P : Prop) : ∃ q : Bool, IffB q P := by
  classical
  exact ⟨decide P, IffB.mk (by simp)⟩
/-- What is kept of five rows, and of all that lay ahead. -/
def Five (w W : World) (va vb vc vm vj : Value) (a b c m j : List Nat) : Prop := RowI W va (ints a) ∧ RowI W vb (ints b) ∧ RowI W vc (ints c) ∧ RowI W vm (ints m) ∧ RowI W vj (ints j) ∧ Below w.heap.size w W
theorem Five.keep {w W w1 : World} {va vb vc vm vj : Value} {a b c m j : List Nat} (h : Five w W va vb vc vm vj a b c m j) (hb : Below W.heap.size W w1) : Five w w1 va vb vc vm vj a b c m j := by
  obtain ⟨h1, h2, h3, h4, h5, h6⟩ := h
  exact ⟨h1.below hb (Nat.le_refl _), h2.below hb (Nat.le_refl _), h3.below hb (Nat.le_refl _), h4.below hb (Nat.le_refl _), h5.below hb (Nat.le_refl _), h6.trans (hb.mono h6.size)⟩
set_option maxRecDepth 100000 in
set_option maxHeartbeats 4000000 in
theorem partBounds_walk (LA LB LC : List Int) (va vb vc : Value) (w : World) (ra : RowI w va LA) (rb : RowI w vb LB) (rc : RowI w vc LC) (wa : ∀ z ∈ LA, (Lit.int .i64 z).wf = true) (wb : ∀ z ∈ LB, (Lit.int .i64 z).wf = true) (wc' : ∀ z ∈ LC, (Lit.int .i64 z).wf = true) :
    Calls Try.prog 4 #[.agg #[va, vb, vc]] w fun e w' => e = .returned (.bool true) ∧ Below w.heap.size w w' := by
  obtain ⟨n, hn⟩ : ∃ n, min (min (min LA.length LB.length) LC.length) 25 = n := ⟨_, rfl⟩
  have hn25 : n ≤ 25 := by omega
  have tA : (LA.take n).length = n := by rw [List.length_take]; omega
  have tB : (LB.take n).length = n := by rw [List.length_take]; omega
  have tC : (LC.take n).length = n := by rw [List.length_take]; omega
  obtain ⟨A, hA⟩ : ∃ A, pat (LA.take n) = A := ⟨_, rfl⟩
  obtain ⟨B, hB⟩ : ∃ A, pat (LB.take n) = A := ⟨_, rfl⟩
  obtain ⟨C, hC⟩ : ∃ A, pat (LC.take n) = A := ⟨_, rfl⟩
  have lA : A.length = n := by rw [← hA, pat_len]; exact tA
  have lB : B.length = n := by rw [← hB, pat_len]; exact tB
  have lC : C.length = n := by rw [← hC, pat_len]; exact tC
  have gA : Leg 0 A := by rw [← hA]; exact leg_pat0 _
  have gB : Leg 0 B := by rw [← hB]; exact leg_pat0 _
  have gC : Leg 0 C := by rw [← hC]; exact leg_pat0 _
  obtain ⟨M, hM⟩ : ∃ X, pat (pairs A B) = X := ⟨_, rfl⟩
  obtain ⟨J, hJ⟩ : ∃ X, joinR A B = X := ⟨_, rfl⟩
  have lM : M.length = n := by rw [← hM, pat_len, pairs_len (by omega)]; exact lA
  have lJ : J.length = n := by rw [← hJ, joinR_len]; exact lA
  have gM : Leg 0 M := by rw [← hM]; exact leg_pat0 _
  have gJ : Leg 0 J := by rw [← hJ]; exact leg_pat0 _
  have mk : ∀ i j, i < n → j < n → (M[i]? = M[j]? ↔ (A[i]? = A[j]? ∧ B[i]? = B[j]?)) := fun i j hi hj => by rw [← hM]; exact meet_ker gB (by omega) (by omega) (by omega) (by omega)
  have fMA : Finr M A := fun i j hi hj h => ((mk i j (by omega) (by omega)).1 h).1
  have fMB : Finr M B := fun i j hi hj h => ((mk i j (by omega) (by omega)).1 h).2
  have fAJ : Finr A J := by rw [← hJ]; exact join_a
  have fBJ : Finr B J := by rw [← hJ]; exact join_b (by omega)
  have fCM : Finr C M ↔ Finr C A ∧ Finr C B := ⟨fun h => ⟨h.trans (by omega) fMA, h.trans (by omega) fMB⟩, fun h i j hi hj e => (mk i j (by omega) (by omega)).2 ⟨h.1 i j hi hj e, h.2 i j hi hj e⟩⟩
  have fJC : Finr J C ↔ Finr A C ∧ Finr B C := ⟨fun h => ⟨fAJ.trans (by omega) h, fBJ.trans (by omega) h⟩, fun h => by rw [← hJ]; exact join_least (by omega) h.1 h.2⟩
  have eq2 : Finr A B → Finr B A → A = B := fun h1 h2 => leg_uniq gA gB (by omega) fun i j hi hj => ⟨h1 i j hi hj, h2 i j (by omega) (by omega)⟩
  have tr3 : Finr A B → Finr B C → Finr A C := fun h1 h2 => h1.trans (by omega) h2
  -- the calls' contracts
  have KF : Hid (∀ L v W, RowI W v L → Calls Try.prog 9 #[v, .int .i64 n] W fun e w' => ∃ v', e = .returned v' ∧ RowI w' v' (L.take n) ∧ Below W.heap.size W w') := fun L v W h => few L v n W h (by omega)
  have KG : Hid (∀ (X : List Nat) v W, X.length = n → RowI W v (ints X) → Calls Try.prog 9 #[v, .int .i64 n] W fun e w' => ∃ v', e = .returned v' ∧ RowI w' v' (ints X) ∧ Below W.heap.size W w') := fun X v W hx h => by
    have := few (ints X) v n W h (by omega)
    rwa [List.take_of_length_le (by rw [ints_len]; omega)] at this
  have KO : Hid (∀ (L : List Int) v W, L.length = n → (∀ z ∈ L, (Lit.int .i64 z).wf = true) → RowI W v L → Calls Try.prog 8 #[v] W fun e w' => ∃ g, e = .returned (.tuple #[.slice (some ⟨g, 0, none⟩) n n, .int .i64 0]) ∧ w'.ownsRow W.heap.size 3 1 (.slice (some ⟨g, 0, none⟩) n n) n (cellsI (ints (pat L))) ∧ Below W.heap.size W w') := fun L v W hl hw h => by
    have := ofP L v W h (by omega) hw
    rwa [hl] at this
  have KM : Hid (∀ v u W, RowI W v (ints A) → RowI W u (ints B) → Calls Try.prog 17 #[v, u] W fun e w' => ∃ g, e = .returned (.tuple #[.slice (some ⟨g, 0, none⟩) n n, .int .i64 0]) ∧ w'.ownsRow W.heap.size 3 1 (.slice (some ⟨g, 0, none⟩) n n) n (cellsI (ints M)) ∧ Below W.heap.size W w') := fun v u W h1 h2 => by
    have := meetP n A B v u W h1 h2 lA lB hn25 gA gB
    rwa [hM] at this
  have KJ : Hid (∀ v u W, RowI W v (ints A) → RowI W u (ints B) → Calls Try.prog 18 #[v, u] W fun e w' => ∃ g, e = .returned (.tuple #[.slice (some ⟨g, 0, none⟩) n n, .int .i64 0]) ∧ w'.ownsRow W.heap.size 3 1 (.slice (some ⟨g, 0, none⟩) n n) n (cellsI (ints J)) ∧ Below W.heap.size W w') := fun v u W h1 h2 => by
    have := joinQ n A B v u W h1 h2 lA lB hn25 gA gB
    rwa [hJ] at this
  have KN : Hid (∀ X Y v u W q, X.length = n → Y.length = n → Leg 0 X → Leg 0 Y → (q = true ↔ Finr X Y) → RowI W v (ints X) → RowI W u (ints Y) → Calls Try.prog 19 #[v, u] W fun e w' => e = .returned (.bool q) ∧ Below W.heap.size W w') := fun X Y v u W q h1 h2 h3 h4 hq r1 r2 => finerP n X Y v u W r1 r2 h1 h2 hn25 h3 h4 q hq
  have KI : Hid (∀ v u W, A = B → RowI W v (ints A) → RowI W u (ints B) → Calls Try.prog 13 #[v, u] W fun e w' => e = .returned (.bool true) ∧ Below W.heap.size W w') := fun v u W e h1 h2 => by
    subst e
    have := keepInts (ints A) (ints A) v u W h1 h2 (by rw [ints_len]; omega) (by rw [ints_len]; omega)
    simpa using this
  have KW := hide' wakes
  have WA : Hid (∀ z ∈ LA.take n, (Lit.int .i64 z).wf = true) := fun z hz => wa z (List.mem_of_mem_take hz)
  have WB : Hid (∀ z ∈ LB.take n, (Lit.int .i64 z).wf = true) := fun z hz => wb z (List.mem_of_mem_take hz)
  have WC : Hid (∀ z ∈ LC.take n, (Lit.int .i64 z).wf = true) := fun z hz => wc' z (List.mem_of_mem_take hz)
  obtain ⟨oa, pa, ea, _⟩ := rowI_shape ra
  obtain ⟨ob, pb, eb, _⟩ := rowI_shape rb
  obtain ⟨oc, pc, ec, _⟩ := rowI_shape rc
  subst ea eb ec
  have hx0 : XC w (.slice oa LA.length pa) (.slice ob LB.length pb) (.slice oc LC.length pc) LA LB LC (w.alloc (.cells #[.slice oa LA.length pa, .slice ob LB.length pb, .slice oc LC.length pc] 38)) := keepX (w := w) (x := w.heap.size) (W := w.alloc (.cells #[.slice oa LA.length pa, .slice ob LB.length pb, .slice oc LC.length pc] 38)) (w1 := w.alloc (.cells #[.slice oa LA.length pa, .slice ob LB.length pb, .slice oc LC.length pc] 38)) ⟨(alloc3 _ _ _ _ _).1, (alloc3 _ _ _ _ _).2.1, (alloc3 _ _ _ _ _).2.2, ra.below ((Below.refl _ w).alloc (Nat.le_refl _) _) (Nat.le_refl _), rb.below ((Below.refl _ w).alloc (Nat.le_refl _) _) (Nat.le_refl _), rc.below ((Below.refl _ w).alloc (Nat.le_refl _) _) (Nat.le_refl _), (Below.refl _ w).alloc (Nat.le_refl _) _⟩ (Below.refl _ _)
  have HA := hide' hA
  have HB := hide' hB
  have HC := hide' hC
  have Hn := hide' hn
  have TA := hide' tA
  have TB := hide' tB
  have TC := hide' tC
  have LA' := hide' lA
  have LB' := hide' lB
  have LC' := hide' lC
  have LM' := hide' lM
  have LJ' := hide' lJ
  have FF : Hid (Leg 0 A ∧ Leg 0 B ∧ Leg 0 C ∧ Leg 0 M ∧ Leg 0 J ∧ Finr M A ∧ Finr M B ∧ Finr A J ∧ Finr B J ∧ (Finr C M ↔ Finr C A ∧ Finr C B) ∧ (Finr J C ↔ Finr A C ∧ Finr B C) ∧ (Finr A B → Finr B A → A = B) ∧ (Finr A B → Finr B C → Finr A C)) := ⟨gA, gB, gC, gM, gJ, fMA, fMB, fAJ, fBJ, fCM, fJC, eq2, tr3⟩
  clear hA hB hC hM hJ hn tA tB tC lA lB lC lM lJ gA gB gC gM gJ mk fMA fMB fAJ fBJ fCM fJC eq2 tr3 ra rb rc wa wb wc'
  generalize LA.length = la at *
  generalize LB.length = lb at *
  generalize LC.length = lc at *
  generalize hW0 : w.alloc (.cells #[.slice oa la pa, .slice ob lb pb, .slice oc lc pc] 38) = W0 at *
  obtain ⟨c0, c1, c2, _⟩ := id hx0
  go_enter Try.func4, Try.ntmps4
  go_upto_if 21 with fail
  go_cut [3] (fun s wx => s = .int .i64 ((min la lb : Nat) : Int) ∧ XC w (.slice oa la pa) (.slice ob lb pb) (.slice oc lc pc) LA LB LC wx)
  case first =>
    as_aux_lemma =>
    by_cases h : lb < la
    · go_wp2
      go_meet
      exact ⟨by rw [Nat.min_eq_right (by omega)], hx0⟩
    · have hd : decide ((lb : Int) < (la : Int)) = false := by simp; omega
      go_wp2
      go_meet
      exact ⟨by rw [Nat.min_eq_left (by omega)], hx0⟩
  case rest =>
  as_aux_lemma =>
  clear hx0 c0 c1 c2
  obtain ⟨rfl, hx⟩ := hcut
  obtain ⟨c0, c1, c2, _⟩ := id hx
  obtain ⟨l1, hl1⟩ : ∃ x, min la lb = x := ⟨_, rfl⟩
  rw [hl1] at Hn ⊢
  clear hl1
  go_upto_if 29 with fail
  go_cut [3] (fun s wx => s = .int .i64 ((min l1 lc : Nat) : Int) ∧ XC w (.slice oa la pa) (.slice ob lb pb) (.slice oc lc pc) LA LB LC wx)
  case first =>
    as_aux_lemma =>
    by_cases h : lc < l1
    · go_wp2
      go_meet
      exact ⟨by rw [Nat.min_eq_right (by omega)], hx⟩
    · have hd : decide ((lc : Int) < (l1 : Int)) = false := by simp; omega
      go_wp2
      go_meet
      exact ⟨by rw [Nat.min_eq_left (by omega)], hx⟩
  case rest =>
  as_aux_lemma =>
  clear hx c0 c1 c2
  obtain ⟨rfl, hx⟩ := hcut
  obtain ⟨l2, hl2⟩ : ∃ x, min l1 lc = x := ⟨_, rfl⟩
  rw [hl2] at Hn ⊢
  clear hl2
  go_upto_if 34 with fail
  go_cut [3] (fun s wx => s = .int .i64 (n : Int) ∧ XC w (.slice oa la pa) (.slice ob lb pb) (.slice oc lc pc) LA LB LC wx)
  case first =>
    as_aux_lemma =>
    have hm := Hn.out
    by_cases h : 25 < l2
    · have e : n = 25 := by omega
      clear hm
      subst e
      go_wp2
      go_meet
      exact ⟨rfl, hx⟩
    · have e : l2 = n := by omega
      have hd : decide ((25 : Int) < (l2 : Int)) = false := by simp; omega
      clear hm
      go_wp2
      go_meet
      exact ⟨by rw [e], hx⟩
  case rest =>
  as_aux_lemma =>
  clear hx Hn
  obtain ⟨rfl, hx⟩ := hcut
  obtain ⟨c0, c1, c2, q3, q4, q5, _⟩ := id hx
  go_wp2_with fail
  refine (KF.out LA _ _ q3).mono ?_
  rintro e wq ⟨v1, rfl, r1, hb⟩
  replace hx := hx.keep hb
  clear hb
  clear c0 c1 c2 q3 q4 q5
  go_wp2_with fail
  refine (KO.out _ _ _ TA.out WA.out r1).mono ?_
  rintro e wq ⟨ga, rfl, own, hb⟩
  replace hx := hx.keep hb
  clear hb
  rw [HA.out] at own
  have rA := RowI.of_owns own
  clear own r1
  obtain ⟨c0, c1, c2, q3, q4, q5, _⟩ := id hx
  go_wp2_with fail
  refine (KF.out LB _ _ q4).mono ?_
  rintro e wq ⟨v1, rfl, r1, hb⟩
  replace hx := hx.keep hb
  replace rA := rA.below hb (Nat.le_refl _)
  clear hb
  clear c0 c1 c2 q3 q4 q5
  go_wp2_with fail
  refine (KO.out _ _ _ TB.out WB.out r1).mono ?_
  rintro e wq ⟨gb, rfl, own, hb⟩
  replace hx := hx.keep hb
  replace rA := rA.below hb (Nat.le_refl _)
  clear hb
  rw [HB.out] at own
  have rB := RowI.of_owns own
  clear own r1
  obtain ⟨c0, c1, c2, q3, q4, q5, _⟩ := id hx
  go_wp2_with fail
  refine (KF.out LC _ _ q5).mono ?_
  rintro e wq ⟨v1, rfl, r1, hb⟩
  replace hx := hx.keep hb
  replace rA := rA.below hb (Nat.le_refl _)
  replace rB := rB.below hb (Nat.le_refl _)
  clear hb
  clear c0 c1 c2 q3 q4 q5
  go_wp2_with fail
  refine (KO.out _ _ _ TC.out WC.out r1).mono ?_
  rintro e wq ⟨gc, rfl, own, hb⟩
  replace hx := hx.keep hb
  replace rA := rA.below hb (Nat.le_refl _)
  replace rB := rB.below hb (Nat.le_refl _)
  clear hb
  rw [HC.out] at own
  have rC := RowI.of_owns own
  clear own r1
  go_wp2_with fail
  refine (KG.out A _ _ LA'.out rA).mono ?_
  rintro e wq ⟨v1, rfl, r1, hb⟩
  replace hx := hx.keep hb
  replace rA := rA.below hb (Nat.le_refl _)
  replace rB := rB.below hb (Nat.le_refl _)
  replace rC := rC.below hb (Nat.le_refl _)
  clear hb
  go_wp2_with fail
  refine (KG.out B _ _ LB'.out rB).mono ?_
  rintro e wq ⟨v2, rfl, r2, hb⟩
  replace hx := hx.keep hb
  replace rA := rA.below hb (Nat.le_refl _)
  replace rB := rB.below hb (Nat.le_refl _)
  replace rC := rC.below hb (Nat.le_refl _)
  replace r1 := r1.below hb (Nat.le_refl _)
  clear hb
  go_wp2_with fail
  refine (KM.out _ _ _ r1 r2).mono ?_
  rintro e wq ⟨gm, rfl, own, hb⟩
  replace hx := hx.keep hb
  replace rA := rA.below hb (Nat.le_refl _)
  replace rB := rB.below hb (Nat.le_refl _)
  replace rC := rC.below hb (Nat.le_refl _)
  clear hb
  have rM := RowI.of_owns own
  clear own r1 r2
  go_wp2_with fail
  refine (KG.out A _ _ LA'.out rA).mono ?_
  rintro e wq ⟨v1, rfl, r1, hb⟩
  replace hx := hx.keep hb
  replace rA := rA.below hb (Nat.le_refl _)
  replace rB := rB.below hb (Nat.le_refl _)
  replace rC := rC.below hb (Nat.le_refl _)
  replace rM := rM.below hb (Nat.le_refl _)
  clear hb
  go_wp2_with fail
  refine (KG.out B _ _ LB'.out rB).mono ?_
  rintro e wq ⟨v2, rfl, r2, hb⟩
  replace hx := hx.keep hb
  replace rA := rA.below hb (Nat.le_refl _)
  replace rB := rB.below hb (Nat.le_refl _)
  replace rC := rC.below hb (Nat.le_refl _)
  replace rM := rM.below hb (Nat.le_refl _)
  replace r1 := r1.below hb (Nat.le_refl _)
  clear hb
  go_wp2_with fail
  refine (KJ.out _ _ _ r1 r2).mono ?_
  rintro e wq ⟨gj, rfl, own, hb⟩
  replace hx := hx.keep hb
  replace rA := rA.below hb (Nat.le_refl _)
  replace rB := rB.below hb (Nat.le_refl _)
  replace rC := rC.below hb (Nat.le_refl _)
  replace rM := rM.below hb (Nat.le_refl _)
  clear hb
  have rJ := RowI.of_owns own
  clear own r1 r2
  have h5 : Five w _ _ _ _ _ _ A B C M J := ⟨rA, rB, rC, rM, rJ, hx.2.2.2.2.2.2⟩
  clear hx rA rB rC rM rJ KF KG KO KM KJ WA WB WC TA TB TC HA HB HC
  as_aux_lemma =>
  go_wp2_with fail
  refine (KW.out _).mono ?_
  rintro e wq ⟨rfl, hb⟩
  replace h5 := h5.keep hb
  clear hb
  go_wp2_with fail
  refine (KN.out M A _ _ _ true LM'.out LA'.out FF.out.2.2.2.1 FF.out.1 (iff_of_true rfl FF.out.2.2.2.2.2.1) h5.2.2.2.1 h5.1).mono ?_
  rintro e wq ⟨rfl, hb⟩
  replace h5 := h5.keep hb
  clear hb
  go_wp2_with fail
  refine (KN.out M B _ _ _ true LM'.out LB'.out FF.out.2.2.2.1 FF.out.2.1 (iff_of_true rfl FF.out.2.2.2.2.2.2.1) h5.2.2.2.1 h5.2.1).mono ?_
  rintro e wq ⟨rfl, hb⟩
  replace h5 := h5.keep hb
  clear hb
  go_wp2_with fail
  refine (KN.out A J _ _ _ true LA'.out LJ'.out FF.out.1 FF.out.2.2.2.2.1 (iff_of_true rfl FF.out.2.2.2.2.2.2.2.1) h5.1 h5.2.2.2.2.1).mono ?_
  rintro e wq ⟨rfl, hb⟩
  replace h5 := h5.keep hb
  clear hb
  go_wp2_with fail
  refine (KN.out B J _ _ _ true LB'.out LJ'.out FF.out.2.1 FF.out.2.2.2.2.1 (iff_of_true rfl FF.out.2.2.2.2.2.2.2.2.1) h5.2.1 h5.2.2.2.2.1).mono ?_
  rintro e wq ⟨rfl, hb⟩
  replace h5 := h5.keep hb
  clear hb
  go_wp2_with fail
  refine (KN.out A A _ _ _ true LA'.out LA'.out FF.out.1 FF.out.1 (iff_of_true rfl (Finr.refl A)) h5.1 h5.1).mono ?_
  rintro e wq ⟨rfl, hb⟩
  replace h5 := h5.keep hb
  clear hb
  obtain ⟨p1, hp1⟩ := exB (Finr C A)
  obtain ⟨p2, hp2⟩ := exB (Finr C B)
  obtain ⟨q1, hq1⟩ := exB (Finr A C)
  obtain ⟨q2, hq2⟩ := exB (Finr B C)
  obtain ⟨r1, hr1⟩ := exB (Finr A B)
  obtain ⟨r2, hr2⟩ := exB (Finr B A)
  have HP1 := hide' hp1
  have HP2 := hide' hp2
  have HQ1 := hide' hq1
  have HQ2 := hide' hq2
  have HR1 := hide' hr1
  have HR2 := hide' hr2
  clear hp1 hp2 hq1 hq2 hr1 hr2
  have n3 : Hid (IffB false (Finr C A) → IffB false (Finr C M)) := fun h => IffB.mk ⟨fun e => (by cases e), fun e => absurd (FF.out.2.2.2.2.2.2.2.2.2.1.1 e).1 (fun x => by cases h.2 x)⟩
  have y3 : Hid (IffB true (Finr C A) → IffB p2 (Finr C B) → IffB p2 (Finr C M)) := fun h1 h2 => IffB.mk ⟨fun e => FF.out.2.2.2.2.2.2.2.2.2.1.2 ⟨h1.1 rfl, h2.1 e⟩, fun e => h2.2 (FF.out.2.2.2.2.2.2.2.2.2.1.1 e).2⟩
  have n4 : Hid (IffB false (Finr A C) → IffB false (Finr J C)) := fun h => IffB.mk ⟨fun e => (by cases e), fun e => absurd (FF.out.2.2.2.2.2.2.2.2.2.2.1.1 e).1 (fun x => by cases h.2 x)⟩
  have y4 : Hid (IffB true (Finr A C) → IffB q2 (Finr B C) → IffB q2 (Finr J C)) := fun h1 h2 => IffB.mk ⟨fun e => FF.out.2.2.2.2.2.2.2.2.2.2.1.2 ⟨h1.1 rfl, h2.1 e⟩, fun e => h2.2 (FF.out.2.2.2.2.2.2.2.2.2.2.1.1 e).2⟩
  go_upto_region 17 with fail
  go_cut [166] (fun s wx => s = .bool false ∧ Five w wx (.slice (some ⟨ga, 0, none⟩) n n) (.slice (some ⟨gb, 0, none⟩) n n) (.slice (some ⟨gc, 0, none⟩) n n) (.slice (some ⟨gm, 0, none⟩) n n) (.slice (some ⟨gj, 0, none⟩) n n) A B C M J)
  case first =>
    as_aux_lemma =>
    cases p1 with
    | false =>
      go_wp2_with fail
      refine (KN.out C A _ _ _ false LC'.out LA'.out FF.out.2.2.1 FF.out.1 HP1.out h5.2.2.1 h5.1).mono ?_
      rintro e wq ⟨rfl, hb⟩
      replace h5 := h5.keep hb
      clear hb
      go_wp2_with fail
      refine (KN.out C M _ _ _ false LC'.out LM'.out FF.out.2.2.1 FF.out.2.2.2.1 (n3.out HP1.out) h5.2.2.1 h5.2.2.2.1).mono ?_
      rintro e wq ⟨rfl, hb⟩
      replace h5 := h5.keep hb
      clear hb
      cases q1 with
      | false =>
        go_wp2_with fail
        refine (KN.out A C _ _ _ false LA'.out LC'.out FF.out.1 FF.out.2.2.1 HQ1.out h5.1 h5.2.2.1).mono ?_
        rintro e wq ⟨rfl, hb⟩
        replace h5 := h5.keep hb
        clear hb
        go_wp2_with fail
        refine (KN.out J C _ _ _ false LJ'.out LC'.out FF.out.2.2.2.2.1 FF.out.2.2.1 (n4.out HQ1.out) h5.2.2.2.2.1 h5.2.2.1).mono ?_
        rintro e wq ⟨rfl, hb⟩
        replace h5 := h5.keep hb
        clear hb
        go_wp2
        go_meet
        exact ⟨rfl, h5⟩
      | true =>
        go_wp2_with fail
        refine (KN.out A C _ _ _ true LA'.out LC'.out FF.out.1 FF.out.2.2.1 HQ1.out h5.1 h5.2.2.1).mono ?_
        rintro e wq ⟨rfl, hb⟩
        replace h5 := h5.keep hb
        clear hb
        go_wp2_with fail
        refine (KN.out B C _ _ _ q2 LB'.out LC'.out FF.out.2.1 FF.out.2.2.1 HQ2.out h5.2.1 h5.2.2.1).mono ?_
        rintro e wq ⟨rfl, hb⟩
        replace h5 := h5.keep hb
        clear hb
        go_wp2_with fail
        refine (KN.out J C _ _ _ q2 LJ'.out LC'.out FF.out.2.2.2.2.1 FF.out.2.2.1 (y4.out HQ1.out HQ2.out) h5.2.2.2.2.1 h5.2.2.1).mono ?_
        rintro e wq ⟨rfl, hb⟩
        replace h5 := h5.keep hb
        clear hb
        go_wp2
        go_meet
        exact ⟨rfl, h5⟩
    | true =>
      go_wp2_with fail
      refine (KN.out C A _ _ _ true LC'.out LA'.out FF.out.2.2.1 FF.out.1 HP1.out h5.2.2.1 h5.1).mono ?_
      rintro e wq ⟨rfl, hb⟩
      replace h5 := h5.keep hb
      clear hb
      go_wp2_with fail
      refine (KN.out C B _ _ _ p2 LC'.out LB'.out FF.out.2.2.1 FF.out.2.1 HP2.out h5.2.2.1 h5.2.1).mono ?_
      rintro e wq ⟨rfl, hb⟩
      replace h5 := h5.keep hb
      clear hb
      go_wp2_with fail
      refine (KN.out C M _ _ _ p2 LC'.out LM'.out FF.out.2.2.1 FF.out.2.2.2.1 (y3.out HP1.out HP2.out) h5.2.2.1 h5.2.2.2.1).mono ?_
      rintro e wq ⟨rfl, hb⟩
      replace h5 := h5.keep hb
      clear hb
      cases q1 with
      | false =>
        go_wp2_with fail
        refine (KN.out A C _ _ _ false LA'.out LC'.out FF.out.1 FF.out.2.2.1 HQ1.out h5.1 h5.2.2.1).mono ?_
        rintro e wq ⟨rfl, hb⟩
        replace h5 := h5.keep hb
        clear hb
        go_wp2_with fail
        refine (KN.out J C _ _ _ false LJ'.out LC'.out FF.out.2.2.2.2.1 FF.out.2.2.1 (n4.out HQ1.out) h5.2.2.2.2.1 h5.2.2.1).mono ?_
        rintro e wq ⟨rfl, hb⟩
        replace h5 := h5.keep hb
        clear hb
        go_wp2
        go_meet
        exact ⟨rfl, h5⟩
      | true =>
        go_wp2_with fail
        refine (KN.out A C _ _ _ true LA'.out LC'.out FF.out.1 FF.out.2.2.1 HQ1.out h5.1 h5.2.2.1).mono ?_
        rintro e wq ⟨rfl, hb⟩
        replace h5 := h5.keep hb
        clear hb
        go_wp2_with fail
        refine (KN.out B C _ _ _ q2 LB'.out LC'.out FF.out.2.1 FF.out.2.2.1 HQ2.out h5.2.1 h5.2.2.1).mono ?_
        rintro e wq ⟨rfl, hb⟩
        replace h5 := h5.keep hb
        clear hb
        go_wp2_with fail
        refine (KN.out J C _ _ _ q2 LJ'.out LC'.out FF.out.2.2.2.2.1 FF.out.2.2.1 (y4.out HQ1.out HQ2.out) h5.2.2.2.2.1 h5.2.2.1).mono ?_
        rintro e wq ⟨rfl, hb⟩
        replace h5 := h5.keep hb
        clear hb
        go_wp2
        go_meet
        exact ⟨rfl, h5⟩
  case rest =>
  as_aux_lemma =>
  clear h5
  obtain ⟨rfl, h5⟩ := hcut
  go_upto_region 19 with fail
  go_cut [180] (fun s wx => s = .bool false ∧ Five w wx (.slice (some ⟨ga, 0, none⟩) n n) (.slice (some ⟨gb, 0, none⟩) n n) (.slice (some ⟨gc, 0, none⟩) n n) (.slice (some ⟨gm, 0, none⟩) n n) (.slice (some ⟨gj, 0, none⟩) n n) A B C M J)
  case first =>
    as_aux_lemma =>
    cases r1 with
    | false =>
      go_wp2_with fail
      refine (KN.out A B _ _ _ false LA'.out LB'.out FF.out.1 FF.out.2.1 HR1.out h5.1 h5.2.1).mono ?_
      rintro e wq ⟨rfl, hb⟩
      replace h5 := h5.keep hb
      clear hb
      go_wp2
      go_meet
      exact ⟨rfl, h5⟩
    | true =>
      go_wp2_with fail
      refine (KN.out A B _ _ _ true LA'.out LB'.out FF.out.1 FF.out.2.1 HR1.out h5.1 h5.2.1).mono ?_
      rintro e wq ⟨rfl, hb⟩
      replace h5 := h5.keep hb
      clear hb
      cases r2 with
      | false =>
        go_wp2_with fail
        refine (KN.out B A _ _ _ false LB'.out LA'.out FF.out.2.1 FF.out.1 HR2.out h5.2.1 h5.1).mono ?_
        rintro e wq ⟨rfl, hb⟩
        replace h5 := h5.keep hb
        clear hb
        go_wp2
        go_meet
        exact ⟨rfl, h5⟩
      | true =>
        go_wp2_with fail
        refine (KN.out B A _ _ _ true LB'.out LA'.out FF.out.2.1 FF.out.1 HR2.out h5.2.1 h5.1).mono ?_
        rintro e wq ⟨rfl, hb⟩
        replace h5 := h5.keep hb
        clear hb
        go_wp2_with fail
        refine (KI.out _ _ _ (FF.out.2.2.2.2.2.2.2.2.2.2.2.1 (HR1.out.1 rfl) (HR2.out.1 rfl)) h5.1 h5.2.1).mono ?_
        rintro e wq ⟨rfl, hb⟩
        replace h5 := h5.keep hb
        clear hb
        go_wp2
        go_meet
        exact ⟨rfl, h5⟩
  case rest =>
  as_aux_lemma =>
  clear h5
  obtain ⟨rfl, h5⟩ := hcut
  cases r1 with
  | false =>
    go_wp2_with fail
    refine (KN.out A B _ _ _ false LA'.out LB'.out FF.out.1 FF.out.2.1 HR1.out h5.1 h5.2.1).mono ?_
    rintro e wq ⟨rfl, hb⟩
    replace h5 := h5.keep hb
    clear hb
    go_wp2
    go_ret
    exact ⟨rfl, h5.2.2.2.2.2⟩
  | true =>
    go_wp2_with fail
    refine (KN.out A B _ _ _ true LA'.out LB'.out FF.out.1 FF.out.2.1 HR1.out h5.1 h5.2.1).mono ?_
    rintro e wq ⟨rfl, hb⟩
    replace h5 := h5.keep hb
    clear hb
    cases q2 with
    | false =>
      go_wp2_with fail
      refine (KN.out B C _ _ _ false LB'.out LC'.out FF.out.2.1 FF.out.2.2.1 HQ2.out h5.2.1 h5.2.2.1).mono ?_
      rintro e wq ⟨rfl, hb⟩
      replace h5 := h5.keep hb
      clear hb
      go_wp2
      go_ret
      exact ⟨rfl, h5.2.2.2.2.2⟩
    | true =>
      go_wp2_with fail
      refine (KN.out B C _ _ _ true LB'.out LC'.out FF.out.2.1 FF.out.2.2.1 HQ2.out h5.2.1 h5.2.2.1).mono ?_
      rintro e wq ⟨rfl, hb⟩
      replace h5 := h5.keep hb
      clear hb
      go_wp2_with fail
      refine (KN.out A C _ _ _ true LA'.out LC'.out FF.out.1 FF.out.2.2.1 (iff_of_true rfl (FF.out.2.2.2.2.2.2.2.2.2.2.2.2 (HR1.out.1 rfl) (HQ2.out.1 rfl))) h5.1 h5.2.2.1).mono ?_
      rintro e wq ⟨rfl, hb⟩
      replace h5 := h5.keep hb
      clear hb
      go_wp2
      go_ret
      exact ⟨rfl, h5.2.2.2.2.2⟩
end Go.Proofs.Ytpbjmdkfijlooab

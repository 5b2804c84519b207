/- Certificates there and back: plain. -/
import Derived.Test.YtgopaoecmefnkaaZdE
import Derived.Test.YtgopaoecmefnkaaZpE
namespace Go.Proofs.Ytgopaoecmefnkaa.S
open Go.RowKit Go.Shelf
theorem be_succ (wd n : Nat) : be (wd + 1) n = be wd (n / 256) ++ [n % 256] := by
  unfold be
  rw [List.range_succ, List.map_append]
  congr 1
  · refine List.map_congr_left fun i hi => ?_
    rw [List.mem_range] at hi
    rw [Nat.div_div_eq_div_mul, show wd + 1 - 1 - i = (wd - 1 - i) + 1 by omega, Nat.pow_succ, Nat.mul_comm]
  · simp
theorem val_be : ∀ (wd n : Nat), n < 256 ^ wd → valB (be wd n) = n
  | 0, n, h => by simp at h; subst h; rfl
  | wd + 1, n, h => by
    rw [be_succ, valB_snoc, val_be wd (n / 256) (by rw [Nat.pow_succ] at h; omega)]
    omega
theorem be_val : ∀ (l : List Nat), (∀ b ∈ l, b < 256) → be l.length (valB l) = l := by
  have key : ∀ n, ∀ l : List Nat, l.length = n → (∀ b ∈ l, b < 256) → be n (valB l) = l := by
    intro n
    induction n with
    | zero => intro l hl _; rw [List.eq_nil_of_length_eq_zero hl]; rfl
    | succ n ih =>
      intro l hl hb
      have hne : l ≠ [] := fun e => by rw [e] at hl; cases hl
      have e : l = l.dropLast ++ [l.getLast hne] := (List.dropLast_concat_getLast hne).symm
      have h1 := ih l.dropLast (by rw [List.length_dropLast]; omega) (fun b hb' => hb b ((List.dropLast_sublist l).subset hb'))
      have h2 := hb (l.getLast hne) (List.getLast_mem hne)
      rw [be_succ]
      have hv : valB l = 256 * valB l.dropLast + l.getLast hne := by rw [← valB_snoc, ← e]
      rw [hv, show (256 * valB l.dropLast + l.getLast hne) / 256 = valB l.dropLast by omega, show (256 * valB l.dropLast + l.getLast hne) % 256 = l.getLast hne by omega, h1, ← e]
  exact fun l hb => key _ l rfl hb
theorem tk_be {wd n : Nat} (h : n < 256 ^ wd) (r : List Nat) (b : Bool) : tkN wd (be wd n ++ r, b) = n ∧ tkS wd (be wd n ++ r, b) = (r, b) := by
  have hl : ¬ (be wd n ++ r).length < wd := by rw [List.length_append, be_len]; omega
  unfold tkN tkS
  rw [if_neg hl, if_neg hl]
  refine ⟨?_, ?_⟩
  · show valB ((be wd n ++ r).take wd) = n
    rw [List.take_left' (be_len wd n), val_be wd n h]
  · show ((be wd n ++ r).drop wd, b) = (r, b)
    rw [List.drop_left' (be_len wd n)]
/-- A number that was there was there. -/
theorem tk_inv {wd : Nat} {s : RdS} (hb : ∀ b ∈ s.1, b < 256) (h : (tkS wd s).2 = false) : s.2 = false ∧ s.1 = be wd (tkN wd s) ++ (tkS wd s).1 := by
  unfold tkS tkN at *
  by_cases hl : s.1.length < wd
  · rw [if_pos hl] at h; cases h
  · rw [if_neg hl] at h ⊢
    rw [if_neg hl]
    refine ⟨h, ?_⟩
    have hk := be_val (s.1.take wd) (fun b hb' => hb b (List.mem_of_mem_take hb'))
    rw [List.length_take, Nat.min_eq_left (by omega)] at hk
    rw [hk]
    exact (List.take_append_drop wd s.1).symm
theorem spB_cons (x : Int) (l : List Int) : spB (x :: l) = be 1 x.toNat ++ spB l := by simp [spB]
theorem drop_cons_at {α : Type} {l : List α} {j : Nat} {x : α} (h : l[j]? = some x) : l.drop j = x :: l.drop (j + 1) := by
  obtain ⟨hj, e⟩ := List.getElem?_eq_some_iff.1 h
  rw [← e]
  exact List.drop_eq_getElem_cons hj
theorem take_snoc_at {α : Type} {l : List α} {j : Nat} {x : α} (h : l[j]? = some x) : l.take (j + 1) = l.take j ++ [x] := by rw [List.take_add_one, h]; rfl
theorem rs_fwd (S : List Int) (hS : ∀ x ∈ S, 0 ≤ x ∧ x < 256) (r : List Nat) (b : Bool) : ∀ j, j ≤ S.length → rsS j (spB S ++ r, b) = (spB (S.drop j) ++ r, b) ∧ rsL j (spB S ++ r, b) = S.take j
  | 0, _ => ⟨rfl, rfl⟩
  | j + 1, hj => by
    obtain ⟨h1, h2⟩ := rs_fwd S hS r b j (by omega)
    obtain ⟨x, hx⟩ : ∃ x, S[j]? = some x := ⟨_, List.getElem?_eq_getElem (by omega)⟩
    have hxr := hS x (List.mem_of_getElem? hx)
    have ht := tk_be (wd := 1) (n := x.toNat) (by omega) (spB (S.drop (j + 1)) ++ r) b
    rw [rsS, rsL, h1, h2, drop_cons_at hx, spB_cons, List.append_assoc, ht.1, ht.2, take_snoc_at hx]
    refine ⟨rfl, ?_⟩
    rw [Int.toNat_of_nonneg hxr.1]
theorem rs_inv (n : Nat) {s : RdS} (hb : ∀ b ∈ s.1, b < 256) (h : (rsS n s).2 = false) : s.2 = false ∧ s.1 = spB (rsL n s) ++ (rsS n s).1 := by
  induction n with
  | zero => exact ⟨h, by simp [rsL, rsS, spB]⟩
  | succ n ih =>
    obtain ⟨h1, h2⟩ := tk_inv (rsS_mem hb) h
    obtain ⟨h3, h4⟩ := ih h1
    refine ⟨h3, ?_⟩
    show s.1 = spB (rsL n s ++ [(tkN 1 (rsS n s) : Int)]) ++ (tkS 1 (rsS n s)).1
    have e : spB (rsL n s ++ [(tkN 1 (rsS n s) : Int)]) = spB (rsL n s) ++ be 1 (tkN 1 (rsS n s)) := by simp [spB]
    rw [e, List.append_assoc, ← h2]
    exact h4
theorem rd_fwd {n : Int} {r : Rl} (hr : chk n r = true) (rest : List Nat) (b : Bool) : rdR (ruB r ++ rest, b) = r ∧ rdRS (ruB r ++ rest, b) = (rest, b) := by
  obtain ⟨k1, k2, k3, k4, k5, k6⟩ := rule_small hr
  have e : ruB r ++ rest = be 1 r.kind.toNat ++ (be 4 r.k.toNat ++ (be 1 r.steps.length ++ (spB r.steps ++ rest))) := by simp [ruB]
  have t1 := tk_be (wd := 1) (n := r.kind.toNat) (by omega) (be 4 r.k.toNat ++ (be 1 r.steps.length ++ (spB r.steps ++ rest))) b
  have t2 := tk_be (wd := 4) (n := r.k.toNat) (by omega) (be 1 r.steps.length ++ (spB r.steps ++ rest)) b
  have t3 := tk_be (wd := 1) (n := r.steps.length) (by omega) (spB r.steps ++ rest) b
  have t4 := rs_fwd r.steps (fun x hx => by have := k5 x hx; omega) rest b r.steps.length (Nat.le_refl _)
  unfold rdR rdRS
  rw [e, t1.1, t1.2, t2.1, t2.2, t3.1, t3.2, t4.1, t4.2, List.take_length, List.drop_length]
  refine ⟨?_, rfl⟩
  rw [Int.toNat_of_nonneg k1, Int.toNat_of_nonneg k3]
theorem rd_inv {s : RdS} (hb : ∀ b ∈ s.1, b < 256) (h : (rdRS s).2 = false) : s.2 = false ∧ s.1 = ruB (rdR s) ++ (rdRS s).1 := by
  obtain ⟨a1, a2⟩ := rs_inv _ (tkS_mem (wd := 1) (tkS_mem (wd := 4) (tkS_mem (wd := 1) hb))) h
  obtain ⟨b1, b2⟩ := tk_inv (tkS_mem (wd := 4) (tkS_mem (wd := 1) hb)) a1
  obtain ⟨c1, c2⟩ := tk_inv (tkS_mem (wd := 1) hb) b1
  obtain ⟨d1, d2⟩ := tk_inv hb c1
  refine ⟨d1, ?_⟩
  have e : ruB (rdR s) = be 1 (tkN 1 s) ++ be 4 (tkN 4 (tkS 1 s)) ++ be 1 (tkN 1 (tkS 4 (tkS 1 s))) ++ spB (rsL (tkN 1 (tkS 4 (tkS 1 s))) (tkS 1 (tkS 4 (tkS 1 s)))) := by
    unfold ruB rdR
    simp only [rsL_len, Int.toNat_natCast]
  have a2' : (tkS 1 (tkS 4 (tkS 1 s))).1 = spB (rsL (tkN 1 (tkS 4 (tkS 1 s))) (tkS 1 (tkS 4 (tkS 1 s)))) ++ (rdRS s).1 := a2
  rw [e]
  simp only [List.append_assoc]
  rw [← a2', ← b2, ← c2]
  exact d2
theorem rusB_cons (r : Rl) (l : List Rl) : rusB (r :: l) = ruB r ++ rusB l := by simp [rusB]
theorem cr_fwd {n : Int} (R : List Rl) (hR : ∀ r ∈ R, chk n r = true) (rest : List Nat) (b : Bool) : ∀ j, j ≤ R.length → crS j (rusB R ++ rest, b) = (rusB (R.drop j) ++ rest, b) ∧ crL j (rusB R ++ rest, b) = R.take j
  | 0, _ => ⟨rfl, rfl⟩
  | j + 1, hj => by
    obtain ⟨h1, h2⟩ := cr_fwd R hR rest b j (by omega)
    obtain ⟨x, hx⟩ : ∃ x, R[j]? = some x := ⟨_, List.getElem?_eq_getElem (by omega)⟩
    have ht := rd_fwd (hR x (List.mem_of_getElem? hx)) (rusB (R.drop (j + 1)) ++ rest) b
    rw [crS, crL, h1, h2, drop_cons_at hx, rusB_cons, List.append_assoc, ht.1, ht.2, take_snoc_at hx]
    exact ⟨rfl, rfl⟩
theorem cr_inv (n : Nat) {s : RdS} (hb : ∀ b ∈ s.1, b < 256) (h : (crS n s).2 = false) : s.2 = false ∧ s.1 = rusB (crL n s) ++ (crS n s).1 := by
  induction n with
  | zero => exact ⟨h, by simp [crL, crS, rusB]⟩
  | succ n ih =>
    obtain ⟨h1, h2⟩ := rd_inv (crS_mem hb) h
    obtain ⟨h3, h4⟩ := ih h1
    refine ⟨h3, ?_⟩
    show s.1 = rusB (crL n s ++ [rdR (crS n s)]) ++ (rdRS (crS n s)).1
    have e : rusB (crL n s ++ [rdR (crS n s)]) = rusB (crL n s) ++ ruB (rdR (crS n s)) := by simp [rusB]
    rw [e, List.append_assoc, ← h2]
    exact h4
/-- The bytes of the steps from one on. -/
def stT (P : Pb) (L : List Int) (j : Nat) : List Nat := ((List.range P.who.length).drop j).flatMap (stB P L)
theorem stT_step {P : Pb} {L : List Int} {j : Nat} (h : j < P.who.length) : stT P L j = stB P L j ++ stT P L (j + 1) := by
  unfold stT
  rw [drop_cons_at (x := j) (by rw [List.getElem?_range h])]
  simp
theorem cs_fwd (P : Pb) (L : List Int) (hh : holP P L = true) (hk : Pok P) (rest : List Nat) (b : Bool) : ∀ j, j ≤ P.who.length → csS j (stT P L 0 ++ rest, b) = (stT P L j ++ rest, b) ∧ csW j (stT P L 0 ++ rest, b) = P.who.take j ∧ csF j (stT P L 0 ++ rest, b) = P.fixed.take j ∧ csP j (stT P L 0 ++ rest, b) = L.take j
  | 0, _ => ⟨rfl, rfl, rfl, rfl⟩
  | j + 1, hj => by
    obtain ⟨h1, h2, h3, h4⟩ := cs_fwd P L hh hk rest b j (by omega)
    have hC := holP_chk hh
    obtain ⟨_, g0, g64, _, gF, _, _⟩ := chkN_zero hC
    obtain ⟨gl, gx⟩ := fixB_of gF g64
    have hl : L.length = P.who.length := by unfold holP at hh; simp only [Bool.and_eq_true, decide_eq_true_eq] at hh; exact hh.1.1.2
    obtain ⟨z, hz⟩ : ∃ x, P.who[j]? = some x := ⟨_, List.getElem?_eq_getElem (by omega)⟩
    obtain ⟨y, hy⟩ : ∃ x, P.fixed[j]? = some x := ⟨_, List.getElem?_eq_getElem (by omega)⟩
    obtain ⟨x, hx⟩ : ∃ x, L[j]? = some x := ⟨_, List.getElem?_eq_getElem (by omega)⟩
    have hzb := hk.b z (List.mem_of_getElem? hz)
    have hyb := gx y (List.mem_of_getElem? hy)
    have hxb : 0 ≤ x ∧ x < 64 := by
      unfold holP at hh
      simp only [Bool.and_eq_true, decide_eq_true_eq] at hh
      have q3 := hh.1.2
      unfold okA at q3
      rw [List.all_eq_true] at q3
      have q4 := q3 j (List.mem_range.2 (by omega))
      rw [show L.getD j 0 = x by simp [List.getD_eq_getElem?_getD, hx]] at q4
      unfold okU at q4
      rw [Bool.and_eq_true] at q4
      have q5 := (isU_iff P x).1 q4.1
      omega
    have e : stT P L j ++ rest = be 8 z ++ (be 1 (y + 1).toNat ++ (be 1 x.toNat ++ (stT P L (j + 1) ++ rest))) := by
      rw [stT_step (by omega), stB_at hz hy hx]; simp
    have t1 := tk_be (wd := 8) (n := z) hzb (be 1 (y + 1).toNat ++ (be 1 x.toNat ++ (stT P L (j + 1) ++ rest))) b
    have t2 := tk_be (wd := 1) (n := (y + 1).toNat) (by omega) (be 1 x.toNat ++ (stT P L (j + 1) ++ rest)) b
    have t3 := tk_be (wd := 1) (n := x.toNat) (by omega) (stT P L (j + 1) ++ rest) b
    rw [csS, csW, csF, csP, h1, h2, h3, h4, e, t1.1, t1.2, t2.1, t2.2, t3.1, t3.2, take_snoc_at hz, take_snoc_at hy, take_snoc_at hx]
    refine ⟨rfl, rfl, ?_, ?_⟩
    · rw [Int.toNat_of_nonneg (by omega)]; simp
    · rw [Int.toNat_of_nonneg hxb.1]
theorem stT_zero (P : Pb) (L : List Int) : stT P L 0 = stsB P L P.who.length := rfl
/-- What is written is read. -/
theorem back_fwd {P : Pb} {L : List Int} (hh : holP P L = true) (hk : Pok P) : rcP (certL P L, false) = P ∧ rcL (certL P L, false) = L ∧ rcS (certL P L, false) = ([], false) := by
  have hC := holP_chk hh
  obtain ⟨g12, g0, g64, g32, gF, _, gR⟩ := chkN_zero hC
  obtain ⟨gl, gx⟩ := fixB_of gF g64
  have hl : L.length = P.who.length := by unfold holP at hh; simp only [Bool.and_eq_true, decide_eq_true_eq] at hh; exact hh.1.1.2
  have e : certL P L = be 2 20547 ++ (be 1 P.users.toNat ++ (be 1 P.who.length ++ (stT P L 0 ++ (be 1 P.rules.length ++ (rusB P.rules ++ []))))) := by
    unfold certL hdB
    rw [stT_zero]
    simp
  have t0 := tk_be (wd := 2) (n := 20547) (by decide) (be 1 P.users.toNat ++ (be 1 P.who.length ++ (stT P L 0 ++ (be 1 P.rules.length ++ (rusB P.rules ++ []))))) false
  have t1 := tk_be (wd := 1) (n := P.users.toNat) (by omega) (be 1 P.who.length ++ (stT P L 0 ++ (be 1 P.rules.length ++ (rusB P.rules ++ [])))) false
  have t2 := tk_be (wd := 1) (n := P.who.length) (by omega) (stT P L 0 ++ (be 1 P.rules.length ++ (rusB P.rules ++ []))) false
  have t3 := cs_fwd P L hh hk (be 1 P.rules.length ++ (rusB P.rules ++ [])) false P.who.length (Nat.le_refl _)
  have t4 := tk_be (wd := 1) (n := P.rules.length) (by omega) (rusB P.rules ++ []) false
  have t5 := cr_fwd (n := (P.who.length : Int)) P.rules (fun r hr => List.all_eq_true.1 gR r hr) [] false P.rules.length (Nat.le_refl _)
  have hm : mkS (certL P L, false) = (be 1 P.users.toNat ++ (be 1 P.who.length ++ (stT P L 0 ++ (be 1 P.rules.length ++ (rusB P.rules ++ [])))), false) := by
    unfold mkS
    rw [e, t0.1, if_pos rfl, t0.2]
  have hd : stT P L P.who.length = [] := by
    unfold stT
    rw [List.drop_eq_nil_of_le (by simp)]
    rfl
  rw [hd, List.nil_append] at t3
  have hN : rcN (certL P L, false) = P.who.length := by unfold rcN; rw [hm, t1.2, t2.1]
  have hA : rcA (certL P L, false) = (stT P L 0 ++ (be 1 P.rules.length ++ (rusB P.rules ++ [])), false) := by unfold rcA; rw [hm, t1.2, t2.2]
  have hK : rcK (certL P L, false) = P.rules.length := by unfold rcK; rw [hN, hA, t3.1, t4.1]
  have hB : rcB (certL P L, false) = (rusB P.rules ++ [], false) := by unfold rcB; rw [hN, hA, t3.1, t4.2]
  refine ⟨?_, ?_, ?_⟩
  · unfold rcP
    rw [hN, hA, hK, hB, hm, t1.1, t3.2.1, t3.2.2.1, t5.2, List.take_length, List.take_length, List.take_of_length_le (by omega), Int.toNat_of_nonneg g0]
  · unfold rcL
    rw [hN, hA, t3.2.2.2, List.take_of_length_le (by omega)]
  · unfold rcS
    rw [hK, hB, t5.1, List.drop_length]
    rfl
theorem back_rd {P : Pb} {L : List Int} (hh : holP P L = true) (hk : Pok P) : rdN (certL P L) = 0 ∧ rdP (certL P L) = P ∧ rdL (certL P L) = L := by
  obtain ⟨h1, h2, h3⟩ := back_fwd hh hk
  have h0 : rdN (certL P L) = 0 := by
    unfold rdN rdF_
    rw [h1, h2, h3, if_pos ⟨rfl, holP_chk hh⟩, hh, if_pos rfl]
  refine ⟨h0, ?_, ?_⟩
  · unfold rdP; rw [if_pos h0]; exact h1
  · unfold rdL; rw [if_pos h0]; exact h2
end Go.Proofs.Ytgopaoecmefnkaa.S

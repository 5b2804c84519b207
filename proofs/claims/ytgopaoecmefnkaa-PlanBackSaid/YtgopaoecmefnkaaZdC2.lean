/- Certificates back and there: plain. -/
import Derived.Test.YtgopaoecmefnkaaZdB
namespace Go.Proofs.Ytgopaoecmefnkaa.S
open Go.RowKit Go.Shelf
theorem getD_left {α : Type} {l : List α} {x d : α} {i : Nat} (h : i < l.length) : (l ++ [x]).getD i d = l.getD i d := by
  simp [List.getD_eq_getElem?_getD, List.getElem?_append_left h]
theorem stsB_snoc (u u' : Int) (W : List Nat) (F : List Int) (R R' : List Rl) (L : List Int) (z : Nat) (y x : Int) (n : Nat) (hW : W.length = n) (hF : F.length = n) (hL : L.length = n) :
    stsB ⟨u, W ++ [z], F ++ [y], R⟩ (L ++ [x]) (n + 1) = stsB ⟨u', W, F, R'⟩ L n ++ (be 8 z ++ be 1 (y + 1).toNat ++ be 1 x.toNat) := by
  rw [stsB_succ]
  congr 1
  · unfold stsB
    have : ∀ t ∈ List.range n, stB ⟨u, W ++ [z], F ++ [y], R⟩ (L ++ [x]) t = stB ⟨u', W, F, R'⟩ L t := fun t ht => by
      rw [List.mem_range] at ht
      unfold stB
      show be 8 ((W ++ [z]).getD t 0) ++ be 1 ((F ++ [y]).getD t 0 + 1).toNat ++ be 1 ((L ++ [x]).getD t 0).toNat = be 8 (W.getD t 0) ++ be 1 (F.getD t 0 + 1).toNat ++ be 1 (L.getD t 0).toNat
      rw [getD_left (by omega), getD_left (by omega), getD_left (by omega)]
    rw [List.flatMap_def, List.flatMap_def, List.map_congr_left this]
  · refine stB_at ?_ ?_ ?_
    · show (W ++ [z])[n]? = some z
      rw [← hW]; simp
    · show (F ++ [y])[n]? = some y
      rw [← hF]; simp
    · rw [← hL]; simp
theorem cs_inv (u : Int) (R : List Rl) (n : Nat) {s : RdS} (hb : ∀ b ∈ s.1, b < 256) (h : (csS n s).2 = false) : s.2 = false ∧ s.1 = stsB ⟨u, csW n s, csF n s, R⟩ (csP n s) n ++ (csS n s).1 := by
  induction n with
  | zero => exact ⟨h, by simp [csS, stsB]⟩
  | succ n ih =>
    have hc := csS_mem (n := n) hb
    obtain ⟨a1, a2⟩ := tk_inv (tkS_mem (wd := 1) (tkS_mem (wd := 8) hc)) h
    obtain ⟨b1, b2⟩ := tk_inv (tkS_mem (wd := 8) hc) a1
    obtain ⟨c1, c2⟩ := tk_inv hc b1
    obtain ⟨d1, d2⟩ := ih c1
    refine ⟨d1, ?_⟩
    show s.1 = stsB ⟨u, csW n s ++ [tkN 8 (csS n s)], csF n s ++ [(tkN 1 (tkS 8 (csS n s)) : Int) - 1], R⟩ (csP n s ++ [(tkN 1 (tkS 1 (tkS 8 (csS n s))) : Int)]) (n + 1) ++ (tkS 1 (tkS 1 (tkS 8 (csS n s)))).1
    rw [stsB_snoc u u _ _ R R _ _ _ _ n (csW_len n s) (csF_len n s) (csP_len n s)]
    have e1 : ((tkN 1 (tkS 8 (csS n s)) : Int) - 1 + 1).toNat = tkN 1 (tkS 8 (csS n s)) := by omega
    rw [e1, Int.toNat_natCast]
    simp only [List.append_assoc]
    rw [← a2, ← b2, ← c2]
    exact d2
/-- What is taken is written again. -/
theorem back_inv {L : List Nat} (hb : ∀ b ∈ L, b < 256) (h : (rcS (L, false)).2 = false) (h0 : (rcS (L, false)).1.length = 0) : certL (rcP (L, false)) (rcL (L, false)) = L := by
  have hm := mkS_mem (s := (L, false)) hb
  have hA : ∀ b ∈ (rcA (L, false)).1, b < 256 := tkS_mem (tkS_mem hm)
  have hBm : ∀ b ∈ (rcB (L, false)).1, b < 256 := tkS_mem (csS_mem hA)
  obtain ⟨a1, a2⟩ := cr_inv (rcK (L, false)) hBm h
  obtain ⟨b1, b2⟩ := tk_inv (csS_mem (n := rcN (L, false)) hA) a1
  obtain ⟨c1, c2⟩ := cs_inv ((tkN 1 (mkS (L, false)) : Nat) : Int) (crL (rcK (L, false)) (rcB (L, false))) (rcN (L, false)) hA b1
  obtain ⟨d1, d2⟩ := tk_inv (tkS_mem (wd := 1) hm) c1
  obtain ⟨e1, e2⟩ := tk_inv hm d1
  have hk : tkN 2 (L, false) = 20547 := by
    by_cases q : tkN 2 (L, false) = 20547
    · exact q
    · unfold mkS at e1
      rw [if_neg q] at e1
      cases e1
  have hms : mkS (L, false) = tkS 2 (L, false) := by unfold mkS; rw [if_pos hk]
  rw [hms] at e1
  obtain ⟨_, f2⟩ := tk_inv (s := (L, false)) hb e1
  have hz : (crS (rcK (L, false)) (rcB (L, false))).1 = [] := List.eq_nil_of_length_eq_zero h0
  rw [hz, List.append_nil] at a2
  have a2' : (tkS 1 (csS (rcN (L, false)) (rcA (L, false)))).1 = rusB (crL (rcK (L, false)) (rcB (L, false))) := a2
  have c2' : (tkS 1 (tkS 1 (mkS (L, false)))).1 = stsB (rcP (L, false)) (rcL (L, false)) (rcN (L, false)) ++ (csS (rcN (L, false)) (rcA (L, false))).1 := c2
  have b2' : (csS (rcN (L, false)) (rcA (L, false))).1 = be 1 (rcK (L, false)) ++ (tkS 1 (csS (rcN (L, false)) (rcA (L, false)))).1 := b2
  have d2' : (tkS 1 (mkS (L, false))).1 = be 1 (rcN (L, false)) ++ (tkS 1 (tkS 1 (mkS (L, false)))).1 := d2
  have hw : (rcP (L, false)).who.length = rcN (L, false) := csW_len _ _
  have hr : (rcP (L, false)).rules.length = rcK (L, false) := crL_len _ _
  have hu : (rcP (L, false)).users.toNat = tkN 1 (mkS (L, false)) := Int.toNat_natCast _
  unfold certL hdB
  rw [hw, hr, hu]
  simp only [List.append_assoc]
  have hrr : rusB (rcP (L, false)).rules = (tkS 1 (csS (rcN (L, false)) (rcA (L, false)))).1 := a2'.symm
  rw [hrr, ← b2', ← c2', ← d2', ← e2, hms, ← hk]
  exact f2.symm
theorem back_wr {L : List Nat} (hb : ∀ b ∈ L, b < 256) (h : rdN L = 0) : holP (rdP L) (rdL L) = true ∧ certL (rdP L) (rdL L) = L ∧ Pok (rdP L) := by
  have hP : rdP L = rcP (L, false) := by unfold rdP; rw [if_pos h]
  have hL : rdL L = rcL (L, false) := by unfold rdL; rw [if_pos h]
  rw [hP, hL]
  unfold rdN at h
  split at h
  · rename_i hc
    split at h
    · rename_i hh
      have hf := hc.1
      unfold rdF_ at hf
      rw [Bool.and_eq_true, decide_eq_true_eq] at hf
      have hf1 : (rcS (L, false)).2 = false := by cases q : (rcS (L, false)).2; rfl; rw [q] at hf; cases hf.1
      exact ⟨hh, back_inv hb hf1 hf.2, rcP_ok hb⟩
    · cases h
  · cases h
end Go.Proofs.Ytgopaoecmefnkaa.S

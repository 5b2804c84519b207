/- A token as the document asks it is whole: plain facts. -/
import Derived.Test.YtghodeggobgclaaLAsSc
import Derived.Test.YtghodeggobgclaaLRef2
namespace Go.Proofs.Ytghodeggobgclaa
/-- A token such as the document's Scan tells. -/
def fitsT (t : Tok) : Bool :=
  if t.kind = 1 then legalT t.text && decide (t.num = 0)
  else if t.kind = 2 then rightT t.text && decide (t.num = (valu t.text : Nat))
  else if t.kind = 3 then (match t.text with | [c] => isMk c && decide (t.num = 0) | _ => false)
  else if t.kind = 4 then decide (t.text = []) && decide (t.num = 0)
  else false
theorem len_full {p : UInt8 → Bool} : ∀ {l : List UInt8}, len p l = l.length ↔ l.all p = true
  | [] => by simp [len]
  | c :: l => by
    have ih := len_full (p := p) (l := l)
    cases h : p c
    · rw [len_cons_false h]; simp [h]
    · rw [len_cons_true h]
      simp [h]
      simpa using ih
theorem take_full {l : List UInt8} {n : Nat} (hn : n ≤ l.length) : decide (l.take n = l) = decide (n = l.length) := by
  rw [decide_eq_decide]
  constructor
  · intro h
    have := congrArg List.length h
    rw [List.length_take] at this
    omega
  · rintro rfl; exact List.take_length
theorem fits_whole (t : Tok) : fitsT t = wholeT t := by
  obtain ⟨kd, tx, nm, ln, cl⟩ := t
  unfold fitsT wholeT
  simp only
  by_cases h4 : kd = 4
  · subst h4
    simp
  · rw [if_neg h4]
    cases tx with
    | nil =>
      simp only [h4, if_false, legalT, rightT, Bool.false_and]
      simp
    | cons c r =>
      simp only [h4, if_false]
      cases hl : isLet c
      · cases hd : isDig c
        · cases hm : isMk c
          · have hcut : cutT (c :: r) = .error 3 := by unfold cutT; simp [hl, hd, hm]
            rw [hcut]
            simp only [legalT, rightT, hl, List.all_cons, hd, Bool.and_false, Bool.false_and]
            cases r with
            | nil => simp [hm]
            | cons => simp
          · have hcut : cutT (c :: r) = .ok (3, 1, 0) := by unfold cutT; simp [hl, hd, hm]
            rw [hcut]
            simp only [legalT, rightT, hl, List.all_cons, hd, Bool.and_false, Bool.false_and]
            cases r with
            | nil => by_cases h3 : kd = 3 <;> simp [hm, h3, eq_comm]
            | cons => simp
        · have hmk : isMk c = false := by
            cases hm : isMk c with
            | false => rfl
            | true =>
              have : c = 44 ∨ c = 58 ∨ c = 60 ∨ c = 62 ∨ c = 61 ∨ c = 40 ∨ c = 41 := by simpa [isMk] using hm
              rcases this with rfl | rfl | rfl | rfl | rfl | rfl | rfl <;> simp [isDig] at hd
          have hn : len isDig (c :: r) ≤ (c :: r).length := len_le _ _
          have hfull := len_full (p := isDig) (l := c :: r)
          have hfits : (if kd = 1 then legalT (c :: r) && decide (nm = 0) else if kd = 2 then rightT (c :: r) && decide (nm = ((valu (c :: r) : Nat) : Int)) else if kd = 3 then (match c :: r with | [c] => isMk c && decide (nm = 0) | _ => false) else false) = (decide (kd = 2) && (rightT (c :: r) && decide (nm = ((valu (c :: r) : Nat) : Int)))) := by
            by_cases h1 : kd = 1
            · subst h1; simp [legalT, hl]
            · by_cases h2 : kd = 2
              · subst h2; simp
              · by_cases h3 : kd = 3
                · subst h3
                  cases r with
                  | nil => simp [hmk]
                  | cons => simp
                · simp [h1, h2, h3]
          rw [hfits]
          have hcut : cutT (c :: r) = (if 9 < len isDig (c :: r) ∨ (1 < len isDig (c :: r) ∧ c = 48) then .error 3 else if (((c :: r).drop (len isDig (c :: r))).head?.any isIn) then .error 3 else .ok (2, len isDig (c :: r), ((valu ((c :: r).take (len isDig (c :: r))) : Nat) : Int))) := by
            unfold cutT; simp only [hl, hd, Bool.false_eq_true, if_false, if_true]
          rw [hcut]
          by_cases hall : len isDig (c :: r) = (c :: r).length
          · rw [hall]
            have hdr : (c :: r).drop (c :: r).length = [] := List.drop_eq_nil_of_le (Nat.le_refl _)
            have htk : (c :: r).take (c :: r).length = c :: r := List.take_length
            rw [hdr, htk]
            have hA : (c :: r).all isDig = true := hfull.1 hall
            unfold rightT
            simp only [hA, Bool.and_true, List.head?_nil, Option.any_none, Bool.false_eq_true, if_false]
            by_cases hb : 9 < (c :: r).length ∨ (1 < (c :: r).length ∧ c = 48)
            · rw [if_pos hb]
              rcases hb with hb | ⟨hb1, hb2⟩
              · rw [show decide ((c :: r).length ≤ 9) = false from decide_eq_false (by omega)]; simp
              · rw [show decide (1 < (c :: r).length) = true from decide_eq_true hb1, show decide (c = 48) = true from decide_eq_true hb2]; simp
            · rw [if_neg hb]
              have e1 : decide ((c :: r).length ≤ 9) = true := decide_eq_true (by omega)
              have e2 : (decide (1 < (c :: r).length) && decide (c = 48)) = false := by
                rw [Bool.and_eq_false_iff]
                by_cases h : 1 < (c :: r).length
                · right; exact decide_eq_false fun h' => hb (.inr ⟨h, h'⟩)
                · left; exact decide_eq_false h
              rw [e1, e2]
              simp [eq_comm]
          · have hA : (c :: r).all isDig = false := by
              cases h : (c :: r).all isDig with
              | false => rfl
              | true => exact absurd (hfull.2 h) hall
            have hR : rightT (c :: r) = false := by unfold rightT; simp only [hA, Bool.and_false]
            rw [hR]
            have htf : decide ((c :: r).take (len isDig (c :: r)) = c :: r) = false := by rw [take_full hn]; exact decide_eq_false hall
            split
            · rename_i heq
              simp
            · rename_i heq
              split at heq
              · cases heq
              · split at heq
                · cases heq
                · cases heq
                  rw [htf]; simp
      · have hdg : isDig c = false := by
          cases hd : isDig c with
          | false => rfl
          | true => simp [isDig] at hd; simp [isLet] at hl; omega
        have hmk : isMk c = false := by
          cases hm : isMk c with
          | false => rfl
          | true =>
            have : c = 44 ∨ c = 58 ∨ c = 60 ∨ c = 62 ∨ c = 61 ∨ c = 40 ∨ c = 41 := by simpa [isMk] using hm
            rcases this with rfl | rfl | rfl | rfl | rfl | rfl | rfl <;> simp [isLet] at hl
        have hn : len isIn (c :: r) ≤ (c :: r).length := len_le _ _
        have hfull := len_full (p := isIn) (l := c :: r)
        have hfits : (if kd = 1 then legalT (c :: r) && decide (nm = 0) else if kd = 2 then rightT (c :: r) && decide (nm = ((valu (c :: r) : Nat) : Int)) else if kd = 3 then (match c :: r with | [c] => isMk c && decide (nm = 0) | _ => false) else false) = (decide (kd = 1) && (legalT (c :: r) && decide (nm = 0))) := by
          by_cases h1 : kd = 1
          · subst h1; simp
          · by_cases h2 : kd = 2
            · subst h2; simp [rightT, hdg]
            · by_cases h3 : kd = 3
              · subst h3
                cases r with
                | nil => simp [hmk]
                | cons => simp
              · simp [h1, h2, h3]
        rw [hfits]
        have hcut : cutT (c :: r) = (if 24 < len isIn (c :: r) then .error 4 else .ok (1, len isIn (c :: r), 0)) := by
          unfold cutT; simp only [hl, if_true]
        rw [hcut]
        have hL : legalT (c :: r) = (decide ((c :: r).length ≤ 24) && (c :: r).all isIn) := by unfold legalT; simp only [hl, Bool.and_true]
        rw [hL]
        by_cases hall : len isIn (c :: r) = (c :: r).length
        · have hA : (c :: r).all isIn = true := hfull.1 hall
          rw [hall, hA]
          by_cases hb : 24 < (c :: r).length
          · rw [if_pos hb, show decide ((c :: r).length ≤ 24) = false from decide_eq_false (by omega)]; simp
          · rw [if_neg hb, show decide ((c :: r).length ≤ 24) = true from decide_eq_true (by omega)]
            simp [eq_comm]
        · have hA : (c :: r).all isIn = false := by
            cases h : (c :: r).all isIn with
            | false => rfl
            | true => exact absurd (hfull.2 h) hall
          have htf : decide ((c :: r).take (len isIn (c :: r)) = c :: r) = false := by rw [take_full hn]; exact decide_eq_false hall
          rw [hA]
          split
          · simp
          · rename_i heq
            split at heq
            · cases heq
            · cases heq
              rw [htf]; simp
end Go.Proofs.Ytghodeggobgclaa

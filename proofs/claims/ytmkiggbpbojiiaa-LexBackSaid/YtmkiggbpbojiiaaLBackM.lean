/- Tokens there and back: plain facts. -/
import Derived.Test.YtmkiggbpbojiiaaLShow
namespace Go.Proofs.Ytmkiggbpbojiiaa
/-- The text of the tokens behind others. -/
def shS : List Tok → List Tok → List UInt8
  | _, [] => []
  | pre, t :: ts => shOne pre t ++ shS (pre ++ [t]) ts
theorem shS_shN (L : List Tok) : ∀ (n : Nat), n ≤ L.length → shT L = shN L n ++ shS (L.take n) (L.drop n) := by
  intro n hn
  obtain ⟨k, hk⟩ : ∃ k, L.length = n + k := ⟨L.length - n, by omega⟩
  clear hn
  induction k generalizing n with
  | zero =>
    unfold shT
    rw [hk, Nat.add_zero, List.drop_eq_nil_of_le (by omega)]
    simp [shS]
  | succ k ih =>
    obtain ⟨t, ht⟩ : ∃ t, L[n]? = some t := ⟨_, List.getElem?_eq_getElem (by omega)⟩
    rw [ih (n + 1) (by omega), shN_step ht]
    have hd : L.drop n = t :: L.drop (n + 1) := by
      obtain ⟨hl, e⟩ := List.getElem?_eq_some_iff.1 ht
      rw [List.drop_eq_getElem_cons hl, e]
    rw [hd, List.take_add_one, ht]
    simp [shS]
theorem shT_S (L : List Tok) : shT L = shS [] L := by
  have := shS_shN L 0 (Nat.zero_le _)
  simpa [shN] using this
/-- Tokens such as Scan tells, behind others. -/
def okS : List Tok → List Tok → Prop
  | _, [] => True
  | pre, t :: ts => (t.kind = 4 → endd pre = false) ∧ wholeT t = true ∧ okS (pre ++ [t]) ts
theorem okS_app : ∀ (M : List Tok) (pre : List Tok) (t : Tok), okS pre M → (t.kind = 4 → endd (pre ++ M) = false) → wholeT t = true → okS pre (M ++ [t])
  | [], pre, t, _, h1, h2 => ⟨by simpa using h1, h2, trivial⟩
  | x :: M, pre, t, h, h1, h2 => ⟨h.1, h.2.1, okS_app M (pre ++ [x]) t h.2.2 (by simpa using h1) h2⟩
theorem okS_asN (L : List Tok) : ∀ (M : List Tok) (pre : List Tok), L = pre ++ M → okS pre M → asN L pre.length = true → asN L L.length = true
  | [], pre, e, _, h => by simpa [e] using h
  | t :: M, pre, e, h, ha => by
    have ht : L[pre.length]? = some t := by rw [e]; simp
    refine okS_asN L M (pre ++ [t]) (by rw [e]; simp) h.2.2 ?_
    rw [List.length_append]
    show asN L (pre.length + 1) = true
    rw [asN_step ht, ha, h.2.1, Bool.true_and, Bool.and_true]
    have htk : L.take pre.length = pre := by rw [e]; simp
    rw [htk]
    by_cases h4 : t.kind = 4
    · rw [h.1 h4]; simp
    · simp [h4]
theorem asN_okS (L : List Tok) (h : asN L L.length = true) : ∀ (M : List Tok) (pre : List Tok), L = pre ++ M → okS pre M
  | [], _, _ => trivial
  | t :: M, pre, e => by
    have ht : L[pre.length]? = some t := by rw [e]; simp
    have hlt : pre.length < L.length := (List.getElem?_eq_some_iff.1 ht).1
    have h1 : asN L (pre.length + 1) = true := by
      cases hh : asN L (pre.length + 1) with
      | true => rfl
      | false =>
        have := asN_false hh (L.length - (pre.length + 1))
        rw [show pre.length + 1 + (L.length - (pre.length + 1)) = L.length by omega, h] at this
        cases this
    rw [asN_step ht, Bool.and_eq_true, Bool.and_eq_true] at h1
    have htk : L.take pre.length = pre := by rw [e]; simp
    rw [htk] at h1
    refine ⟨fun h4 => ?_, h1.2.2, asN_okS L h M (pre ++ [t]) (by rw [e]; simp)⟩
    have := h1.2.1
    rw [decide_eq_true h4] at this
    simpa using this
/-- What stands behind a token ends it. -/
def stops (r : List UInt8) : Prop := ∀ c, r.head? = some c → isIn c = false
theorem len_all_app {p : UInt8 → Bool} : ∀ (l r : List UInt8), len p l = l.length → (∀ c, r.head? = some c → p c = false) → len p (l ++ r) = l.length
  | [], r, _, h => by
    cases r with
    | nil => rfl
    | cons c r => rw [List.nil_append, len_cons_false (h c rfl)]; rfl
  | x :: l, r, hl, h => by
    cases hx : p x
    · rw [len_cons_false hx] at hl; simp at hl
    · rw [len_cons_true hx] at hl
      rw [List.cons_append, len_cons_true hx, len_all_app l r (by simpa using hl) h]
      rfl
theorem isDig_of_not {c : UInt8} (h : isIn c = false) : isDig c = false := by
  cases hd : isDig c with
  | false => rfl
  | true => rw [isIn_dig hd] at h; cases h
/-- A token that is its own text whole is cut off whatever stands behind it. -/
theorem cut_app {c : UInt8} {l r : List UInt8} {k v : Int} (h : cutT (c :: l) = .ok (k, (c :: l).length, v)) (hs : stops r) : cutT ((c :: l) ++ r) = .ok (k, (c :: l).length, v) := by
  unfold cutT at h ⊢
  simp only [List.cons_append] at h ⊢
  split at h
  · rename_i hl
    split at h
    · cases h
    · rename_i h24
      have hn : len isIn (c :: l) = (c :: l).length := by
        have := h; simp only [Except.ok.injEq, Prod.mk.injEq] at this; exact this.2.1
      have hn2 := len_all_app (c :: l) r hn hs
      rw [List.cons_append] at hn2
      simp only [hl, if_true, hn2]
      rw [hn] at h h24
      rw [if_neg h24]
      exact h
  · rename_i hl
    split at h
    · rename_i hd
      split at h
      · cases h
      · rename_i h9
        split at h
        · cases h
        · have hn : len isDig (c :: l) = (c :: l).length := by
            have := h; simp only [Except.ok.injEq, Prod.mk.injEq] at this; exact this.2.1
          have hn2 := len_all_app (c :: l) r hn fun x hx => isDig_of_not (hs x hx)
          rw [List.cons_append] at hn2
          rw [hn] at h h9
          rw [if_neg hl, if_pos hd, hn2, if_neg h9]
          have hdr : (c :: (l ++ r)).drop (c :: l).length = r := by
            rw [← List.cons_append]; exact List.drop_left
          have htk : (c :: (l ++ r)).take (c :: l).length = c :: l := by
            rw [← List.cons_append]; exact List.take_left
          rw [hdr, htk]
          have : (r.head?.any isIn) = false := by
            cases hr : r.head? with
            | none => rfl
            | some x => simpa using hs x hr
          rw [this]
          simp only [Bool.false_eq_true, if_false]
          have htk2 : (c :: l).take (c :: l).length = c :: l := List.take_length
          rw [htk2] at h
          exact h
    · rename_i hd
      split at h
      · rename_i hm
        rw [if_neg hl, if_neg hd, if_pos hm]
        exact h
      · cases h
end Go.Proofs.Ytmkiggbpbojiiaa

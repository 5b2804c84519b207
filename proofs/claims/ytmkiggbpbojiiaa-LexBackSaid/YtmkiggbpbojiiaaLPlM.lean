/- Where tokens stand, and what is between them: plain facts. -/
import Derived.Test.YtmkiggbpbojiiaaLMath
namespace Go.Proofs.Ytmkiggbpbojiiaa
/-- The lines' begins, behind n bytes. -/
def bgs (T : List UInt8) : Nat → List Nat
  | 0 => [0]
  | n + 1 => bgs T n ++ (if T[n]? = some 10 then [n + 1] else [])
theorem bgs_not {T : List UInt8} {n : Nat} (h : T[n]? ≠ some 10) : bgs T (n + 1) = bgs T n := by simp [bgs, h]
theorem bgs_end {T : List UInt8} {n : Nat} (h : T[n]? = some 10) : bgs T (n + 1) = bgs T n ++ [n + 1] := by simp [bgs, h]
theorem bgs_nots {T : List UInt8} {a : Nat} : ∀ k, (∀ i, i < k → T[a + i]? ≠ some 10) → bgs T (a + k) = bgs T a
  | 0, _ => rfl
  | k + 1, h => by
    rw [← Nat.add_assoc, bgs_not (h k (by omega))]
    exact bgs_nots k fun i hi => h i (by omega)
theorem bgs_pre (T : List UInt8) (n : Nat) : ∀ k, ∃ l, bgs T (n + k) = bgs T n ++ l
  | 0 => ⟨[], by simp⟩
  | k + 1 => by
    obtain ⟨l, h⟩ := bgs_pre T n k
    refine ⟨l ++ (if T[n + k]? = some 10 then [n + k + 1] else []), ?_⟩
    rw [← Nat.add_assoc, bgs, h, List.append_assoc]
theorem bgs_at {T : List UInt8} {a n i x : Nat} (h : (bgs T a)[i]? = some x) (hn : a ≤ n) : (bgs T n)[i]? = some x := by
  obtain ⟨l, e⟩ := bgs_pre T a (n - a)
  rw [show a + (n - a) = n by omega] at e
  rw [e, List.getElem?_append_left (List.getElem?_eq_some_iff.1 h).1, h]
theorem bgs_len (T : List UInt8) : ∀ n, (bgs T n).length ≤ n + 1
  | 0 => by simp [bgs]
  | n + 1 => by
    have := bgs_len T n
    unfold bgs
    rw [List.length_append]
    split <;> simp <;> omega
theorem bgs_le {T : List UInt8} : ∀ {n : Nat} {x : Nat}, x ∈ bgs T n → x ≤ n
  | 0, x, h => by simp [bgs] at h; omega
  | n + 1, x, h => by
    unfold bgs at h
    rcases List.mem_append.1 h with h | h
    · have := bgs_le h; omega
    · split at h
      · simp at h; omega
      · cases h
/-- What may stand between tokens; the flag: inside a remark. -/
def btwS : Bool → List UInt8 → Option Bool
  | f, [] => some f
  | f, c :: l =>
    let g := if c = 10 then false else (if c = 35 then true else f)
    if g || decide (c = 32 ∨ c = 9 ∨ c = 10) then btwS g l else none
theorem btw_app (l : List UInt8) : ∀ (k : List UInt8) (f g : Bool), btwS f k = some g → btwS f (k ++ l) = btwS g l
  | [], f, g, h => by cases h; rfl
  | c :: k, f, g, h => by
    simp only [btwS, List.cons_append] at h ⊢
    generalize (if c = 10 then false else if c = 35 then true else f) = g' at h ⊢
    by_cases hh : (g' || decide (c = 32 ∨ c = 9 ∨ c = 10)) = true
    · rw [if_pos hh] at h ⊢
      exact btw_app l k _ g h
    · rw [if_neg hh] at h
      cases h
theorem btw_remark : ∀ (k : List UInt8), (∀ c ∈ k, c ≠ 10) → btwS true k = some true
  | [], _ => rfl
  | c :: k, h => by
    have hc := h c (List.mem_cons_self ..)
    have ih := btw_remark k fun x hx => h x (List.mem_cons_of_mem _ hx)
    simp only [btwS, hc, if_false]
    split <;> simpa using ih
def btw (l : List UInt8) : Bool := (btwS false l).isSome
/-- Tokens in their places, from a place on. -/
def Plc (T : List UInt8) : Nat → List Tok → Prop
  | e, [] => e ≤ T.length ∧ btw (T.drop e) = true
  | e, t :: ts => ∃ s p ln cl : Nat, t.line = (ln + 1 : Nat) ∧ t.col = (cl + 1 : Nat) ∧ (bgs T T.length)[ln]? = some s ∧ s + cl = p ∧ e ≤ p ∧ p + t.text.length ≤ T.length ∧ (T.drop p).take t.text.length = t.text ∧ btw ((T.drop e).take (p - e)) = true ∧ (t.kind = 4 → p < T.length → T[p]? = some 10) ∧ Plc T (p + t.text.length) ts
theorem piece_more {T : List UInt8} {e a n : Nat} (h : e ≤ a) : (T.drop e).take (a + n - e) = (T.drop e).take (a - e) ++ (T.drop a).take n := by
  rw [show a + n - e = (a - e) + n by omega, List.take_add, List.drop_drop, show e + (a - e) = a by omega]
theorem piece_none (T : List UInt8) (a : Nat) : (T.drop a).take (a - a) = [] := by simp
theorem len_next (p : UInt8 → Bool) : ∀ l : List UInt8, (l.drop (len p l)).head?.all (fun x => !p x) = true
  | [] => rfl
  | x :: l => by
    cases hx : p x
    · rw [len_cons_false hx]; simp [hx]
    · rw [len_cons_true hx, List.drop_succ_cons]; exact len_next p l
theorem all_len {p : UInt8 → Bool} : ∀ {l : List UInt8} {c : UInt8}, c ∈ l.take (len p l) → p c = true
  | [], c, h => by simp at h
  | x :: l, c, h => by
    cases hx : p x
    · rw [len_cons_false hx] at h; simp at h
    · rw [len_cons_true hx, List.take_succ_cons] at h
      rcases List.mem_cons.1 h with rfl | h
      · exact hx
      · exact all_len h
/-- The state of a scan at a place: the line, its begin, the last token's end, the flag. -/
structure At (T : List UInt8) (a line s e : Nat) (f : Bool) : Prop where
  aT : a ≤ T.length
  sa : s ≤ a
  ea : e ≤ a
  ln : (bgs T a).length = line + 1
  st : (bgs T a)[line]? = some s
  bt : btwS false ((T.drop e).take (a - e)) = some f
theorem At.past {T : List UInt8} {a line s e : Nat} {f g : Bool} (h : At T a line s e f) {n : Nat} (hn : a + n ≤ T.length) (h10 : ∀ i, i < n → T[a + i]? ≠ some 10) (hb : btwS f ((T.drop a).take n) = some g) : At T (a + n) line s e g := by
  have hbg := bgs_nots n h10
  refine ⟨hn, by have := h.sa; omega, by have := h.ea; omega, by rw [hbg]; exact h.ln, by rw [hbg]; exact h.st, ?_⟩
  rw [piece_more h.ea, btw_app _ _ _ _ h.bt, hb]
theorem At.tok {T : List UInt8} {a line s e : Nat} {f : Bool} (h : At T a line s e f) {n : Nat} (hn : a + n ≤ T.length) (h10 : ∀ i, i < n → T[a + i]? ≠ some 10) : At T (a + n) line s (a + n) false := by
  have hbg := bgs_nots n h10
  exact ⟨hn, by have := h.sa; omega, Nat.le_refl _, by rw [hbg]; exact h.ln, by rw [hbg]; exact h.st, by rw [piece_none]; rfl⟩
theorem get_of_drop {T : List UInt8} {a : Nat} {c : UInt8} {r : List UInt8} (h : T.drop a = c :: r) (i : Nat) : T[a + i]? = (c :: r)[i]? := by
  rw [← h, List.getElem?_drop]
theorem At.newline {T : List UInt8} {a line s e : Nat} {f : Bool} (h : At T a line s e f) {r : List UInt8} (hT : T.drop a = 10 :: r) : At T (a + 1) (line + 1) (a + 1) e false := by
  have h10 : T[a]? = some 10 := by have := get_of_drop hT 0; simpa using this
  have hlt : a < T.length := (List.getElem?_eq_some_iff.1 h10).1
  have hbg := bgs_end h10
  refine ⟨hlt, Nat.le_refl _, by have := h.ea; omega, by rw [hbg, List.length_append, h.ln]; rfl, ?_, ?_⟩
  · rw [hbg, List.getElem?_append_right (by rw [h.ln]; omega), h.ln]
    simp
  · rw [piece_more h.ea, btw_app _ _ _ _ h.bt, hT]
    simp [btwS]
/-- One token more in its place. -/
theorem At.place {T : List UInt8} {a line s e : Nat} {f : Bool} (h : At T a line s e f) {t : Tok} {ts : List Tok} (hl : t.line = (line + 1 : Nat)) (hc : t.col = (a - s + 1 : Nat)) (hx : (T.drop a).take t.text.length = t.text) (hn : a + t.text.length ≤ T.length) (hk : t.kind = 4 → a < T.length → T[a]? = some 10) (hts : Plc T (a + t.text.length) ts) : Plc T e (t :: ts) := by
  have h1 := h.sa
  refine ⟨s, a, line, a - s, hl, hc, bgs_at h.st h.aT, by omega, h.ea, hn, hx, ?_, hk, hts⟩
  unfold btw
  rw [h.bt]
  rfl
/-- A token's bytes are no ends of lines. -/
theorem isLet_ne {c : UInt8} (h : isIn c = true) : c ≠ 10 := by rintro rfl; revert h; decide
theorem isDig_ne {c : UInt8} (h : isDig c = true) : c ≠ 10 := by rintro rfl; revert h; decide
theorem isMk_ne {c : UInt8} (h : isMk c = true) : c ≠ 10 := by rintro rfl; revert h; decide
theorem cut_ne {t : List UInt8} {k : Int} {n : Nat} {v : Int} (h : cutT t = .ok (k, n, v)) : k ≠ 4 ∧ ∀ c ∈ t.take n, c ≠ 10 := by
  unfold cutT at h
  cases t with
  | nil => cases h
  | cons c r =>
    simp only at h
    split at h
    · split at h
      · cases h
      · cases h
        exact ⟨by decide, fun x hx => isLet_ne (all_len hx)⟩
    · split at h
      · split at h
        · cases h
        · split at h
          · cases h
          · cases h
            exact ⟨by decide, fun x hx => isDig_ne (all_len hx)⟩
      · split at h
        · rename_i hm
          cases h
          refine ⟨by decide, fun x hx => ?_⟩
          simp at hx
          subst hx
          exact isMk_ne hm
        · cases h
theorem scan_places (T : List UInt8) : ∀ (m : Nat) (t : List UInt8) (line col : Nat) (toks R : List Tok), t.length ≤ m → scanW t line col toks = .ok R → ∀ (a s e l0 : Nat) (f : Bool), T.drop a = t → line = l0 + 1 → col = a - s + 1 → At T a l0 s e f → (f = true → t.head?.all (· == 10) = true) → ∃ new, R = toks ++ new ∧ Plc T e new
  | m, [], line, col, toks, R, _, h, a, s, e, l0, f, hT, hl, hc, hA, _ => by
    rw [scan_nil] at h
    cases h
    have haT : a = T.length := by
      have h1 := congrArg List.length hT
      have h2 := hA.aT
      rw [List.length_drop, List.length_nil] at h1
      omega
    have hfin : btw (T.drop e) = true := by
      unfold btw
      have := hA.bt
      rw [haT, List.take_of_length_le (by simp)] at this
      rw [this]; rfl
    unfold endL
    split
    · exact ⟨[], by simp, by have := hA.ea; omega, hfin⟩
    · refine ⟨_, rfl, hA.place (by simp [hl]) (by simp [hc]) (by simp) (by simpa using hA.aT) (fun _ h => by omega) ?_⟩
      simp only [List.length_nil, Nat.add_zero]
      refine ⟨hA.aT, ?_⟩
      rw [haT, List.drop_eq_nil_of_le (Nat.le_refl _)]
      rfl
  | 0, c :: r, line, col, toks, R, hm, h, a, s, e, l0, f, hT, hl, hc, hA, hf => by simp at hm
  | m + 1, c :: r, line, col, toks, R, hm, h, a, s, e, l0, f, hT, hl, hc, hA, hf => by
    have hsa := hA.sa
    have hlen : (c :: r).length = T.length - a := by rw [← hT, List.length_drop]
    rw [List.length_cons] at hlen hm
    have hdn : T.drop (a + 1) = r := by rw [← List.drop_drop, hT]; rfl
    have hca : T[a]? = some c := by have := get_of_drop hT 0; simpa using this
    have hfl : isEnd c = false → f = false := fun he => by
      cases f with
      | false => rfl
      | true =>
        have := hf rfl
        simp at this
        subst this
        simp [isEnd] at he
    cases hbl : isBl c
    · cases hrm : isRm c
      · cases hen : isEnd c
        · cases hcut : cutT (c :: r) with
          | error er => rw [scan_err hbl hrm hen hcut] at h; cases h
          | ok x =>
            obtain ⟨kd, n, vl⟩ := x
            rw [scan_cut hbl hrm hen hcut] at h
            obtain ⟨hn0, hnl⟩ := cut_pos hcut
            obtain ⟨hk4, h10⟩ := cut_ne hcut
            rw [List.length_cons] at hnl
            have hnT : a + n ≤ T.length := by omega
            have hne : ∀ i, i < n → T[a + i]? ≠ some 10 := fun i hi e10 => by
              rw [get_of_drop hT] at e10
              have hm : (10 : UInt8) ∈ (c :: r).take n := List.mem_of_getElem? (i := i) (by rw [List.getElem?_take_of_lt hi]; exact e10)
              exact h10 10 hm rfl
            have htl : ((c :: r).take n).length = n := by rw [List.length_take, List.length_cons]; omega
            obtain ⟨new, hR, hP⟩ := scan_places T m ((c :: r).drop n) line (col + n) _ R (by rw [List.length_drop, List.length_cons]; omega) h (a + n) s (a + n) l0 false (by rw [← List.drop_drop, hT]) hl (by omega) (hA.tok hnT hne) (by simp)
            refine ⟨⟨kd, (c :: r).take n, vl, line, col⟩ :: new, by rw [hR]; simp, hA.place (by simp [hl]) (by simp [hc]) ?_ ?_ (fun h4 => absurd h4 hk4) ?_⟩
            · show (T.drop a).take ((c :: r).take n).length = (c :: r).take n
              rw [htl, hT]
            · show a + ((c :: r).take n).length ≤ T.length
              rw [htl]; exact hnT
            · show Plc T (a + ((c :: r).take n).length) new
              rw [htl]; exact hP
        · have hc10 : c = 10 := by simpa [isEnd] using hen
          subst hc10
          rw [scan_end hbl hrm hen] at h
          unfold endL at h
          split at h
          · exact scan_places T m r (line + 1) 1 toks R (by omega) h (a + 1) (a + 1) e (l0 + 1) false hdn (by omega) (by omega) (hA.newline hT) (by simp)
          · have hA2 : At T (a + 1) (l0 + 1) (a + 1) a false := (hA.tok (n := 0) hA.aT (fun i hi => by omega)).newline hT
            obtain ⟨new, hR, hP⟩ := scan_places T m r (line + 1) 1 _ R (by omega) h (a + 1) (a + 1) a (l0 + 1) false hdn (by omega) (by omega) hA2 (by simp)
            exact ⟨⟨4, [], 0, line, col⟩ :: new, by rw [hR]; simp, hA.place (by simp [hl]) (by simp [hc]) (by simp) (by simpa using hA.aT) (fun _ _ => hca) hP⟩
      · have hc35 : c = 35 := by simpa [isRm] using hrm
        subst hc35
        have hf0 := hfl rfl
        subst hf0
        rw [scan_rm hbl hrm] at h
        have hnl : len inLn r ≤ r.length := len_le _ _
        have hne : ∀ x ∈ r.take (len inLn r), x ≠ 10 := fun x hx => by
          have := all_len hx
          simpa [inLn, isEnd] using this
        have hbt : btwS false ((T.drop a).take (1 + len inLn r)) = some true := by
          rw [hT, Nat.add_comm, List.take_succ_cons]
          have := btw_remark _ hne
          simpa [btwS] using this
        have h10 : ∀ i, i < 1 + len inLn r → T[a + i]? ≠ some 10 := fun i hi e10 => by
          rw [get_of_drop hT] at e10
          cases i with
          | zero => simp at e10
          | succ i =>
            rw [List.getElem?_cons_succ] at e10
            exact hne 10 (List.mem_of_getElem? (i := i) (by rw [List.getElem?_take_of_lt (by omega)]; exact e10)) rfl
        refine scan_places T m (r.drop (len inLn r)) line (col + 1 + len inLn r) toks R (by rw [List.length_drop]; omega) h (a + (1 + len inLn r)) s e l0 true (by rw [← hdn, List.drop_drop]; congr 1; omega) hl (by omega) (hA.past (by omega) h10 hbt) (fun _ => ?_)
        have := len_next inLn r
        cases hh : (r.drop (len inLn r)).head? with
        | none => rfl
        | some x =>
          rw [hh] at this
          simpa [inLn, isEnd] using this
    · have hcb : c = 32 ∨ c = 9 := by simpa [isBl] using hbl
      have hen : isEnd c = false := by rcases hcb with rfl | rfl <;> rfl
      have hf0 := hfl hen
      subst hf0
      rw [scan_bl hbl] at h
      have hbt : btwS false ((T.drop a).take 1) = some false := by rw [hT]; rcases hcb with rfl | rfl <;> rfl
      have h10 : ∀ i, i < 1 → T[a + i]? ≠ some 10 := fun i hi => by
        obtain rfl : i = 0 := by omega
        rw [Nat.add_zero, hca]
        rcases hcb with rfl | rfl <;> decide
      exact scan_places T m r line (col + 1) toks R (by omega) h (a + 1) s e l0 false hdn hl (by omega) (hA.past (by omega) h10 hbt) (by simp)
theorem places {T : List UInt8} {R : List Tok} (h : scanT T = .ok R) : Plc T 0 R ∧ T.length ≤ 65536 := by
  unfold scanT at h
  split at h
  · cases h
  · obtain ⟨new, rfl, hP⟩ := scan_places T T.length T 1 1 [] R (Nat.le_refl _) h 0 0 0 0 false rfl rfl rfl ⟨Nat.zero_le _, Nat.le_refl _, Nat.le_refl _, rfl, rfl, by simp [btwS]⟩ (by simp)
    exact ⟨by simpa using hP, by omega⟩
end Go.Proofs.Ytmkiggbpbojiiaa

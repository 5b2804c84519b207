/- Tokens there and back: Scan of what Show tells. -/
import Derived.Test.YtmkiggbpbojiiaaLBackM
import Derived.Test.YtmkiggbpbojiiaaLPlM
namespace Go.Proofs.Ytmkiggbpbojiiaa
/-- The same kinds, texts and numbers. -/
def Like : List Tok → List Tok → Prop
  | [], [] => True
  | a :: l, b :: m => a.kind = b.kind ∧ a.text = b.text ∧ a.num = b.num ∧ Like l m
  | _, _ => False
theorem cut_head {c : UInt8} {r : List UInt8} {x : Int × Nat × Int} (h : cutT (c :: r) = .ok x) : isBl c = false ∧ isRm c = false ∧ isEnd c = false := by
  have hh : isLet c = true ∨ isDig c = true ∨ isMk c = true := by
    unfold cutT at h
    simp only at h
    cases h1 : isLet c
    · cases h2 : isDig c
      · cases h3 : isMk c
        · rw [h1, h2, h3] at h; simp at h
        · simp
      · simp
    · simp
  refine ⟨?_, ?_, ?_⟩
  · cases hb : isBl c with
    | false => rfl
    | true =>
      have : c = 32 ∨ c = 9 := by simpa [isBl] using hb
      rcases this with rfl | rfl <;> revert hh <;> decide
  · cases hb : isRm c with
    | false => rfl
    | true =>
      have : c = 35 := by simpa [isRm] using hb
      subst this; revert hh; decide
  · cases hb : isEnd c with
    | false => rfl
    | true =>
      have : c = 10 := by simpa [isEnd] using hb
      subst this; revert hh; decide
theorem whole_cut {t : Tok} (h : wholeT t = true) (h4 : t.kind ≠ 4) : ∃ c l, t.text = c :: l ∧ cutT (c :: l) = .ok (t.kind, (c :: l).length, t.num) := by
  unfold wholeT at h
  rw [if_neg h4] at h
  split at h
  · cases h
  · rename_i c l htx
    split at h
    · cases h
    · rename_i k n v hcut
      simp only [Bool.and_eq_true, decide_eq_true_eq] at h
      obtain ⟨h1, h2, h3⟩ := h
      have hn := (cut_pos hcut).2
      have hl := congrArg List.length h2
      rw [List.length_take] at hl
      have : n = (c :: l).length := by omega
      refine ⟨c, l, htx, ?_⟩
      rw [hcut, h1, h3, this]
theorem endd_kind (pre : List Tok) (t : Tok) : endd (pre ++ [t]) = decide (t.kind = 4) := by simp [endd]
theorem stops_show {pre : List Tok} : ∀ {M : List Tok}, endd pre = false → okS pre M → stops (shS pre M)
  | [], _, _ => fun c h => by cases h
  | t :: M, he, hok => fun c h => by
    unfold shS shOne at h
    by_cases h4 : t.kind = 4
    · rw [if_pos h4] at h
      simp at h
      subst h; decide
    · rw [if_neg h4, he] at h
      by_cases h44 : t.text = [44]
      · rw [if_neg (by simp [h44]), h44] at h
        simp at h
        subst h; decide
      · by_cases h58 : t.text = [58]
        · rw [if_neg (by simp [h58]), h58] at h
          simp at h
          subst h; decide
        · rw [if_pos (by simp [h44, h58])] at h
          simp at h
          subst h; decide
theorem scan_show : ∀ (M pre toks : List Tok) (line col : Nat), okS pre M → endd toks = endd pre → endd (pre ++ M) = true → ∃ new, scanW (shS pre M) line col toks = .ok (toks ++ new) ∧ Like M new
  | [], pre, toks, line, col, _, he, hf => by
    refine ⟨[], ?_, trivial⟩
    rw [List.append_nil] at hf
    unfold shS
    rw [scan_nil]
    unfold endL
    rw [he, hf]
    simp
  | t :: M, pre, toks, line, col, hok, he, hf => by
    obtain ⟨hk, hw, hr⟩ := hok
    have hf' : endd ((pre ++ [t]) ++ M) = true := by simpa using hf
    by_cases h4 : t.kind = 4
    · have htx : t.text = [] ∧ t.num = 0 := by
        unfold wholeT at hw
        rw [if_pos h4] at hw
        simpa using hw
      have hsh : shS pre (t :: M) = 10 :: shS (pre ++ [t]) M := by
        unfold shS shOne
        rw [if_pos h4, htx.1]
        cases M <;> rfl
      have hel : endL toks line col = toks ++ [⟨4, [], 0, line, col⟩] := by unfold endL; rw [he, hk h4]; rfl
      obtain ⟨new, hs, hl⟩ := scan_show M (pre ++ [t]) (toks ++ [⟨4, [], 0, line, col⟩]) (line + 1) 1 hr (by rw [endd_kind, endd_kind, decide_eq_true h4]; rfl) hf'
      refine ⟨⟨4, [], 0, line, col⟩ :: new, ?_, h4, htx.1, htx.2, hl⟩
      rw [hsh, scan_end (by decide) (by decide) (by decide), hel, hs]
      simp
    · obtain ⟨c, l, htx, hcut⟩ := whole_cut hw h4
      obtain ⟨hb, hm, hen⟩ := cut_head hcut
      have hep : endd (pre ++ [t]) = false := by rw [endd_kind]; exact decide_eq_false h4
      have hst := stops_show hep hr
      have hca := cut_app hcut hst
      have key : ∀ cl : Nat, ∃ new, scanW (t.text ++ shS (pre ++ [t]) M) line cl toks = .ok (toks ++ new) ∧ Like (t :: M) new := fun cl => by
        obtain ⟨new, hs, hl⟩ := scan_show M (pre ++ [t]) (toks ++ [⟨t.kind, t.text, t.num, line, cl⟩]) line (cl + t.text.length) hr (by rw [endd_kind, endd_kind]) hf'
        refine ⟨⟨t.kind, t.text, t.num, line, cl⟩ :: new, ?_, rfl, rfl, rfl, hl⟩
        rw [htx, List.cons_append, scan_cut hb hm hen (by rw [← List.cons_append]; exact hca)]
        rw [← List.cons_append, List.drop_left, List.take_left, ← htx, hs]
        simp
      have hsh : shS pre (t :: M) = (if !endd pre && (decide (t.text ≠ [44]) && decide (t.text ≠ [58])) then [32] else []) ++ (t.text ++ shS (pre ++ [t]) M) := by
        unfold shS shOne
        rw [if_neg h4, List.append_assoc]
        cases M <;> rfl
      rw [hsh]
      split
      · obtain ⟨new, hs, hl⟩ := key (col + 1)
        refine ⟨new, ?_, hl⟩
        rw [List.cons_append, List.nil_append, scan_bl (by decide), hs]
      · exact key col
theorem len_take_self (p : UInt8 → Bool) : ∀ l : List UInt8, len p (l.take (len p l)) = len p l
  | [] => rfl
  | x :: l => by
    cases hx : p x
    · rw [len_cons_false hx]; rfl
    · rw [len_cons_true hx, List.take_succ_cons, len_cons_true hx, len_take_self p l]
/-- What is cut off is its own text whole. -/
theorem cut_self {c : UInt8} {r : List UInt8} {k v : Int} {n : Nat} (h : cutT (c :: r) = .ok (k, n, v)) (line col : Int) : wholeT ⟨k, (c :: r).take n, v, line, col⟩ = true ∧ k ≠ 4 := by
  have hk := (cut_ne h).1
  obtain ⟨h0, hn⟩ := cut_pos h
  obtain ⟨m, rfl⟩ : ∃ m, n = m + 1 := ⟨n - 1, by omega⟩
  refine ⟨?_, hk⟩
  have key : cutT ((c :: r).take (m + 1)) = .ok (k, m + 1, v) := by
    rw [List.take_succ_cons]
    unfold cutT at h ⊢
    simp only at h ⊢
    split at h
    · rename_i hl
      split at h
      · cases h
      · rename_i h24
        have hm : len isIn (c :: r) = m + 1 := by simp only [Except.ok.injEq, Prod.mk.injEq] at h; exact h.2.1
        have hs := len_take_self isIn (c :: r)
        rw [hm, List.take_succ_cons] at hs
        rw [if_pos hl, hs]
        rw [hm] at h h24
        rw [if_neg h24]
        exact h
    · rename_i hl
      split at h
      · rename_i hd
        split at h
        · cases h
        · rename_i h9
          split at h
          · cases h
          · have hm : len isDig (c :: r) = m + 1 := by simp only [Except.ok.injEq, Prod.mk.injEq] at h; exact h.2.1
            have hs := len_take_self isDig (c :: r)
            rw [hm, List.take_succ_cons] at hs
            rw [if_neg hl, if_pos hd, hs]
            rw [hm] at h h9
            rw [if_neg h9]
            rw [List.length_cons] at hn
            have hdr : (c :: r.take m).drop (m + 1) = [] := List.drop_eq_nil_of_le (by rw [List.length_cons, List.length_take]; omega)
            have htk : (c :: r.take m).take (m + 1) = (c :: r).take (m + 1) := by rw [List.take_succ_cons, List.take_succ_cons, List.take_take, Nat.min_self]
            rw [hdr, htk]
            simpa using h
      · rename_i hd
        split at h
        · rename_i hm
          rw [if_neg hl, if_neg hd, if_pos hm]
          exact h
        · cases h
  have hlen : ((c :: r).take (m + 1)).length = m + 1 := by rw [List.length_take]; omega
  unfold wholeT
  rw [if_neg hk]
  simp only
  rw [List.take_succ_cons] at key hlen ⊢
  simp only [key]
  have : (c :: r.take m).take (m + 1) = c :: r.take m := List.take_of_length_le (by omega)
  rw [this]
  simp
/-- What Scan tells is such as Scan tells. -/
theorem scan_ok : ∀ (m : Nat) (t : List UInt8) (line col : Nat) (toks R : List Tok), t.length ≤ m → scanW t line col toks = .ok R → okS [] toks → okS [] R ∧ endd R = true
  | m, [], line, col, toks, R, _, h, hok => by
    rw [scan_nil] at h
    cases h
    unfold endL
    cases he : endd toks
    · exact ⟨okS_app toks [] _ hok (fun _ => by simpa using he) rfl, by simp [endd]⟩
    · exact ⟨hok, he⟩
  | 0, c :: r, line, col, toks, R, hm, _, _ => by simp at hm
  | m + 1, c :: r, line, col, toks, R, hm, h, hok => by
    rw [List.length_cons] at hm
    cases hbl : isBl c
    · cases hrm : isRm c
      · cases hen : isEnd c
        · cases hcut : cutT (c :: r) with
          | error er => rw [scan_err hbl hrm hen hcut] at h; cases h
          | ok x =>
            obtain ⟨kd, n, vl⟩ := x
            rw [scan_cut hbl hrm hen hcut] at h
            obtain ⟨hn0, hnl⟩ := cut_pos hcut
            obtain ⟨hw, hk⟩ := cut_self hcut line col
            exact scan_ok m ((c :: r).drop n) line (col + n) _ R (by rw [List.length_drop, List.length_cons]; omega) h (okS_app toks [] _ hok (fun h4 => absurd h4 hk) hw)
        · rw [scan_end hbl hrm hen] at h
          refine scan_ok m r (line + 1) 1 _ R (by omega) h ?_
          unfold endL
          cases he : endd toks
          · exact okS_app toks [] _ hok (fun _ => by simpa using he) rfl
          · exact hok
      · rw [scan_rm hbl hrm] at h
        exact scan_ok m (r.drop (len inLn r)) line _ toks R (by rw [List.length_drop]; omega) h hok
    · rw [scan_bl hbl] at h
      exact scan_ok m r line _ toks R (by omega) h hok
theorem scanT_ok {T : List UInt8} {L : List Tok} (h : scanT T = .ok L) : okS [] L ∧ endd L = true := by
  unfold scanT at h
  split at h
  · cases h
  · exact scan_ok T.length T 1 1 [] L (Nat.le_refl _) h trivial
theorem scanT_as {T : List UInt8} {L : List Tok} (h : scanT T = .ok L) : asT L = true := by
  obtain ⟨h1, h2⟩ := scanT_ok h
  unfold asT
  rw [okS_asN L L [] rfl h1 rfl, h2]
  rfl
theorem like_endd : ∀ {L M : List Tok}, Like L M → endd L = endd M
  | [], [], _ => rfl
  | [a], [b], h => by simp [endd, h.1]
  | a :: a' :: l, b :: b' :: m, h => by
    have ih := like_endd h.2.2.2
    have e1 : endd (a :: a' :: l) = endd (a' :: l) := by simp [endd]
    have e2 : endd (b :: b' :: m) = endd (b' :: m) := by simp [endd]
    rw [e1, e2, ih]
  | [_], _ :: _ :: _, h => h.2.2.2.elim
  | _ :: _ :: _, [_], h => h.2.2.2.elim
theorem like_snoc : ∀ {L M : List Tok} {a b : Tok}, Like L M → a.kind = b.kind → a.text = b.text → a.num = b.num → Like (L ++ [a]) (M ++ [b])
  | [], [], _, _, _, h1, h2, h3 => ⟨h1, h2, h3, trivial⟩
  | _ :: _, _ :: _, _, _, h, h1, h2, h3 => ⟨h.1, h.2.1, h.2.2.1, like_snoc h.2.2.2 h1 h2 h3⟩
theorem like_shS : ∀ {L M pre qre : List Tok}, Like pre qre → Like L M → shS pre L = shS qre M
  | [], [], _, _, _, _ => rfl
  | a :: l, b :: m, pre, qre, hp, h => by
    have e : shOne pre a = shOne qre b := by unfold shOne; rw [h.1, h.2.1, like_endd hp]
    unfold shS
    rw [e, like_shS (like_snoc hp h.1 h.2.1 h.2.2.1) h.2.2.2]
theorem like_len : ∀ {L M : List Tok}, Like L M → L.length = M.length
  | [], [], _ => rfl
  | _ :: _, _ :: _, h => by simp [like_len h.2.2.2]
theorem like_at : ∀ {L M : List Tok} {k : Nat} {a : Tok}, Like L M → L[k]? = some a → ∃ b, M[k]? = some b ∧ a.kind = b.kind ∧ a.text = b.text ∧ a.num = b.num
  | a :: _, b :: _, 0, _, h, e => by cases e; exact ⟨b, rfl, h.1, h.2.1, h.2.2.1⟩
  | _ :: _, _ :: _, k + 1, _, h, e => like_at (k := k) h.2.2.2 e
/-- There and back. -/
theorem back {T : List UInt8} {L : List Tok} (h : scanT T = .ok L) : asT L = true ∧ (65536 < (shT L).length → scanT (shT L) = .error (2, 0, 0)) ∧ (¬ 65536 < (shT L).length → ∃ M, scanT (shT L) = .ok M ∧ Like L M ∧ asT M = true ∧ shT M = shT L) := by
  obtain ⟨h1, h2⟩ := scanT_ok h
  refine ⟨scanT_as h, fun hb => by unfold scanT; rw [if_pos hb], fun hb => ?_⟩
  obtain ⟨M, hs, hl⟩ := scan_show L [] [] 1 1 h1 rfl h2
  have hM : scanT (shT L) = .ok M := by
    unfold scanT
    rw [if_neg hb, shT_S, hs]
    rfl
  refine ⟨M, hM, hl, scanT_as hM, ?_⟩
  rw [shT_S, shT_S]
  exact (like_shS (pre := []) (qre := []) trivial hl).symm
end Go.Proofs.Ytmkiggbpbojiiaa

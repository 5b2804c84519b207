/- What is played is replayed: plain facts. -/
import Derived.Test.YtahfobbiaimoiaaGreatDoorJ15
import Derived.Test.YtahfobbiaimoiaaGreatDoorJ32
import Derived.Test.YtahfobbiaimoiaaGreatDoorJ41
namespace Go.Proofs.YtahfobbiaimoiaaGreatDoor
open Go.RowKit
def odN (L : List Ev) : Nat → List Int
  | 0 => []
  | c + 1 => match L[c]? with
    | some e => if e.kind = 3 then odN L c ++ [e.step] else odN L c
    | none => odN L c
theorem odN_next {L : List Ev} {c : Nat} {e : Ev} (h : L[c]? = some e) : odN L (c + 1) = if e.kind = 3 then odN L c ++ [e.step] else odN L c := by
  show (match L[c]? with | some e => if e.kind = 3 then odN L c ++ [e.step] else odN L c | none => odN L c) = _
  rw [h]
theorem odN_len (L : List Ev) : ∀ c, (odN L c).length ≤ c := by
  intro c
  induction c with
  | zero => exact Nat.le_refl _
  | succ c ih =>
    show (match L[c]? with | some e => if e.kind = 3 then odN L c ++ [e.step] else odN L c | none => odN L c).length ≤ _
    cases L[c]? with
    | none => exact Nat.le_succ_of_le ih
    | some e =>
      show (if e.kind = 3 then odN L c ++ [e.step] else odN L c).length ≤ _
      split
      · simp; omega
      · omega
/-- The tick ahead of an event. -/
def lstT (L : List Ev) : Nat → Int
  | 0 => 0
  | c + 1 => match L[c]? with | some e => e.tick | none => 0
theorem lstT_next {L : List Ev} {c : Nat} {e : Ev} (h : L[c]? = some e) : lstT L (c + 1) = e.tick := by
  show (match L[c]? with | some e => e.tick | none => 0) = _
  rw [h]
def tkOk (L : List Ev) : Prop := ∀ i e, L[i]? = some e → lstT L i ≤ e.tick ∧ e.tick ≤ 999999999
def spN (S : List SS) : Nat → List (Int × Int)
  | 0 => []
  | c + 1 => match S[c]? with
    | some s => if s.st = 2 then spN S c ++ [((c : Int), wrap64 (s.da - s.ca))] else spN S c
    | none => spN S c
theorem spN_next {S : List SS} {c : Nat} {s : SS} (h : S[c]? = some s) : spN S (c + 1) = if s.st = 2 then spN S c ++ [((c : Int), wrap64 (s.da - s.ca))] else spN S c := by
  show (match S[c]? with | some s => if s.st = 2 then spN S c ++ [((c : Int), wrap64 (s.da - s.ca))] else spN S c | none => spN S c) = _
  rw [h]
theorem spN_len (S : List SS) : ∀ c, (spN S c).length ≤ c := by
  intro c
  induction c with
  | zero => exact Nat.le_refl _
  | succ c ih =>
    show (match S[c]? with | some s => if s.st = 2 then spN S c ++ [((c : Int), wrap64 (s.da - s.ca))] else spN S c | none => spN S c).length ≤ _
    cases S[c]? with
    | none => exact Nat.le_succ_of_le ih
    | some s =>
      show (if s.st = 2 then spN S c ++ [((c : Int), wrap64 (s.da - s.ca))] else spN S c).length ≤ _
      split
      · simp; omega
      · omega
/-- The users of a rule's steps that were claimed. -/
def clU (S : List SS) (T : List Int) : Nat → List Int
  | 0 => []
  | c + 1 => match T[c]? with
    | some t => (match S[t.toNat]? with | some s => if s.st = 0 then clU S T c else clU S T c ++ [s.us] | none => clU S T c)
    | none => clU S T c
theorem clU_next {S : List SS} {T : List Int} {c : Nat} {t : Int} {s : SS} (h : T[c]? = some t) (hs : S[t.toNat]? = some s) : clU S T (c + 1) = if s.st = 0 then clU S T c else clU S T c ++ [s.us] := by
  show (match T[c]? with | some t => (match S[t.toNat]? with | some s => if s.st = 0 then clU S T c else clU S T c ++ [s.us] | none => clU S T c) | none => clU S T c) = _
  rw [h]
  show (match S[t.toNat]? with | some s => if s.st = 0 then clU S T c else clU S T c ++ [s.us] | none => clU S T c) = _
  rw [hs]
theorem clU_len (S : List SS) (T : List Int) : ∀ c, (clU S T c).length ≤ c := by
  intro c
  induction c with
  | zero => exact Nat.le_refl _
  | succ c ih =>
    show (match T[c]? with | some t => (match S[t.toNat]? with | some s => if s.st = 0 then clU S T c else clU S T c ++ [s.us] | none => clU S T c) | none => clU S T c).length ≤ _
    cases T[c]? with
    | none => exact Nat.le_succ_of_le ih
    | some t =>
      show (match S[t.toNat]? with | some s => if s.st = 0 then clU S T c else clU S T c ++ [s.us] | none => clU S T c).length ≤ _
      cases S[t.toNat]? with
      | none => exact Nat.le_succ_of_le ih
      | some s =>
        show (if s.st = 0 then clU S T c else clU S T c ++ [s.us]).length ≤ _
        split
        · omega
        · simp; omega
/-- Can the rule still be kept? -/
def kpB (S : List SS) (r : Rl) : Bool := means r.kind r.k (clU S r.steps r.steps.length) (r.steps.length - (clU S r.steps r.steps.length).length)
def brN (S : List SS) (Q : List Rl) : Nat → List Int
  | 0 => []
  | c + 1 => match Q[c]? with
    | some r => if kpB S r = true then brN S Q c else brN S Q c ++ [(c : Int)]
    | none => brN S Q c
theorem brN_next {S : List SS} {Q : List Rl} {c : Nat} {r : Rl} (h : Q[c]? = some r) : brN S Q (c + 1) = if kpB S r = true then brN S Q c else brN S Q c ++ [(c : Int)] := by
  show (match Q[c]? with | some r => if kpB S r = true then brN S Q c else brN S Q c ++ [(c : Int)] | none => brN S Q c) = _
  rw [h]
theorem brN_len (S : List SS) (Q : List Rl) : ∀ c, (brN S Q c).length ≤ c := by
  intro c
  induction c with
  | zero => exact Nat.le_refl _
  | succ c ih =>
    show (match Q[c]? with | some r => if kpB S r = true then brN S Q c else brN S Q c ++ [(c : Int)] | none => brN S Q c).length ≤ _
    cases Q[c]? with
    | none => exact Nat.le_succ_of_le ih
    | some r =>
      show (if kpB S r = true then brN S Q c else brN S Q c ++ [(c : Int)]).length ≤ _
      split
      · omega
      · simp; omega
/-- The places 0, 1, .. of a rule's own steps. -/
def plsN (m : Nat) : List Int := (List.range m).map Int.ofNat
theorem plsN_len (m : Nat) : (plsN m).length = m := by simp [plsN]
theorem plsN_next (m : Nat) : plsN (m + 1) = plsN m ++ [(m : Int)] := by simp [plsN, List.range_succ]
theorem ris_pls (n : Int) : ∀ (l : List Int) (lo : Int), (∀ (i : Nat) (x : Int), l[i]? = some x → x = lo + (i : Int)) → lo + l.length ≤ n → ris n lo l = true := by
  intro l
  induction l with
  | nil => exact fun _ _ _ => rfl
  | cons a l ih =>
    intro lo h hn
    have ha : a = lo := by have := h 0 a rfl; simpa using this
    rw [List.length_cons] at hn
    have h2 := ih (lo + 1) (fun i x hx => by have := h (i + 1) x hx; rw [this]; omega) (by omega)
    subst ha
    unfold ris
    simp [h2]
    omega
theorem labs_pls (L : List Int) : ∀ m, labs L (plsN m) = L.take m := by
  intro m
  induction m with
  | zero => rfl
  | succ m ih =>
    rw [plsN_next, labs_snoc, ih, Int.toNat_natCast, List.take_add_one]
    cases L[m]? <;> rfl
/-- Early of the rule told by its places: just the meaning. -/
theorem early_pls {kind k : Int} {m : Nat} {L : List Int} (hk : numF kind k m = true) (hm : m ≤ 12) (hl : L.length ≤ m) : early ⟨kind, k, plsN m⟩ (m : Int) L = means kind k L (m - L.length) := by
  have h1 : chk (m : Int) ⟨kind, k, plsN m⟩ = true := by
    unfold chk
    have hr : ris (m : Int) 0 (plsN m) = true := ris_pls _ _ _ (fun i x hx => by
      unfold plsN at hx
      rw [List.getElem?_map] at hx
      cases hq : (List.range m)[i]? with
      | none => rw [hq] at hx; cases hx
      | some y =>
        rw [hq] at hx
        obtain ⟨h1, h2⟩ := List.getElem?_eq_some_iff.1 hq
        rw [List.getElem_range] at h2
        cases hx
        show ((y : Nat) : Int) = _
        omega) (by rw [plsN_len]; omega)
    show (decide (0 ≤ (m : Int)) && decide ((m : Int) ≤ 12) && ris (m : Int) 0 (plsN m) && numF kind k (plsN m).length) = true
    rw [hr, plsN_len, hk]
    simp
    omega
  unfold early
  rw [h1]
  show (true && decide ((L.length : Int) ≤ (m : Int)) && means kind k (labs L (plsN m)) ((plsN m).length - (labs L (plsN m)).length)) = _
  rw [labs_pls, List.take_of_length_le hl, plsN_len, decide_eq_true (by omega)]
  rfl
/-- The document's: gone. -/
theorem gone_eq (kind k : Int) (P : List Int) (o : Nat) : (if kind = 1 then decide ((unl P : Int) < (P.length : Int)) else if kind = 2 then decide ((1 : Int) < (unl P : Int)) else if kind = 3 then decide (k < (mst P : Int)) else if kind = 4 then decide (k < (unl P : Int)) else decide ((unl P : Int) + (o : Int) < k)) = !means kind k P o := by
  unfold means
  by_cases h1 : kind = 1
  · rw [if_pos h1, if_pos h1]
    have h2 := unl_le P
    have h3 := unl_full P
    have h4 := mst_one P
    by_cases hn : P.Nodup
    · rw [decide_eq_true (h4.2 hn), decide_eq_false (by have := h3.2 hn; omega)]; rfl
    · rw [decide_eq_false (fun e => hn (h4.1 e)), decide_eq_true (by
        have : unl P ≠ P.length := fun e => hn (h3.1 e)
        omega)]; rfl
  rw [if_neg h1, if_neg h1]
  by_cases h2 : kind = 2
  · rw [if_pos h2, if_pos h2]
    by_cases h : unl P ≤ 1
    · rw [decide_eq_true h, decide_eq_false (by omega)]; rfl
    · rw [decide_eq_false h, decide_eq_true (by omega)]; rfl
  rw [if_neg h2, if_neg h2]
  by_cases h3 : kind = 3
  · rw [if_pos h3, if_pos h3]
    by_cases h : (mst P : Int) ≤ k
    · rw [decide_eq_true h, decide_eq_false (by omega)]; rfl
    · rw [decide_eq_false h, decide_eq_true (by omega)]; rfl
  rw [if_neg h3, if_neg h3]
  by_cases h4 : kind = 4
  · rw [if_pos h4, if_pos h4]
    by_cases h : (unl P : Int) ≤ k
    · rw [decide_eq_true h, decide_eq_false (by omega)]; rfl
    · rw [decide_eq_false h, decide_eq_true (by omega)]; rfl
  rw [if_neg h4, if_neg h4]
  by_cases h : k ≤ (unl P : Int) + (o : Int)
  · rw [decide_eq_true h, decide_eq_false (by omega)]; rfl
  · rw [decide_eq_false h, decide_eq_true (by omega)]; rfl
end Go.Proofs.YtahfobbiaimoiaaGreatDoor
namespace Go.Proofs.YtahfobbiaimoiaaGreatDoor
open Go.RowKit
theorem insL_hit (u : Int) : ∀ (l : List (Int × Int)) (k : Nat) (c : Int), (∀ i p, i < k → l[i]? = some p → p.1 < u) → l[k]? = some (u, c) → insL u l = l.set k (u, c + 1) := by
  intro l
  induction l with
  | nil => intro k c _ h; simp at h
  | cons q l ih =>
    obtain ⟨a, b⟩ := q
    intro k c h1 h2
    cases k with
    | zero =>
      simp at h2
      obtain ⟨rfl, rfl⟩ := h2
      unfold insL
      rw [if_neg (Int.lt_irrefl _), if_pos rfl]
      rfl
    | succ k =>
      have h3 := h1 0 (a, b) (by omega) rfl
      unfold insL
      rw [if_pos h3, ih k c (fun i p hi hp => h1 (i + 1) p (by omega) (by simpa using hp)) (by simpa using h2)]
      rfl
theorem insL_new (u : Int) : ∀ (l : List (Int × Int)) (k : Nat), k ≤ l.length → (∀ i p, i < k → l[i]? = some p → p.1 < u) → (∀ p, l[k]? = some p → u < p.1) → insL u l = l.take k ++ (u, 1) :: l.drop k := by
  intro l
  induction l with
  | nil => intro k h0 _ _; cases k with | zero => rfl | succ k => simp at h0
  | cons q l ih =>
    obtain ⟨a, b⟩ := q
    intro k h0 h1 h2
    cases k with
    | zero =>
      have h3 := h2 (a, b) rfl
      unfold insL
      rw [if_neg (by simp only at h3; omega), if_neg (by simp only at h3; omega)]
      rfl
    | succ k =>
      have h3 := h1 0 (a, b) (by omega) rfl
      unfold insL
      rw [if_pos h3, ih k (by simpa using h0) (fun i p hi hp => h1 (i + 1) p (by omega) (by simpa using hp)) (fun p hp => h2 p (by simpa using hp))]
      rfl
theorem ldL_next {L : List Ev} {c : Nat} {e : Ev} (h : L[c]? = some e) : ldL (L.take (c + 1)) = if e.kind = 2 then insL e.user (ldL (L.take c)) else ldL (L.take c) := by
  unfold ldL
  rw [List.take_add_one, h, List.foldl_append]
  rfl
theorem cellsP_setC : ∀ (l : List (Int × Int)) (k : Nat) (u c d : Int), l[k]? = some (u, c) → (O.cellsP l).set (k * 2 + 1) (.int .i64 d) = O.cellsP (l.set k (u, d)) := by
  intro l
  induction l with
  | nil => intro k u c d h; simp at h
  | cons q l ih =>
    obtain ⟨a, b⟩ := q
    intro k u c d h
    have e : ∀ a b (l : List (Int × Int)), O.cellsP ((a, b) :: l) = .int .i64 a :: .int .i64 b :: O.cellsP l := fun _ _ _ => rfl
    cases k with
    | zero =>
      simp at h
      obtain ⟨rfl, rfl⟩ := h
      rw [List.set_cons_zero, e, e]
      rfl
    | succ k =>
      rw [List.set_cons_succ, e, e, show (k + 1) * 2 + 1 = k * 2 + 1 + 1 + 1 by omega, List.set_cons_succ, List.set_cons_succ, ih k u c d (by simpa using h)]
end Go.Proofs.YtahfobbiaimoiaaGreatDoor
namespace Go.Proofs.YtahfobbiaimoiaaGreatDoor
/-- The event of a call. -/
def evO (o : Oq) : Ev := if o.op = 1 then ⟨o.tick, 2, o.step, o.user⟩ else if o.op = 2 then ⟨o.tick, 3, o.step, o.user⟩ else if o.op = 3 then ⟨o.tick, 4, -1, -1⟩ else if o.op = 4 then ⟨o.tick, if o.stuck then 5 else 6, -1, -1⟩ else ⟨0, 0, 0, 0⟩
theorem ply_ag (Pf : Nat → Nat) (R : Rs) (o : Oq) : plyR true Pf R o = agR Pf R (evO o) := by
  unfold evO
  by_cases h1 : o.op = 1
  · rw [ply1 h1, if_pos h1]; rfl
  by_cases h2 : o.op = 2
  · rw [ply2 h2, if_neg h1, if_pos h2]; rfl
  by_cases h3 : o.op = 3
  · rw [ply3 h3, if_neg h1, if_neg h2, if_pos h3]; rfl
  by_cases h4 : o.op = 4
  · rw [ply4 h4, if_neg h1, if_neg h2, if_neg h3, if_pos h4]
    cases o.stuck <;> rfl
  · rw [ply0 h1 h2 (fun _ => h3) h4, if_neg h1, if_neg h2, if_neg h3, if_neg h4]; rfl
theorem ag_back {Pf : Nat → Nat} {R0 R : Rs} (h : rpR Pf R0 R.log = R) (y : Ev) : rpR Pf R0 (agR Pf R y).log = agR Pf R y := by
  rcases agR_log Pf R y with h1 | ⟨x, h1⟩ | ⟨x, z, h1, hk⟩
  · rw [h1]; exact h
  · have hx : (agR Pf R y).log[R.log.length]? = some x := by rw [h1, List.getElem?_append_right (Nat.le_refl _), Nat.sub_self]; rfl
    rw [h1, rpR_app, h]
    exact agR_same Pf R y x hx
  · have hx : (agR Pf R y).log[R.log.length]? = some x := by rw [h1, List.getElem?_append_right (Nat.le_refl _), Nat.sub_self]; rfl
    rw [h1, show R.log ++ [x, z] = (R.log ++ [x]) ++ [z] by simp, rpR_app, rpR_app, h, agR_kind Pf _ hk]
    exact agR_same Pf R y x hx
theorem ply_back (Pf : Nat → Nat) (n : Nat) (t : Int) : ∀ (L : List Oq) (R : Rs), rpR Pf (newR n t) R.log = R → rpR Pf (newR n t) (plyL true Pf R L).log = plyL true Pf R L := by
  intro L
  induction L with
  | nil => exact fun R h => h
  | cons o L ih =>
    intro R h
    have h2 := ih (plyR true Pf R o) (by rw [ply_ag]; exact ag_back h (evO o))
    exact h2
theorem back0 (Pf : Nat → Nat) (n : Nat) (t : Int) : rpR Pf (newR n t) (newR n t).log = newR n t := rfl
theorem plyL_pre (Pf : Nat → Nat) : ∀ (L : List Oq) (R : Rs) {i : Nat} {x : Ev}, R.log[i]? = some x → (plyL true Pf R L).log[i]? = some x := by
  intro L
  induction L with
  | nil => exact fun R _ _ h => h
  | cons o L ih => exact fun R _ _ h => ih (plyR true Pf R o) (by rw [ply_ag]; exact agR_pre Pf R _ h)
theorem plyL_ftk (Pf : Nat → Nat) (n : Nat) (t : Int) (L : List Oq) : ftk (plyL true Pf (newR n t) L).log = t := by
  have := plyL_pre Pf L (newR n t) (i := 0) (x := ⟨t, 1, -1, -1⟩) rfl
  cases h : (plyL true Pf (newR n t) L).log with
  | nil => rw [h] at this; cases this
  | cons a l => rw [h] at this; cases this; rfl
/-- Two tellings of one order. -/
theorem canC_two {n : Nat} {Rel : Nat → Nat → Bool} {Pf Sf Pf' Sf' : Nat → Nat} (h : O.Ord n Rel Pf Sf) (h' : O.Ord n Rel Pf' Sf') {R : Rs} (hR : R.S.length = n) (s : Int) : canC Pf R s = canC Pf' R s := by
  unfold canC
  by_cases he : endd R = true
  · rw [if_pos he, if_pos he]
  · rw [if_neg he, if_neg he]
    by_cases hh : hasS R s = false
    · rw [if_pos hh, if_pos hh]
    · have hh' : hasS R s = true := by simpa using hh
      have hs := (hasS_iff hh').2.1
      rw [hR] at hs
      have e : Pf s.toNat = Pf' s.toNat := by
        apply Nat.eq_of_testBit_eq
        intro a
        rw [h.pre _ hs, h'.pre _ hs]
      rw [e]
theorem agR_two {n : Nat} {Rel : Nat → Nat → Bool} {Pf Sf Pf' Sf' : Nat → Nat} (h : O.Ord n Rel Pf Sf) (h' : O.Ord n Rel Pf' Sf') {R : Rs} (hR : R.S.length = n) (e : Ev) : agR Pf R e = agR Pf' R e := by
  unfold agR clmR
  rw [canC_two h h' hR]
theorem rpR_two {n : Nat} {Rel : Nat → Nat → Bool} {Pf Sf Pf' Sf' : Nat → Nat} (h : O.Ord n Rel Pf Sf) (h' : O.Ord n Rel Pf' Sf') : ∀ (l : List Ev) {R : Rs}, R.S.length = n → rpR Pf R l = rpR Pf' R l := by
  intro l
  induction l with
  | nil => exact fun _ => rfl
  | cons e l ih =>
    intro R hR
    show rpR Pf (agR Pf R e) l = rpR Pf' (agR Pf' R e) l
    rw [← agR_two h h' hR e]
    exact ih (by rw [agR_S, hR])
theorem plyR_S (ab : Bool) (Pf : Nat → Nat) (R : Rs) (o : Oq) : (plyR ab Pf R o).S.length = R.S.length := by
  unfold plyR
  split
  · exact clmR_len _ _ _ _ _
  · split
    · exact donR_len _ _ _ _
    · split
      · exact aboR_len _ _
      · split
        · exact mrkR_len _ _ _
        · rfl
theorem plyL_S (ab : Bool) (Pf : Nat → Nat) : ∀ (L : List Oq) (R : Rs), (plyL ab Pf R L).S.length = R.S.length := by
  intro L
  induction L with
  | nil => exact fun R => rfl
  | cons o L ih => exact fun R => (ih (plyR ab Pf R o)).trans (plyR_S ab Pf R o)
theorem plyL_log (ab : Bool) (Pf : Nat → Nat) : ∀ (L : List Oq) (R : Rs), (plyL ab Pf R L).log.length ≤ R.log.length + 2 * L.length := by
  intro L
  induction L with
  | nil => exact fun R => Nat.le_refl _
  | cons o L ih =>
    intro R
    have h1 := ih (plyR ab Pf R o)
    have h2 := plyR_log ab Pf R o
    have h3 : plyL ab Pf R (o :: L) = plyL ab Pf (plyR ab Pf R o) L := rfl
    rw [h3, List.length_cons]
    omega
theorem plyL_ok {n : Nat} (ab : Bool) (Pf : Nat → Nat) : ∀ (L : List Oq) {R : Rs}, RsOk n R → RsOk n (plyL ab Pf R L) := by
  intro L
  induction L with
  | nil => exact fun h => h
  | cons o L ih => exact fun h => ih (plyR_ok ab Pf h o)
end Go.Proofs.YtahfobbiaimoiaaGreatDoor

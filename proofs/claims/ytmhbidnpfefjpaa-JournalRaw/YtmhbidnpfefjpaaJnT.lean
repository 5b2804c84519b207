/- What stands on a disk: plain. -/
import Derived.Test.YtmhbidnpfefjpaaJnN
import Derived.Test.YtmhbidnpfefjpaaJnW
namespace Go.Proofs.Ytmhbidnpfefjpaa
open Go.RowKit
theorem blk_get (L : List Nat) (i t : Nat) (ht : t < 16) : (blkB L i)[t]? = L[16 * i + t]? := by
  unfold blkB
  rw [List.getElem?_take, if_pos ht, List.getElem?_drop]
theorem blk_ext {L M : List Nat} {i : Nat} (h : ∀ t, t < 16 → L[16 * i + t]? = M[16 * i + t]?) : blkB L i = blkB M i := by
  apply List.ext_getElem?
  intro t
  rcases Nat.lt_or_ge t 16 with ht | ht
  · rw [blk_get L i t ht, blk_get M i t ht]; exact h t ht
  · rw [List.getElem?_eq_none (by unfold blkB; rw [List.length_take]; omega), List.getElem?_eq_none (by unfold blkB; rw [List.length_take]; omega)]
theorem splice_at {L P : List Nat} {o : Nat} (h : o + P.length ≤ L.length) (j : Nat) : (splice L o P)[j]? = if o ≤ j ∧ j < o + P.length then P[j - o]? else L[j]? := by
  unfold splice
  have hl : (L.take o).length = o := by rw [List.length_take]; omega
  rw [List.getElem?_append, hl]
  split
  · rw [if_neg (by omega), List.getElem?_take, if_pos (by assumption)]
  · rw [List.getElem?_append]
    split
    · rw [if_pos (by omega)]
    · rw [if_neg (by omega), List.getElem?_drop]
      congr 1
      omega
theorem blk_splice {L P : List Nat} {n b : Nat} (hL : L.length = 16 * n) (hb : b < n) (hP : P.length = 16) (i : Nat) : blkB (splice L (16 * b) P) i = if i = b then P else blkB L i := by
  have hf : 16 * b + P.length ≤ L.length := by omega
  split
  · next e =>
    subst e
    apply List.ext_getElem?
    intro t
    rcases Nat.lt_or_ge t 16 with ht | ht
    · rw [blk_get _ i t ht, splice_at hf, if_pos (by omega), show 16 * i + t - 16 * i = t by omega]
    · rw [List.getElem?_eq_none (by unfold blkB; rw [List.length_take]; omega), List.getElem?_eq_none (by omega)]
  · next e =>
    apply blk_ext
    intro t ht
    rw [splice_at hf, if_neg (by omega)]
theorem wrD_blk {D : Dk} {n b : Nat} {P : List Nat} (h : D.bytes.length = 16 * n) (hb : b < n) (hP : P.length = 16) (i : Nat) : blkB (wrD D b P).bytes i = if i = b then P else blkB D.bytes i := blk_splice h hb hP i
theorem wrD_len {D : Dk} {n b : Nat} {P : List Nat} (h : D.bytes.length = 16 * n) (hb : b < n) (hP : P.length = 16) : (wrD D b P).bytes.length = 16 * n := by
  show (splice D.bytes (16 * b) P).length = _
  rw [splice_len (by omega)]; exact h
/-- Blocks that no write names stay. -/
theorem wrs_keep {n i : Nat} : ∀ {D : Dk} {ws : List (Nat × List Nat)}, D.bytes.length = 16 * n → Fit n ws → (∀ p ∈ ws, p.1 ≠ i) → blkB (wrs D ws).bytes i = blkB D.bytes i
  | D, [], _, _, _ => rfl
  | D, (b, P) :: t, hL, hf, hi => by
    have h1 := hf (b, P) (List.mem_cons_self ..)
    unfold wrs
    split
    · rw [wrs_keep (wrD_len hL h1.1 h1.2) (fun p hp => hf p (List.mem_cons_of_mem _ hp)) (fun p hp => hi p (List.mem_cons_of_mem _ hp)), wrD_blk hL h1.1 h1.2, if_neg (fun e => hi (b, P) (List.mem_cons_self ..) e.symm)]
    · rfl
theorem wrs_len {n : Nat} : ∀ {D : Dk} {ws : List (Nat × List Nat)}, D.bytes.length = 16 * n → Fit n ws → (wrs D ws).bytes.length = 16 * n
  | D, [], hL, _ => hL
  | D, (b, P) :: t, hL, hf => by
    have h1 := hf (b, P) (List.mem_cons_self ..)
    unfold wrs
    split
    · exact wrs_len (wrD_len hL h1.1 h1.2) (fun p hp => hf p (List.mem_cons_of_mem _ hp))
    · exact hL
/-- A record's blocks that were written all. -/
theorem pcW_blk {n p : Nat} {R : List Nat} {D : Dk} (hL : D.bytes.length = 16 * n) : ∀ k, p + 1 + k ≤ n → wrsOk D (pcW p R k) = true → ∀ i, i < k → blkB (wrs D (pcW p R k)).bytes (p + 1 + i) = pieceB R i
  | 0, _, _, i, hi => by omega
  | k + 1, hk, hok, i, hi => by
    rw [pcW_succ, wrsOk_app, Bool.and_eq_true] at hok
    have hlen := wrs_len (ws := pcW p R k) hL (pcW_fit (by omega))
    rw [pcW_succ, wrs_app, if_pos hok.1, wrs_one, if_pos (by rw [← wrsOk_one]; exact hok.2), wrD_blk hlen (by omega) (pieceB_len R k)]
    split
    · next e => obtain rfl : i = k := by omega
                rfl
    · next e => exact pcW_blk hL k (by omega) hok.1 i (by omega)
/-- Records from q on, the next number c + 1, the end at p. -/
def Std (L : List Nat) (n : Nat) : List (List Nat) → Nat → Nat → Nat → Prop
  | [], q, _, p => q = p ∧ blkB L q = z16 ∧ q < n
  | r :: rs, q, c, p => r.length ≤ 131072 ∧ q + 1 + spn r.length < n ∧ blkB L q = titleB r.length (c + 1) ∧ (∀ i, i < spn r.length → blkB L (q + 1 + i) = pieceB r i) ∧ Std L n rs (q + 1 + spn r.length) (c + 1) p
theorem Std.le {L : List Nat} {n : Nat} : ∀ {rs : List (List Nat)} {q c p : Nat}, Std L n rs q c p → q + rs.length ≤ p ∧ p < n ∧ blkB L p = z16
  | [], q, c, p, h => by
    obtain ⟨rfl, h2, h3⟩ := h
    exact ⟨by simp, h3, h2⟩
  | r :: rs, q, c, p, h => by
    obtain ⟨_, _, _, _, h5⟩ := h
    obtain ⟨a, b, d⟩ := Std.le h5
    exact ⟨by simp only [List.length_cons]; omega, b, d⟩
theorem Std.ext {L L' : List Nat} {n : Nat} : ∀ {rs : List (List Nat)} {q c p : Nat}, Std L n rs q c p → (∀ i, q ≤ i → i ≤ p → blkB L' i = blkB L i) → Std L' n rs q c p
  | [], q, c, p, h, he => by
    obtain ⟨rfl, h2, h3⟩ := h
    exact ⟨rfl, (he q (Nat.le_refl _) (Nat.le_refl _)).trans h2, h3⟩
  | r :: rs, q, c, p, h, he => by
    obtain ⟨h1, h2, h3, h4, h5⟩ := h
    have hle := h5.le.1
    exact ⟨h1, h2, (he q (Nat.le_refl _) (by omega)).trans h3, fun i hi => (he _ (by omega) (by omega)).trans (h4 i hi), h5.ext fun i a b => he i (by omega) b⟩
theorem Std.snoc {L L' : List Nat} {n : Nat} {r : List Nat} : ∀ {rs : List (List Nat)} {q c p : Nat}, Std L n rs q c p → (∀ i, q ≤ i → i < p → blkB L' i = blkB L i) → r.length ≤ 131072 → p + 1 + spn r.length < n → blkB L' p = titleB r.length (c + rs.length + 1) → (∀ i, i < spn r.length → blkB L' (p + 1 + i) = pieceB r i) → blkB L' (p + 1 + spn r.length) = z16 → Std L' n (rs ++ [r]) q c (p + 1 + spn r.length)
  | [], q, c, p, h, _, h1, h2, h3, h4, h5 => by
    obtain ⟨rfl, _, _⟩ := h
    exact ⟨h1, h2, h3, h4, rfl, h5, h2⟩
  | x :: rs, q, c, p, h, he, h1, h2, h3, h4, h5 => by
    obtain ⟨a1, a2, a3, a4, a5⟩ := h
    have hle := a5.le.1
    refine ⟨a1, a2, (he q (Nat.le_refl _) (by omega)).trans a3, fun i hi => (he _ (by omega) (by omega)).trans (a4 i hi), ?_⟩
    exact a5.snoc (fun i u v => he i (by omega) v) h1 h2 (by rw [h3]; simp only [List.length_cons]; congr 1; omega) h4 h5
theorem piece_take (R : List Nat) (i : Nat) : (pieceB R i).take (min 16 (R.length - 16 * i)) = (R.drop (16 * i)).take 16 := by
  unfold pieceB splice
  rw [List.take_zero, List.nil_append, List.take_append_of_le_length (by rw [List.length_take, List.length_drop]; omega), List.take_of_length_le (by rw [List.length_take, List.length_drop]; omega)]
theorem chunks {X Y : List Nat} {m : Nat} (hX : X.length = m) (hY : Y.length = m) (h : ∀ i, i < spn m → (X.drop (16 * i)).take 16 = (Y.drop (16 * i)).take 16) : X = Y := by
  apply List.ext_getElem?
  intro j
  rcases Nat.lt_or_ge j m with hj | hj
  · have e := h (j / 16) (by unfold spn; omega)
    have e2 : ((X.drop (16 * (j / 16))).take 16)[j % 16]? = ((Y.drop (16 * (j / 16))).take 16)[j % 16]? := by rw [e]
    have hm := Nat.mod_lt j (show 0 < 16 by decide)
    rw [List.getElem?_take, if_pos hm, List.getElem?_take, if_pos hm, List.getElem?_drop, List.getElem?_drop, Nat.div_add_mod] at e2
    exact e2
  · rw [List.getElem?_eq_none (by omega), List.getElem?_eq_none (by omega)]
theorem recOf_eq {L : List Nat} {n q : Nat} {r : List Nat} (hL : L.length = 16 * n) (h2 : q + 1 + spn r.length < n) (h4 : ∀ i, i < spn r.length → blkB L (q + 1 + i) = pieceB r i) : recOf L q r.length = r :=
  chunks (recOf_len hL h2) rfl fun i hi => by rw [← part_eq, h4 i hi, piece_take]
/-- What stands is what is read. -/
theorem Std.prs {L : List Nat} {n : Nat} (hL : L.length = 16 * n) : ∀ {rs : List (List Nat)} {q c p f : Nat}, Std L n rs q c p → n ≤ q + f → prs L n f q c = some (rs, p)
  | [], q, c, p, f, h, hf => by
    obtain ⟨rfl, h2, h3⟩ := h
    obtain ⟨f, rfl⟩ : ∃ f', f = f' + 1 := ⟨f - 1, by omega⟩
    rw [Go.Proofs.Ytmhbidnpfefjpaa.prs, if_pos h2]
  | r :: rs, q, c, p, f, h, hf => by
    obtain ⟨h1, h2, h3, h4, h5⟩ := h
    obtain ⟨f, rfl⟩ : ∃ f', f = f' + 1 := ⟨f - 1, by omega⟩
    have hn : n48 (blkB L q) = r.length := by rw [h3]; exact n48_title (by omega)
    have hone : oneR L n q c = some r := by
      have e := recOf_eq hL h2 h4
      have := oneR_yes (L := L) (n := n) (q := q) (c := c) (by rw [hn]; exact h1) (by rw [hn]; exact h2) (by rw [hn]; exact h3) (by rw [hn, e]; exact h4)
      rw [hn, e] at this
      exact this
    rw [Go.Proofs.Ytmhbidnpfefjpaa.prs, if_neg (by rw [h3]; exact title_ne _ _), hone]
    show (match Go.Proofs.Ytmhbidnpfefjpaa.prs L n f (q + 1 + spn r.length) (c + 1) with | none => none | some (l, p) => some (r :: l, p)) = _
    rw [Std.prs hL h5 (by omega)]
/-- Behind an Append. -/
def apL (n : Nat) (D : Dk) (J : Jn) (R : List Nat) (K : List (List Nat)) : List (List Nat) := match apK n D J R with | .done => K ++ [R] | _ => K
theorem std_append {n : Nat} {D : Dk} {J : Jn} {R : List Nat} {K : List (List Nat)} (hL : D.bytes.length = 16 * n) (h : Std D.bytes n K 1 0 J.e) (hc : J.c = K.length) (hR : R.length ≤ 131072) : Std (apD n D J R).bytes n (apL n D J R K) 1 0 (apJ n D J R).e ∧ (apJ n D J R).c = (apL n D J R K).length ∧ blkB (apD n D J R).bytes 0 = blkB D.bytes 0 := by
  have hle := h.le.1
  unfold apD apL apJ
  cases hk : apK n D J R with
  | down => exact ⟨h, hc, rfl⟩
  | full => exact ⟨h, hc, rfl⟩
  | cut =>
    unfold apK at hk
    split at hk
    · cases hk
    · split at hk
      · cases hk
      · next hf =>
        split at hk
        · cases hk
        · next hw =>
          have hfit := layW_fit (n := n) (p := J.e) (c := J.c) (R := R) (by omega)
          have e : wrs D (layW J.e J.c R) = wrs D (pcW J.e R (spn R.length) ++ [(J.e + 1 + spn R.length, z16)]) := by
            have e1 : layW J.e J.c R = (pcW J.e R (spn R.length) ++ [(J.e + 1 + spn R.length, z16)]) ++ [(J.e, titleB R.length (J.c + 1))] := by simp [layW]
            rw [e1, wrsOk_app, wrsOk_one] at hw
            rw [e1, wrs_app, wrs_one]
            split
            · next ho =>
              rw [ho, Bool.true_and] at hw
              rw [if_neg hw]
            · rfl
          have hfit2 : Fit n (pcW J.e R (spn R.length) ++ [(J.e + 1 + spn R.length, z16)]) := fun p hp => hfit p (by
            unfold layW
            rcases List.mem_append.1 hp with h1 | h1
            · exact List.mem_append_left _ h1
            · refine List.mem_append_right _ ?_
              simp only [List.mem_cons, List.not_mem_nil, or_false] at h1 ⊢
              exact .inl h1)
          have hno : ∀ i, i ≤ J.e → ∀ p ∈ pcW J.e R (spn R.length) ++ [(J.e + 1 + spn R.length, z16)], p.1 ≠ i := fun i hi p hp => by
            rcases List.mem_append.1 hp with h1 | h1
            · unfold pcW at h1
              obtain ⟨j, _, e⟩ := List.mem_map.1 h1
              subst e
              show J.e + 1 + j ≠ i
              omega
            · simp only [List.mem_cons, List.not_mem_nil, or_false] at h1
              subst h1
              show J.e + 1 + spn R.length ≠ i
              omega
          show Std (wrs D (layW J.e J.c R)).bytes n K 1 0 J.e ∧ J.c = K.length ∧ blkB (wrs D (layW J.e J.c R)).bytes 0 = blkB D.bytes 0
          rw [e]
          exact ⟨h.ext fun i _ hi => wrs_keep hL hfit2 (hno i hi), hc, wrs_keep hL hfit2 (hno 0 (Nat.zero_le _))⟩
  | done =>
    unfold apK at hk
    split at hk
    · cases hk
    · split at hk
      · cases hk
      · next hf =>
        split at hk
        · next hw =>
          have hfit1 : Fit n (pcW J.e R (spn R.length)) := pcW_fit (by omega)
          have e1 : layW J.e J.c R = (pcW J.e R (spn R.length) ++ [(J.e + 1 + spn R.length, z16)]) ++ [(J.e, titleB R.length (J.c + 1))] := by simp [layW]
          rw [e1, wrsOk_app, wrsOk_one, Bool.and_eq_true, wrsOk_app, wrsOk_one, Bool.and_eq_true] at hw
          obtain ⟨⟨o1, o2⟩, o3⟩ := hw
          have e2 : wrs D (layW J.e J.c R) = wrD (wrD (wrs D (pcW J.e R (spn R.length))) (J.e + 1 + spn R.length) z16) J.e (titleB R.length (J.c + 1)) := by
            rw [wrs_app, if_pos o1, wrs_one, if_pos o2] at o3
            rw [e1, wrs_app, if_pos (by rw [wrsOk_app, o1, wrsOk_one, o2]; rfl), wrs_one, wrs_app, if_pos o1, wrs_one, if_pos o2, if_pos o3]
          have l1 := wrs_len hL hfit1
          have l2 := wrD_len (b := J.e + 1 + spn R.length) l1 (by omega) z16_len
          have hb : ∀ i, blkB (wrs D (layW J.e J.c R)).bytes i = if i = J.e then titleB R.length (J.c + 1) else if i = J.e + 1 + spn R.length then z16 else blkB (wrs D (pcW J.e R (spn R.length))).bytes i := fun i => by
            rw [e2, wrD_blk l2 (by omega) (titleB_len _ _), wrD_blk l1 (by omega) z16_len]
          have hno : ∀ i, i ≤ J.e → ∀ p ∈ pcW J.e R (spn R.length), p.1 ≠ i := fun i hi p hp => by
            unfold pcW at hp
            obtain ⟨j, _, e⟩ := List.mem_map.1 hp
            subst e
            show J.e + 1 + j ≠ i
            omega
          refine ⟨?_, by show J.c + 1 = (K ++ [R]).length; rw [List.length_append, hc]; rfl, ?_⟩
          · refine h.snoc (fun i _ hi => ?_) hR (by omega) ?_ (fun i hi => ?_) ?_
            · rw [hb, if_neg (by omega), if_neg (by omega), wrs_keep hL hfit1 (hno i (by omega))]
            · rw [hb, if_pos rfl, hc, Nat.zero_add]
            · rw [hb, if_neg (by omega), if_neg (by omega)]
              exact pcW_blk hL _ (by omega) o1 i hi
            · rw [hb, if_neg (by omega), if_pos rfl]
          · show blkB (wrs D (layW J.e J.c R)).bytes 0 = _
            rw [hb, if_neg (by omega), if_neg (by omega), wrs_keep hL hfit1 (hno 0 (Nat.zero_le _))]
        · cases hk
end Go.Proofs.Ytmhbidnpfefjpaa

/- The pattern of what Same rules bind is that of the document's labels: plain facts. -/
import Derived.Test.YtcdlodmoiobpbaaRTieA
import Derived.Test.YtcdlodmoiobpbaaRPatM
namespace Go.Proofs.Ytcdlodmoiobpbaa
/-- The rows of the Same rules. -/
def sms (R : List Rl) : List (List Nat) := R.filterMap fun r => if r.kind = 2 then some (r.steps.map Int.toNat) else none
theorem mem_sms {R : List Rl} {T : List Nat} : T ∈ sms R ↔ ∃ r ∈ R, r.kind = 2 ∧ r.steps.map Int.toNat = T := by
  unfold sms
  rw [List.mem_filterMap]
  constructor
  · rintro ⟨r, hr, h⟩
    by_cases hk : r.kind = 2
    · rw [if_pos hk] at h; exact ⟨r, hr, hk, Option.some.inj h⟩
    · rw [if_neg hk] at h; cases h
  · rintro ⟨r, hr, hk, rfl⟩
    exact ⟨r, hr, by rw [if_pos hk]⟩
theorem mrg_at {l : List Nat} {i j a x : Nat} (ha : l[a]? = some x) : (ints (relab l (l.getD i 0) (l.getD j 0)))[a]? = some ((if x = l.getD i 0 then l.getD j 0 else x : Nat) : Int) := ints_at (by rw [relab_at, ha]; rfl)
theorem getD_some {l : List Nat} {i x : Nat} (h : l[i]? = some x) : l.getD i 0 = x := by rw [List.getD_eq_getElem?_getD, h]; rfl
theorem mrg_joins {l : List Nat} {i j : Nat} (hi : i < l.length) (hj : j < l.length) : (mrg l i j)[i]? = (mrg l i j)[j]? := by
  obtain ⟨f, hf⟩ : ∃ x, l[i]? = some x := ⟨_, List.getElem?_eq_getElem hi⟩
  obtain ⟨t, ht⟩ : ∃ x, l[j]? = some x := ⟨_, List.getElem?_eq_getElem hj⟩
  refine (pat_ker (mrg_at hf) (mrg_at ht)).2 ?_
  rw [getD_some hf, getD_some ht, if_pos rfl]
  split <;> rfl
theorem mrg_keeps {l : List Nat} {i j a b : Nat} (ha : a < l.length) (h : l[a]? = l[b]?) : (mrg l i j)[a]? = (mrg l i j)[b]? := by
  obtain ⟨x, hx⟩ : ∃ x, l[a]? = some x := ⟨_, List.getElem?_eq_getElem ha⟩
  have hy : l[b]? = some x := by rw [← h, hx]
  exact (pat_ker (mrg_at hx) (mrg_at hy)).2 rfl
theorem bndC_keeps {l T : List Nat} {a b : Nat} (ha : a < l.length) (h : l[a]? = l[b]?) (c : Nat) : (bndC l T c)[a]? = (bndC l T c)[b]? := by
  induction c with
  | zero => exact h
  | succ c ih => exact mrg_keeps (by rw [bndC_len]; exact ha) ih
theorem bndC_joins {l T : List Nat} (hT : ∀ t ∈ T, t < l.length) (c : Nat) (hc : c ≤ T.length) : ∀ k, k < c → (bndC l T c)[T.getD 0 0]? = (bndC l T c)[T.getD k 0]? := by
  have hm : ∀ k, k < T.length → T.getD k 0 < l.length := fun k hk => hT _ (by
    rw [List.getD_eq_getElem?_getD, List.getElem?_eq_getElem hk]; exact List.getElem_mem _)
  induction c with
  | zero => intro k hk; omega
  | succ c ih =>
    intro k hk
    rw [bndC]
    by_cases e : k = c
    · subst e
      exact mrg_joins (by rw [bndC_len]; exact hm 0 (by omega)) (by rw [bndC_len]; exact hm k (by omega))
    · exact mrg_keeps (by rw [bndC_len]; exact hm 0 (by omega)) (ih (by omega) k (by omega))
theorem bndC_all {l T : List Nat} (hT : ∀ t ∈ T, t < l.length) {s u : Nat} (hs : s ∈ T) (hu : u ∈ T) : (bndC l T T.length)[s]? = (bndC l T T.length)[u]? := by
  obtain ⟨i, hi⟩ := List.getElem?_of_mem hs
  obtain ⟨j, hj⟩ := List.getElem?_of_mem hu
  have h1 := bndC_joins hT T.length (Nat.le_refl _) i (List.getElem?_eq_some_iff.1 hi).1
  have h2 := bndC_joins hT T.length (Nat.le_refl _) j (List.getElem?_eq_some_iff.1 hj).1
  rw [getD_some hi] at h1
  rw [getD_some hj] at h2
  exact h1.symm.trans h2
theorem tieC_con {n : Nat} {R : List Rl} (hR : ∀ r ∈ R, chk (n : Int) r = true) (c : Nat) : ∀ d r, d < c → R[d]? = some r → r.kind = 2 → ∀ s ∈ r.steps.map Int.toNat, ∀ u ∈ r.steps.map Int.toNat, (tieC n R c)[s]? = (tieC n R c)[u]? := by
  have hlt : ∀ (d : Nat) (r : Rl), R[d]? = some r → ∀ s ∈ r.steps.map Int.toNat, s < n := fun d r hr s hs => by
    obtain ⟨T, _, hT, h, _⟩ := chk_nat (hR r (List.mem_of_getElem? hr))
    rw [hT] at hs
    exact h s hs
  induction c with
  | zero => intro d r hd; omega
  | succ c ih =>
    intro d r hd hr hk s hs u hu
    cases hc : R[c]? with
    | none =>
      have h1 := List.getElem?_eq_none_iff.1 hc
      have h2 := (List.getElem?_eq_some_iff.1 hr).1
      rw [tieC, hc]
      exact ih d r (by omega) hr hk s hs u hu
    | some r' =>
      rw [tieC_some hc]
      by_cases e : d = c
      · subst e
        rw [hr] at hc
        cases hc
        rw [if_pos hk]
        have := bndC_all (l := tieC n R d) (T := r.steps.map Int.toNat) (fun t ht => by rw [tieC_len]; exact hlt d r hr t ht) hs hu
        rwa [List.length_map] at this
      · have h0 := ih d r (by omega) hr hk s hs u hu
        by_cases hk' : r'.kind = 2
        · rw [if_pos hk']
          exact bndC_keeps (by rw [tieC_len]; exact hlt d r hr s hs) h0 _
        · rw [if_neg hk']; exact h0
theorem alk_con {n : Nat} {R : List Rl} (hR : ∀ r ∈ R, chk (n : Int) r = true) {B : List Int} (hB : ∀ r ∈ R, r.kind = 2 → ∀ s ∈ r.steps.map Int.toNat, ∀ u ∈ r.steps.map Int.toNat, B[s]? = B[u]?) (c : Nat) : Alk (tieC n R c) B := by
  induction c with
  | zero => exact alk_range n B
  | succ c ih =>
    cases hr : R[c]? with
    | none => rw [tieC, hr]; exact ih
    | some r =>
      rw [tieC_some hr]
      by_cases hk : r.kind = 2
      · rw [if_pos hk]
        obtain ⟨T, _, hT, h, _⟩ := chk_nat (hR r (List.mem_of_getElem? hr))
        exact alk_bnd ih (fun s hs => by rw [hT] at hs; rw [tieC_len]; exact h s hs) (hB r (List.mem_of_getElem? hr) hk) _ (by rw [List.length_map]; exact Nat.le_refl _)
      · rw [if_neg hk]; exact ih
theorem tie_at {n : Nat} {R : List Rl} {a : Nat} (ha : a < n) : (tie n R)[a]? = some ((tie n R).getD a 0) := by
  have hl : (tie n R).length = n := tieC_len _ _ _
  rw [List.getD_eq_getElem?_getD, List.getElem?_eq_getElem (by omega)]; rfl
theorem sms_lt {n : Nat} {R : List Rl} (hR : ∀ r ∈ R, chk (n : Int) r = true) : ∀ T ∈ sms R, ∀ t ∈ T, t < n := fun T hT t ht => by
  obtain ⟨r, hr, _, rfl⟩ := mem_sms.1 hT
  obtain ⟨T', _, hT', h, _⟩ := chk_nat (hR r hr)
  rw [hT'] at ht
  exact h t ht
theorem tie_lab {n : Nat} {R : List Rl} (hR : ∀ r ∈ R, chk (n : Int) r = true) {a b : Nat} (ha : a < n) (hb : b < n) : labN (sms R) n a = labN (sms R) n b ↔ (tie n R)[a]? = (tie n R)[b]? := by
  have hl := sms_lt hR
  rw [labN_iff (E := fun a => (tie n R).getD a 0) hl ?_ ?_ ha hb]
  · rw [tie_at ha, tie_at hb]
    exact ⟨fun h => by rw [h], fun h => Option.some.inj h⟩
  · intro T hT s hs t ht
    have h1 := hl T hT s hs
    have h2 := hl T hT t ht
    obtain ⟨r, hr, hk, rfl⟩ := mem_sms.1 hT
    obtain ⟨d, hd⟩ := List.getElem?_of_mem hr
    have := tieC_con hR R.length d r (List.getElem?_eq_some_iff.1 hd).1 hd hk s hs t ht
    have h3 : (tie n R)[s]? = (tie n R)[t]? := this
    rw [tie_at h1, tie_at h2] at h3
    exact Option.some.inj h3
  · intro B hB a b ha hb e
    have hlen : (tie n R).length = n := tieC_len _ _ _
    have hA := alk_con hR (B := (List.range n).map fun a => ((B a : Nat) : Int)) (fun r hr hk s hs u hu => by
      have hTm : r.steps.map Int.toNat ∈ sms R := mem_sms.2 ⟨r, hr, hk, rfl⟩
      have := hB _ hTm s hs u hu
      rw [List.getElem?_map, List.getElem?_map, List.getElem?_range (hl _ hTm s hs), List.getElem?_range (hl _ hTm u hu)]
      simp [this]) R.length
    have h1 := hA a b (by rw [tieC_len]; exact ha) (by rw [tieC_len]; exact hb) (by
      show (tie n R)[a]? = (tie n R)[b]?
      rw [tie_at ha, tie_at hb]
      exact congrArg some e)
    rw [List.getElem?_map, List.getElem?_map, List.getElem?_range ha, List.getElem?_range hb] at h1
    have h2 := Option.some.inj h1
    exact Int.ofNat_inj.1 h2
/-- The document's labels behind n rounds. -/
def dlab (n : Nat) (R : List Rl) : List Nat := (List.range n).map (labN (sms R) n)
theorem dlab_pat {n : Nat} {R : List Rl} (hR : ∀ r ∈ R, chk (n : Int) r = true) : pat (ints (dlab n R)) = tie n R := by
  have hlen : (pat (ints (dlab n R))).length = n := by rw [pat_len, ints_len, dlab, List.length_map, List.length_range]
  refine leg_uniq (leg_pat0 _) (tieC_leg _ _ _) (by rw [hlen]; exact (tieC_len n R R.length).symm) fun i j hi hj => ?_
  rw [hlen] at hi hj
  have at' : ∀ i, i < n → (ints (dlab n R))[i]? = some ((labN (sms R) n i : Nat) : Int) := fun i hi => ints_at (by rw [dlab, List.getElem?_map, List.getElem?_range hi]; rfl)
  rw [pat_ker (at' i hi) (at' j hj)]
  rw [← tie_lab hR hi hj]
  omega
end Go.Proofs.Ytcdlodmoiobpbaa

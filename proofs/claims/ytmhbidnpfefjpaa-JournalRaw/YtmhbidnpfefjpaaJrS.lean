/- Both Opens, told by one: what is answered, what is written. -/
import Derived.Test.YtmhbidnpfefjpaaJrP
namespace Go.Proofs.Ytmhbidnpfefjpaa
open Go.RowKit
/-- What an opening finds. -/
def opS (D : Dk) (n : Nat) : Option (List (List Nat) × Nat × Nat) := if n < 2 then none else if D.power = false then none else lookR D.bytes n
def opE (D : Dk) (n : Nat) : Int := if n < 2 then 51 else if D.power = false then 50 else match lookR D.bytes n with | none => 52 | some _ => 0
def opD (D : Dk) (n : Nat) : Dk := match opS D n with | none => D | some x => wrD D 0 (headB (bt1 x.2.2))
theorem prs_cnt {L : List Nat} {n : Nat} : ∀ {f q c : Nat} {l : List (List Nat)} {p : Nat}, prs L n f q c = some (l, p) → q + l.length ≤ p
  | 0, _, _, _, _, h => by cases h
  | f + 1, q, c, l, p, h => by
    unfold prs at h
    split at h
    · injection h with h; injection h with h1 h2; subst h1; subst h2; simp
    · split at h
      · cases h
      · next r hr =>
        split at h
        · cases h
        · next l' p' hp =>
          injection h with h; injection h with h1 h2; subst h1; subst h2
          have := prs_cnt hp
          simp only [List.length_cons]
          omega
theorem look_cnt {L : List Nat} {n p b : Nat} {l : List (List Nat)} (h : lookR L n = some (l, p, b)) : l.length ≤ p := by
  unfold lookR at h
  split at h
  · split at h
    · injection h with h; injection h with h1 h2; subst h1; simp
    · cases h
  · split at h
    · split at h
      · cases h
      · next l' p' hp =>
        injection h with h; injection h with h1 h2; injection h2 with h2 h3; subst h1; subst h2
        have := prs_cnt hp
        omega
    · cases h
/-- A list of records in new memory. -/
def NwR (W w' : World) (v : Value) (R : List (List Nat)) : Prop := ∀ X : World, (∀ k, k < w'.heap.size → W.heap.size ≤ k → X.heap[k]? = w'.heap[k]?) → RowR X v R
def OaF (W w' : World) (g n : Nat) (pv lv : Value) : Option (List (List Nat) × Nat × Nat) → Prop
  | none => pv = .pointer none ∧ lv = .slice none 0 0
  | some (R, p, b) => ∃ gj, pv = .pointer (some ⟨gj, 0, none⟩) ∧ Hid (JnA w' gj g ⟨p, R.length, bt1 b, false⟩) ∧ Hid (W.heap.size ≤ gj) ∧ Hid (NwR W w' lv R) ∧ p < n ∧ R.length ≤ p
def ObF (W w' : World) (r n : Nat) (pv lv : Value) : Option (List (List Nat) × Nat × Nat) → Prop
  | none => pv = .pointer none ∧ lv = .slice none 0 0
  | some (R, p, b) => ∃ q, pv = .pointer (some ⟨q, 0, none⟩) ∧ Hid (RjA w' q r ⟨p, R.length, bt1 b, false⟩) ∧ Hid (W.heap.size ≤ q) ∧ Hid (NwR W w' lv R) ∧ p < n ∧ R.length ≤ p
/-- What the program's Open leaves. -/
def OaP (W : World) (g gb n : Nat) (D : Dk) (e : Ending) (w' : World) : Prop :=
  ∃ pv lv, e = .returned (.tuple #[pv, lv, .int .i64 (opE D n)]) ∧ Hid (DkA w' g gb (opD D n)) ∧ Hid (Kp g gb W w') ∧ Hid (OaF W w' g n pv lv (opS D n))
/-- What the document's Open leaves. -/
def ObP (W : World) (r rb cap n : Nat) (D : Dk) (e : Ending) (w' : World) : Prop :=
  ∃ pv lv, e = .returned (.tuple #[pv, lv, .int .i64 (opE D n)]) ∧ Hid (RkA w' r rb cap (opD D n)) ∧ Hid (Kp r rb W w') ∧ Hid (ObF W w' r n pv lv (opS D n))
theorem openA {W : World} {g gb n : Nat} {D : Dk} (hd : DkA W g gb D) (hk : DkO D n) (hb : B256 D.bytes) (hw : D.writes < 1000000000000) : Calls Try.prog 15 #[.pointer (some ⟨g, 0, none⟩)] W (OaP W g gb n D) := by
  by_cases hn : n < 2
  · have h1 : opS D n = none := by unfold opS; rw [if_pos hn]
    have h2 : opE D n = 51 := by unfold opE; rw [if_pos hn]
    refine (openFew hd hk.len hn).mono ?_
    rintro e w' ⟨rfl, rfl⟩
    exact ⟨_, _, by rw [h2], by unfold opD; rw [h1]; exact hd, Kp.refl _ _ _, by rw [h1]; exact ⟨rfl, rfl⟩⟩
  · cases hp : D.power with
    | false =>
      have h1 : opS D n = none := by unfold opS; rw [if_neg hn, if_pos hp]
      have h2 : opE D n = 50 := by unfold opE; rw [if_neg hn, if_pos hp]
      refine (openDown hd hk.len (by omega) hk.most hp).mono ?_
      rintro e w' ⟨rfl, rfl⟩
      exact ⟨_, _, by rw [h2], by unfold opD; rw [h1]; exact hd, Kp.refl _ _ _, by rw [h1]; exact ⟨rfl, rfl⟩⟩
    | true =>
      refine (openJ hd hk (by omega) hp hb hw).mono ?_
      rintro e w' (⟨rfl, hl, hbl⟩ | ⟨gj, oa, cap, G, p, b, rfl, hl, hpb, hj, hd', hr, hg, hkp⟩)
      · have h1 : opS D n = none := by unfold opS; rw [if_neg hn, if_neg (by simp [hp]), hl.out]
        have h2 : opE D n = 52 := by unfold opE; rw [if_neg hn, if_neg (by simp [hp]), hl.out]
        exact ⟨_, _, by rw [h2], by unfold opD; rw [h1]; exact hd.below hbl.out (Nat.le_refl _), Kp.of_below hbl.out, by rw [h1]; exact ⟨rfl, rfl⟩⟩
      · have h1 : opS D n = some (G.map (·.2), p, b) := by unfold opS; rw [if_neg hn, if_neg (by simp [hp]), hl.out]
        have h2 : opE D n = 0 := by unfold opE; rw [if_neg hn, if_neg (by simp [hp]), hl.out]
        refine ⟨_, _, by rw [h2], by unfold opD; rw [h1]; exact hd', hkp, ?_⟩
        rw [h1]
        exact ⟨gj, rfl, by rw [List.length_map]; exact hj, hg, fun X hX => (hr.out.move fun k hk hB => hX k hk hB).row, hpb.out.1, look_cnt hl.out⟩
theorem openB {W : World} {r rb cap n : Nat} {D : Dk} (hd : RkA W r rb cap D) (hk : DkO D n) (hb : B256 D.bytes) (hw : D.writes < 1000000000000) : Calls Try.prog 30 #[.pointer (some ⟨r, 0, none⟩)] W (ObP W r rb cap n D) := by
  by_cases hn : n < 2
  · have h1 : opS D n = none := by unfold opS; rw [if_pos hn]
    have h2 : opE D n = 51 := by unfold opE; rw [if_pos hn]
    refine (openDFew hd hk.len hn).mono ?_
    rintro e w' ⟨rfl, rfl⟩
    exact ⟨_, _, by rw [h2], by unfold opD; rw [h1]; exact hd, Kp.refl _ _ _, by rw [h1]; exact ⟨rfl, rfl⟩⟩
  · cases hp : D.power with
    | false =>
      have h1 : opS D n = none := by unfold opS; rw [if_neg hn, if_pos hp]
      have h2 : opE D n = 50 := by unfold opE; rw [if_neg hn, if_pos hp]
      refine (openDDown hd hk (by omega) hp).mono ?_
      rintro e w' ⟨rfl, rfl⟩
      exact ⟨_, _, by rw [h2], by unfold opD; rw [h1]; exact hd, Kp.refl _ _ _, by rw [h1]; exact ⟨rfl, rfl⟩⟩
    | true =>
      refine (openD hd hk (by omega) hp hb hw).mono ?_
      rintro e w' (⟨rfl, hl, hbl⟩ | ⟨q, oa, kl, c2, G, p, b, rfl, hl, hpb, hj, hd', hr, hg, hkp⟩)
      · have h1 : opS D n = none := by unfold opS; rw [if_neg hn, if_neg (by simp [hp]), hl.out]
        have h2 : opE D n = 52 := by unfold opE; rw [if_neg hn, if_neg (by simp [hp]), hl.out]
        exact ⟨_, _, by rw [h2], by unfold opD; rw [h1]; exact hd.up hbl.out, Kp.of_below hbl.out, by rw [h1]; exact ⟨rfl, rfl⟩⟩
      · have h1 : opS D n = some (G.map (·.2), p, b) := by unfold opS; rw [if_neg hn, if_neg (by simp [hp]), hl.out]
        have h2 : opE D n = 0 := by unfold opE; rw [if_neg hn, if_neg (by simp [hp]), hl.out]
        refine ⟨_, _, by rw [h2], by unfold opD; rw [h1]; exact hd', hkp, ?_⟩
        rw [h1]
        exact ⟨q, rfl, by rw [List.length_map]; exact hj, hg, fun X hX => (hr.out.move fun k hk hB _ => hX k hk hB).row, hpb.out.2.1, look_cnt hl.out⟩
theorem opD_ok {D : Dk} {n : Nat} (h : DkO D n) (hb : B256 D.bytes) (hw : D.writes < 1000000000000) : DkO (opD D n) n ∧ B256 (opD D n).bytes ∧ (opD D n).writes ≤ D.writes + 1 := by
  unfold opD
  cases hs : opS D n with
  | none => exact ⟨h, hb, by show D.writes ≤ D.writes + 1; omega⟩
  | some x =>
    have hn : ¬ n < 2 := fun hn => by unfold opS at hs; rw [if_pos hn] at hs; cases hs
    exact ⟨wrD_ok h (by omega) (headB_len _) hw, hb.splice (head_256 _), Int.le_refl _⟩
end Go.Proofs.Ytmhbidnpfefjpaa

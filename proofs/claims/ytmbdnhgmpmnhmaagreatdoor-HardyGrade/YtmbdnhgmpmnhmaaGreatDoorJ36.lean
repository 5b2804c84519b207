/- What the document's search finds: plain. -/
import Derived.Test.YtmbdnhgmpmnhmaaGreatDoorJ24
import Derived.Test.YtmbdnhgmpmnhmaaGreatDoorJ35
namespace Go.Proofs.YtmbdnhgmpmnhmaaGreatDoor.S
/-- Can each rule still be kept? -/
def earA (P : Pb) (a : List Nat) : Bool := P.rules.all fun r => early r (P.who.length : Int) (ints a)
/-- The users of each block. -/
def rowD (P : Pb) (a : List Nat) : List Nat := (List.range (blks 0 a)).map (lvS (mayP P) a).1
theorem rowD_len (P : Pb) (a : List Nat) : (rowD P a).length = blks 0 a := by simp [rowD]
theorem rowD_fn (P : Pb) (a : List Nat) {b : Nat} (hb : b < blks 0 a) : M.fn (rowD P a) b = (lvS (mayP P) a).1 b := by
  unfold M.fn rowD
  simp [hb]
theorem has_iff (P : Pb) (a : List Nat) : M.Has (rowD P a) ↔ Iq (mayP P) a := by
  unfold M.Has Iq
  rw [M.full_iff, rowD_len]
  constructor
  · rintro ⟨f, h1, h2⟩
    exact ⟨f, fun r hr => by rw [← rowD_fn P a hr]; exact h1 r hr, h2⟩
  · rintro ⟨f, h1, h2⟩
    exact ⟨f, fun r hr => by rw [rowD_fn P a hr]; exact h1 r hr, h2⟩
/-- A pattern that has a plan. -/
def Gd (P : Pb) (m : List Nat) : Prop := (∀ r ∈ P.rules, holds r (ints m) = true) ∧ Iq (mayP P) m
/-- The first pattern that begins so and has a plan. -/
def SrS (P : Pb) (d : Nat) (a : List Nat) : Option (List Nat) → Prop
  | none => ∀ q, q.length = d → Leg (blks 0 a) q → ¬ Gd P (a ++ q)
  | some m => ∃ q, m = a ++ q ∧ q.length = d ∧ Leg (blks 0 a) q ∧ Gd P m ∧ ∀ q', q'.length = d → Leg (blks 0 a) q' → Gd P (a ++ q') → q' = q ∨ Lx q q'
theorem rul_chk {P : Pb} (hP : chkN P = 0) : ∀ r ∈ P.rules, chk (P.who.length : Int) r = true := fun r hr => by
  obtain ⟨_, _, _, _, _, _, hru⟩ := chkN_zero hP
  unfold rulB at hru
  rw [List.all_eq_true] at hru
  exact hru r hr
theorem gd_ear {P : Pb} (hP : chkN P = 0) {a q : List Nat} (hl : (a ++ q).length = P.who.length) (h : Gd P (a ++ q)) : earA P a = true := by
  unfold earA
  rw [List.all_eq_true]
  intro r hr
  have hc : chk ((ints (a ++ q)).length : Int) r = true := by rw [ints_len, hl]; exact rul_chk hP r hr
  have h1 := h.1 r hr
  unfold holds at h1
  have h2 := early_take hc h1 q.length a.length (by rw [ints_len, List.length_append])
  have e : (ints (a ++ q)).take a.length = ints a := by simp [ints]
  rw [e, ints_len, hl] at h2
  exact h2
theorem SrS.late {P : Pb} (hP : chkN P = 0) {d : Nat} {a : List Nat} (hl : a.length + d = P.who.length) (he : earA P a = false) : SrS P d a none := fun q hq _ hg => by
  have := gd_ear hP (by rw [List.length_append, hq]; exact hl) hg
  rw [he] at this; cases this
theorem SrS.leaf0 {P : Pb} {a : List Nat} (hh : ¬ M.Has (rowD P a)) : SrS P 0 a none := fun q hq _ hg => by
  rw [List.eq_nil_of_length_eq_zero hq, List.append_nil] at hg
  exact hh ((has_iff P a).2 hg.2)
theorem SrS.leaf1 {P : Pb} {a : List Nat} (hl : a.length = P.who.length) (he : earA P a = true) (hh : M.Has (rowD P a)) : SrS P 0 a (some a) := by
  refine ⟨[], by simp, rfl, trivial, ⟨fun r hr => ?_, (has_iff P a).1 hh⟩, fun q' hq _ _ => .inl (List.eq_nil_of_length_eq_zero hq)⟩
  unfold earA at he
  rw [List.all_eq_true] at he
  have := he r hr
  unfold holds
  rw [ints_len, hl]
  exact this
/-- None of the blocks below c goes on. -/
def SrL (P : Pb) (d : Nat) (a : List Nat) (c : Nat) : Prop := ∀ q, q.length = d + 1 → Leg (blks 0 a) q → (∃ b t, q = b :: t ∧ b < c) → ¬ Gd P (a ++ q)
theorem SrL.zero (P : Pb) (d : Nat) (a : List Nat) : SrL P d a 0 := fun _ _ _ ⟨_, _, _, h⟩ => absurd h (Nat.not_lt_zero _)
theorem SrL.next {P : Pb} {d : Nat} {a : List Nat} {c : Nat} (h : SrL P d a c) (hn : SrS P d (a ++ [c]) none) : SrL P d a (c + 1) := fun q hq hL ⟨b, t, e, hb⟩ hg => by
  by_cases hbc : b = c
  · subst e hbc
    have := hn t (by simpa using hq) (by rw [blks_snocH]; exact hL.2)
    rw [List.append_assoc] at this
    exact this hg
  · exact h q hq hL ⟨b, t, e, by omega⟩ hg
theorem SrL.found {P : Pb} {d : Nat} {a : List Nat} {c : Nat} {m : List Nat} (h : SrL P d a c) (hc : c ≤ blks 0 a) (hs : SrS P d (a ++ [c]) (some m)) : SrS P (d + 1) a (some m) := by
  obtain ⟨q, rfl, h1, h2, h3, h4⟩ := hs
  rw [blks_snocH] at h2 h4
  refine ⟨c :: q, by simp, by simp [h1], ⟨hc, h2⟩, by simpa using h3, fun q' hq hL hg => ?_⟩
  cases q' with
  | nil => simp at hq
  | cons b t =>
    rcases Nat.lt_trichotomy b c with hb | hb | hb
    · exact absurd hg (h _ hq hL ⟨b, t, rfl, hb⟩)
    · subst hb
      rcases h4 t (by simpa using hq) hL.2 (by simpa using hg) with rfl | h5
      · exact .inl rfl
      · exact .inr (.inr ⟨rfl, h5⟩)
    · exact .inr (.inl hb)
theorem SrL.none {P : Pb} {d : Nat} {a : List Nat} (h : SrL P d a (blks 0 a + 1)) : SrS P (d + 1) a none := fun q hq hL => by
  cases q with
  | nil => simp at hq
  | cons b t => exact h _ hq hL ⟨b, t, rfl, by have := hL.1; omega⟩
theorem srs_none {P : Pb} (h : chkN P = 0 → SrS P P.who.length [] none) : LsP P none := fun L => by
  cases hL : holP P L with
  | false => rfl
  | true =>
    obtain ⟨h1, h2, h3, _⟩ := plan_pat hL
    exact absurd ⟨h2, _, h3.bit, h3.inj⟩ (h (holP_of hL).1 (pat L) h1 (leg_pat0 L))
theorem srs_some {P : Pb} (hP : chkN P = 0) {m l : List Nat} (h : SrS P P.who.length [] (some m)) (hw : ∀ z ∈ rowD P m, z < 18446744073709551616) (hl : M.LexL (rowD P m) l) : LsP P (some (planL m (M.fn l))) := by
  obtain ⟨q, e, h1, h2, h3, h4⟩ := h
  rw [List.nil_append] at e
  subst e
  obtain ⟨g1, g2⟩ := hl.lex hw
  rw [rowD_len] at g1 g2
  refine ls_some hP h1 h2 ((kept_iff hP h1 h2).2 h3) (fun q' hq hL hk => h4 q' hq hL ((kept_iff hP hq hL).1 hk)) ?_
  exact ⟨⟨fun r hr => by rw [← rowD_fn P m hr]; exact g2.full.bit r hr, g2.full.inj⟩, fun j hj v hv g hg => g2.least j hj v hv g ⟨fun r hr => by rw [rowD_fn P m hr]; exact hg.bit r hr, hg.inj⟩⟩
/-- A block's users, one by one. -/
theorem row_bit {P : Pb} (hP : chkN P = 0) {a : List Nat} (hL : Leg 0 a) (hl : a.length ≤ P.who.length) {b u : Nat} (hb : b < blks 0 a) : ((lvS (mayP P) a).1 b).testBit u = true ↔ (u : Int) < P.users ∧ ∀ t, a[t]? = some b → okU P t (u : Int) = true := by
  rw [lvS_bit _ _ hL b u hb]
  obtain ⟨t0, ht0⟩ := List.getElem?_of_mem (occurs hL (Nat.zero_le _) hb)
  have hlt0 := (List.getElem?_eq_some_iff.1 ht0).1
  constructor
  · intro h
    have hu := may_user hP (by omega) (h t0 ht0)
    refine ⟨hu, fun t ht => ?_⟩
    unfold okU isU
    rw [Int.toNat_natCast, h t ht, decide_eq_true hu, decide_eq_true (Int.natCast_nonneg u)]
    rfl
  · rintro ⟨_, h⟩ t ht
    have := h t ht
    unfold okU at this
    rw [Bool.and_eq_true, Int.toNat_natCast] at this
    exact this.2
theorem row_lt {P : Pb} (hP : chkN P = 0) {a : List Nat} (hL : Leg 0 a) (hl : a.length ≤ P.who.length) : ∀ z ∈ rowD P a, z < 18446744073709551616 := fun z hz => by
  obtain ⟨b, hb, rfl⟩ := List.mem_map.1 hz
  have hb' := List.mem_range.1 hb
  obtain ⟨_, _, hU, _⟩ := chkN_zero hP
  have : (lvS (mayP P) a).1 b < 2 ^ 64 := Nat.lt_pow_two_of_testBit _ fun u hu => by
    cases h : ((lvS (mayP P) a).1 b).testBit u with
    | false => rfl
    | true => have := ((row_bit hP hL hl hb').1 h).1; omega
  exact this
end Go.Proofs.YtmbdnhgmpmnhmaaGreatDoor.S

/- A copy of a problem in the making: its box among its rows, told apart by their kinds. -/
import Derived.Test.YtlijlelejobchaaGreatDoorJ02
import Derived.Test.YtlijlelejobchaaGreatDoorKApp
import Derived.Test.YtlijlelejobchaaGreatDoorJ20
import Derived.Test.YtlijlelejobchaaGreatDoorJ22
import Derived.Test.YtlijlelejobchaaGreatDoorJ23
namespace Go.Proofs.YtlijlelejobchaaGreatDoor.S
open Go.RowKit Go.Shelf
theorem pat_lenS (l : List Int) : (pat l).length = l.length := patG_len [] l
/-- Ahead: by the patterns, and in one pattern by the rows. -/
def befB (a b : List Int) : Bool := if a.length = b.length ∧ a.length ≤ 25 then (if I.cmpL (ints (pat a)) (ints (pat b)) = 0 then decide (I.cmpL a b < 0) else decide (I.cmpL (ints (pat a)) (ints (pat b)) < 0)) else false
set_option maxRecDepth 100000 in
set_option maxHeartbeats 4000000 in
theorem beforeF (a b : List Int) (va vb : Value) (w : World) (ha : RowI w va a) (hb : RowI w vb b) (hwa : ∀ z ∈ a, (Lit.int .i64 z).wf = true) (hwb : ∀ z ∈ b, (Lit.int .i64 z).wf = true) (hla : a.length ≤ 1000000) (_ : b.length ≤ 1000000) :
    Calls Tryz.prog 15 #[va, vb] w fun e w' => e = .returned (.bool (befB a b)) ∧ Below w.heap.size w w' := by
  by_cases hl : a.length = b.length
  case neg =>
    have hf : befB a b = false := by unfold befB; rw [if_neg (fun h => hl h.1)]
    rw [hf]
    obtain ⟨oa, ca, rfl, _, _⟩ := ha
    obtain ⟨ob, cb, rfl, _, _⟩ := hb
    have hl' : (a.length : Int) ≠ (b.length : Int) := by omega
    clear hwa hwb hf
    generalize a.length = n at *
    generalize b.length = m at *
    go_enter Tryz.func15, Tryz.ntmps15
    go_wp2
    go_ret
    exact ⟨rfl, Below.refl _ _⟩
  by_cases h25 : a.length ≤ 25
  case neg =>
    have hf : befB a b = false := by unfold befB; rw [if_neg (fun h => h25 h.2)]
    rw [hf]
    obtain ⟨oa, ca, rfl, _, _⟩ := ha
    obtain ⟨ob, cb, rfl, _, _⟩ := hb
    have h25' : (25 : Int) < (a.length : Int) := by omega
    rw [← hl]
    clear hwa hwb hf hl
    generalize a.length = n at *
    go_enter Tryz.func15, Tryz.ntmps15
    go_wp2
    go_ret
    exact ⟨rfl, Below.refl _ _⟩
  have hfin : Hid (befB a b = if I.cmpL (ints (pat a)) (ints (pat b)) = 0 then decide (I.cmpL a b < 0) else decide (I.cmpL (ints (pat a)) (ints (pat b)) < 0)) := by show _ = _; unfold befB; rw [if_pos ⟨hl, h25⟩]
  have K1 : Hid (∀ V, Below w.heap.size w V → Calls Tryz.prog 35 #[va] V fun e w' => ∃ g, e = .returned (.tuple #[.slice (some ⟨g, 0, none⟩) a.length a.length, .int .i64 0]) ∧ w'.ownsRow V.heap.size 3 1 (.slice (some ⟨g, 0, none⟩) a.length a.length) a.length (cellsI (ints (pat a))) ∧ Below V.heap.size V w') := fun V hV => ofP a va V (ha.below hV (Nat.le_refl _)) h25 hwa
  have K2 : Hid (∀ V, Below w.heap.size w V → Calls Tryz.prog 35 #[vb] V fun e w' => ∃ g, e = .returned (.tuple #[.slice (some ⟨g, 0, none⟩) a.length a.length, .int .i64 0]) ∧ w'.ownsRow V.heap.size 3 1 (.slice (some ⟨g, 0, none⟩) a.length a.length) a.length (cellsI (ints (pat b))) ∧ Below V.heap.size V w') := fun V hV => by
    have := ofP b vb V (hb.below hV (Nat.le_refl _)) (by omega) hwb
    rw [← hl] at this
    exact this
  have K3 : Hid (∀ V, Below w.heap.size w V → Calls Tryz.prog 36 #[va, vb] V fun e w' => e = .returned (.int .i64 (I.cmpL a b)) ∧ Below V.heap.size V w') := fun V hV => I.compareF a b va vb V (ha.below hV (Nat.le_refl _)) (hb.below hV (Nat.le_refl _)) (by omega) hl
  have K4 : Hid (∀ V v1 v2, RowI V v1 (ints (pat a)) → RowI V v2 (ints (pat b)) → Calls Tryz.prog 36 #[v1, v2] V fun e w' => e = .returned (.int .i64 (I.cmpL (ints (pat a)) (ints (pat b)))) ∧ Below V.heap.size V w') := fun V v1 v2 h1 h2 => I.compareF _ _ v1 v2 V h1 h2 (by rw [ints_len, pat_lenS]; omega) (by rw [ints_len, ints_len, pat_lenS, pat_lenS, hl])
  have h25' : ¬ (25 : Int) < (a.length : Int) := by omega
  obtain ⟨oa, ca, rfl, _, _⟩ := ha
  obtain ⟨ob, cb, rfl, _, _⟩ := hb
  rw [hfin.out]
  rw [← hl] at K2 K3 ⊢
  generalize ints (pat a) = pa at *
  generalize ints (pat b) = pb at *
  clear hfin hwa hwb hl hla
  generalize I.cmpL pa pb = c1 at *
  generalize I.cmpL a b = c2 at *
  generalize a.length = n at *
  by_cases h0 : c1 = 0
  · subst h0
    rw [if_pos rfl]
    go_enter Tryz.func15, Tryz.ntmps15
    go_wp2_with fail
    refine (K1.out _ (Below.refl _ _)).mono ?_
    rintro e w1 ⟨g1, rfl, hr1, hb1⟩
    have hr1' := hide' hr1
    have hB1 := hide' hb1
    clear hr1 hb1 K1
    go_wp2_with fail
    refine (K2.out _ hB1.out).mono ?_
    rintro e w2 ⟨g2, rfl, hr2, hb2⟩
    have hp1 : Hid (RowI w2 (.slice (some ⟨g1, 0, none⟩) n n) pa) := RowI.of_owns (own_below hr1'.out hb2 (Nat.le_refl _))
    have hp2 : Hid (RowI w2 (.slice (some ⟨g2, 0, none⟩) n n) pb) := RowI.of_owns hr2
    have hB2 : Hid (Below w.heap.size w w2) := hB1.out.trans (hb2.mono hB1.out.size)
    clear hr1' hr2 hb2 K2 hB1
    go_wp2_with fail
    refine (K4.out _ _ _ hp1.out hp2.out).mono ?_
    rintro e w3 ⟨rfl, hb3⟩
    have hB3 : Hid (Below w.heap.size w w3) := hB2.out.trans (hb3.mono hB2.out.size)
    clear hb3 hB2 hp1 hp2 K4
    go_wp2_with fail
    refine (K3.out _ hB3.out).mono ?_
    rintro e w4 ⟨rfl, hb4⟩
    have hB4 : Hid (Below w.heap.size w w4) := hB3.out.trans (hb4.mono hB3.out.size)
    clear hb4 hB3 K3
    go_wp2
    go_ret
    exact ⟨rfl, hB4.out⟩
  · rw [if_neg h0]
    have hne : (c1 != 0) = true := by rw [bne_iff_ne]; exact h0
    go_enter Tryz.func15, Tryz.ntmps15
    go_wp2_with fail
    refine (K1.out _ (Below.refl _ _)).mono ?_
    rintro e w1 ⟨g1, rfl, hr1, hb1⟩
    have hr1' := hide' hr1
    have hB1 := hide' hb1
    clear hr1 hb1 K1
    go_wp2_with fail
    refine (K2.out _ hB1.out).mono ?_
    rintro e w2 ⟨g2, rfl, hr2, hb2⟩
    have hp1 : Hid (RowI w2 (.slice (some ⟨g1, 0, none⟩) n n) pa) := RowI.of_owns (own_below hr1'.out hb2 (Nat.le_refl _))
    have hp2 : Hid (RowI w2 (.slice (some ⟨g2, 0, none⟩) n n) pb) := RowI.of_owns hr2
    have hB2 : Hid (Below w.heap.size w w2) := hB1.out.trans (hb2.mono hB1.out.size)
    clear hr1' hr2 hb2 K2 hB1
    go_wp2_with fail
    refine (K4.out _ _ _ hp1.out hp2.out).mono ?_
    rintro e w3 ⟨rfl, hb3⟩
    have hB3 : Hid (Below w.heap.size w w3) := hB2.out.trans (hb3.mono hB2.out.size)
    clear hb3 hB2 hp1 hp2 K4 K3
    go_wp2
    go_ret
    exact ⟨rfl, hB3.out⟩
end Go.Proofs.YtlijlelejobchaaGreatDoor.S
namespace Go.Proofs.YtlijlelejobchaaGreatDoor
open Go.RowKit
end Go.Proofs.YtlijlelejobchaaGreatDoor
namespace Go.Proofs.YtlijlelejobchaaGreatDoor.S
open Go.RowKit Go.Shelf
theorem cmpL_at {la lb : List Int} {c : Nat} {x y : Int} (hE : la.take c = lb.take c) (hx : la[c]? = some x) (hy : lb[c]? = some y) (hne : x ≠ y) : I.cmpL la lb = I.cmpI x y := by
  have e1 : la = la.take c ++ x :: la.drop (c + 1) := by
    obtain ⟨h1, h2⟩ := List.getElem?_eq_some_iff.1 hx
    rw [← h2, List.getElem_cons_drop, List.take_append_drop]
  have e2 : lb = lb.take c ++ y :: lb.drop (c + 1) := by
    obtain ⟨h1, h2⟩ := List.getElem?_eq_some_iff.1 hy
    rw [← h2, List.getElem_cons_drop, List.take_append_drop]
  have := I.cmpL_same (la.take c) (x :: la.drop (c + 1)) (y :: lb.drop (c + 1))
  rw [← e1, hE, ← e2] at this
  rw [this]
  show (if I.cmpI x y = 0 then _ else I.cmpI x y) = _
  rw [if_neg (fun e => hne (I.cmpI_zero.1 e))]
theorem cmpL_self (l : List Int) : I.cmpL l l = 0 := by
  have := I.cmpL_same l [] []
  rw [List.append_nil] at this
  rw [this]; rfl
theorem cmpI_neg (x y : Int) : decide (I.cmpI x y < 0) = decide (x < y) := by
  unfold I.cmpI
  by_cases h : x < y
  · rw [if_pos h, decide_eq_true h]; rfl
  · rw [if_neg h, decide_eq_false h]
    split <;> rfl
/-- What it answers at the first place at which two rows are not the same. -/
theorem befB_pat {a b : List Int} {c : Nat} {x y : Int} (hl : a.length = b.length) (h25 : a.length ≤ 25) (hE : (ints (pat a)).take c = (ints (pat b)).take c) (hx : (ints (pat a))[c]? = some x) (hy : (ints (pat b))[c]? = some y) (hne : x ≠ y) : befB a b = decide (x < y) := by
  unfold befB
  rw [if_pos ⟨hl, h25⟩, cmpL_at hE hx hy hne, if_neg (fun e => hne (I.cmpI_zero.1 e)), cmpI_neg]
theorem befB_row {a b : List Int} {c : Nat} {x y : Int} (hl : a.length = b.length) (h25 : a.length ≤ 25) (hp : ints (pat a) = ints (pat b)) (hE : a.take c = b.take c) (hx : a[c]? = some x) (hy : b[c]? = some y) (hne : x ≠ y) : befB a b = decide (x < y) := by
  unfold befB
  rw [if_pos ⟨hl, h25⟩, hp, cmpL_self, if_pos rfl, cmpL_at hE hx hy hne, cmpI_neg]
theorem befB_same (a : List Int) : befB a a = false := by
  unfold befB
  split
  · rw [cmpL_self, if_pos rfl, cmpL_self]; rfl
  · rfl
theorem take_next {la lb : List Int} {c : Nat} {x : Int} (hE : la.take c = lb.take c) (hx : la[c]? = some x) (hy : lb[c]? = some x) : la.take (c + 1) = lb.take (c + 1) := by
  rw [List.take_add_one, List.take_add_one, hE, hx, hy]
theorem row_cell {W : World} {g n cap : Nat} {L : List Int} {i : Nat} {z : Int} (h : RowI W (.slice (some ⟨g, 0, none⟩) n cap) L) (hz : L[i]? = some z) : W.cell? ⟨g, i, none⟩ = some (.int .i64 z) := by
  obtain ⟨oa, c, e, _, hc⟩ := h
  obtain ⟨g', o', e1, e2⟩ := hc i z hz
  cases e
  cases e1
  rw [Nat.zero_add] at e2
  exact e2
end Go.Proofs.YtlijlelejobchaaGreatDoor.S
namespace Go.Proofs.YtlijlelejobchaaGreatDoor.S
theorem cmpI_anti (x y : Int) : I.cmpI y x = - I.cmpI x y := by
  unfold I.cmpI
  by_cases h1 : x < y
  · rw [if_pos h1, if_neg (by omega), if_pos h1]; rfl
  · by_cases h2 : y < x
    · rw [if_pos h2, if_neg h1, if_pos h2]
    · rw [if_neg h1, if_neg h2, if_neg h2, if_neg h1]; rfl
theorem cmpL_anti : ∀ l m : List Int, I.cmpL m l = - I.cmpL l m
  | [], [] => rfl
  | [], _ :: _ => rfl
  | _ :: _, [] => rfl
  | x :: l, y :: m => by
    show (if I.cmpI y x = 0 then I.cmpL m l else I.cmpI y x) = - (if I.cmpI x y = 0 then I.cmpL l m else I.cmpI x y)
    rw [cmpI_anti x y, cmpL_anti l m]
    by_cases h : I.cmpI x y = 0
    · rw [if_pos h, if_pos (by omega)]
    · rw [if_neg h, if_neg (by omega)]
theorem cmpL_zero : ∀ {l m : List Int}, I.cmpL l m = 0 → l = m
  | [], [], _ => rfl
  | [], _ :: _, h => absurd h (by simp [I.cmpL])
  | _ :: _, [], h => absurd h (by simp [I.cmpL])
  | x :: l, y :: m, h => by
    have h' : (if I.cmpI x y = 0 then I.cmpL l m else I.cmpI x y) = 0 := h
    by_cases q : I.cmpI x y = 0
    · rw [if_pos q] at h'
      rw [I.cmpI_zero.1 q, cmpL_zero h']
    · rw [if_neg q] at h'
      exact absurd h' q
theorem cmpI_lt {x y : Int} : I.cmpI x y < 0 ↔ x < y := by
  unfold I.cmpI
  split
  · omega
  · split <;> omega
theorem cmpL_lt (x : Int) (l : List Int) (y : Int) (m : List Int) : I.cmpL (x :: l) (y :: m) < 0 ↔ x < y ∨ (x = y ∧ I.cmpL l m < 0) := by
  show (if I.cmpI x y = 0 then I.cmpL l m else I.cmpI x y) < 0 ↔ _
  by_cases q : I.cmpI x y = 0
  · have e := I.cmpI_zero.1 q
    rw [if_pos q]
    exact ⟨fun h => .inr ⟨e, h⟩, fun h => by rcases h with h | h; omega; exact h.2⟩
  · have e : x ≠ y := fun e => q (I.cmpI_zero.2 e)
    rw [if_neg q, cmpI_lt]
    exact ⟨fun h => .inl h, fun h => by rcases h with h | h; exact h; exact absurd h.1 e⟩
theorem cmpL_trans : ∀ {l m k : List Int}, I.cmpL l m < 0 → I.cmpL m k < 0 → I.cmpL l k < 0
  | [], _, [], h1, h2 => by
    rename_i m
    cases m with
    | nil => exact absurd h1 (by decide)
    | cons y m => exact absurd h2 (by simp [I.cmpL])
  | [], _, _ :: _, _, _ => by simp [I.cmpL]
  | _ :: _, [], _, h1, _ => absurd h1 (by simp [I.cmpL])
  | _ :: _, _ :: _, [], _, h2 => absurd h2 (by simp [I.cmpL])
  | x :: l, y :: m, z :: k, h1, h2 => by
    rw [cmpL_lt] at h1 h2 ⊢
    rcases h1 with h1 | ⟨rfl, h1⟩
    · rcases h2 with h2 | ⟨rfl, h2⟩
      · exact .inl (by omega)
      · exact .inl h1
    · rcases h2 with h2 | ⟨rfl, h2⟩
      · exact .inl h2
      · exact .inr ⟨rfl, cmpL_trans h1 h2⟩
theorem befB_iff (a b : List Int) : befB a b = true ↔ (a.length = b.length ∧ a.length ≤ 25) ∧ (I.cmpL (ints (pat a)) (ints (pat b)) < 0 ∨ (ints (pat a) = ints (pat b) ∧ I.cmpL a b < 0)) := by
  unfold befB
  by_cases h : a.length = b.length ∧ a.length ≤ 25
  · rw [if_pos h]
    by_cases q : I.cmpL (ints (pat a)) (ints (pat b)) = 0
    · rw [if_pos q, decide_eq_true_iff]
      exact ⟨fun r => ⟨h, .inr ⟨cmpL_zero q, r⟩⟩, fun r => by rcases r.2 with r | r; omega; exact r.2⟩
    · rw [if_neg q, decide_eq_true_iff]
      exact ⟨fun r => ⟨h, .inl r⟩, fun r => by rcases r.2 with r | r; exact r; rw [r.1, cmpL_self] at q; exact absurd rfl q⟩
  · rw [if_neg h]
    exact ⟨fun r => (Bool.noConfusion r), fun r => absurd r.1 h⟩
/-- Of three. -/
theorem befB_trans {a b c : List Int} (h1 : befB a b = true) (h2 : befB b c = true) : befB a c = true := by
  rw [befB_iff] at h1 h2 ⊢
  obtain ⟨⟨e1, e2⟩, h1⟩ := h1
  obtain ⟨⟨e3, e4⟩, h2⟩ := h2
  refine ⟨⟨by omega, e2⟩, ?_⟩
  rcases h1 with h1 | ⟨e, h1⟩
  · rcases h2 with h2 | ⟨e', h2⟩
    · exact .inl (cmpL_trans h1 h2)
    · exact .inl (e' ▸ h1)
  · rcases h2 with h2 | ⟨e', h2⟩
    · exact .inl (e ▸ h2)
    · exact .inr ⟨e.trans e', cmpL_trans h1 h2⟩
/-- Of two that are not the same: one comes ahead. -/
theorem befB_one {a b : List Int} (hl : a.length = b.length) (h25 : a.length ≤ 25) (hne : a ≠ b) : befB a b ≠ befB b a := by
  have ha := befB_iff a b
  have hb := befB_iff b a
  have k1 := cmpL_anti (ints (pat a)) (ints (pat b))
  have k2 := cmpL_anti a b
  have k3 : I.cmpL a b ≠ 0 := fun e => hne (cmpL_zero e)
  by_cases q : I.cmpL (ints (pat a)) (ints (pat b)) = 0
  · have e := cmpL_zero q
    by_cases r : I.cmpL a b < 0
    · have h1 : befB a b = true := ha.2 ⟨⟨hl, h25⟩, .inr ⟨e, r⟩⟩
      rw [h1]
      intro h2
      rcases (hb.1 h2.symm).2 with h3 | h3 <;> omega
    · have h1 : befB b a = true := hb.2 ⟨⟨hl.symm, by omega⟩, .inr ⟨e.symm, by omega⟩⟩
      rw [h1]
      intro h2
      rcases (ha.1 h2).2 with h3 | h3 <;> omega
  · by_cases r : I.cmpL (ints (pat a)) (ints (pat b)) < 0
    · have h1 : befB a b = true := ha.2 ⟨⟨hl, h25⟩, .inl r⟩
      rw [h1]
      intro h2
      rcases (hb.1 h2.symm).2 with h3 | h3
      · omega
      · rw [h3.1, cmpL_self] at q; exact q rfl
    · have h1 : befB b a = true := hb.2 ⟨⟨hl.symm, by omega⟩, .inl (by omega)⟩
      rw [h1]
      intro h2
      rcases (ha.1 h2).2 with h3 | h3
      · omega
      · rw [h3.1, cmpL_self] at q; exact q rfl
end Go.Proofs.YtlijlelejobchaaGreatDoor.S
namespace Go.Proofs.YtlijlelejobchaaGreatDoor.S
open Go.RowKit Go.Shelf
end Go.Proofs.YtlijlelejobchaaGreatDoor.S
namespace Go.Proofs.YtlijlelejobchaaGreatDoor.S
open Go.RowKit Go.Shelf
def qF (u : Int) (a b c : Value) : Nat → Value := fun i => if i = 0 then .int .i64 u else if i = 1 then a else if i = 2 then b else c
def QAt (W : World) (g : Nat) (u : Int) (a b c : Value) : Prop := W.rowIs g 26 4 (qF u a b c)
section
variable {W W' : World} {g : Nat} {u : Int} {a b c : Value}
theorem QAt.lt (h : QAt W g u a b c) : g < W.heap.size := World.rowIs.lt h
theorem QAt.of (h : QAt W g u a b c) (e : W'.heap[g]? = W.heap[g]?) : QAt W' g u a b c := World.rowIs.of_block h e
theorem QAt.c0 (h : QAt W g u a b c) : W.cell? ⟨g, 0, none⟩ = some (.int .i64 u) := World.rowIs.cell h (i := 0) (by decide)
theorem QAt.c1 (h : QAt W g u a b c) : W.cell? ⟨g, 1, none⟩ = some a := World.rowIs.cell h (i := 1) (by decide)
theorem QAt.c2 (h : QAt W g u a b c) : W.cell? ⟨g, 2, none⟩ = some b := World.rowIs.cell h (i := 2) (by decide)
theorem QAt.c3 (h : QAt W g u a b c) : W.cell? ⟨g, 3, none⟩ = some c := World.rowIs.cell h (i := 3) (by decide)
theorem QAt.frz (h : QAt W g u a b c) (i : Nat) : W.frozen? ⟨g, i, none⟩ = false := World.rowIs.frozen h i
theorem QAt.s1 (h : QAt W g u a b c) (v : Value) : QAt (W.setCell ⟨g, 1, none⟩ v) g u v b c :=
  World.rowIs.congr (World.rowIs.set h 1 _) fun i hi => by
    match i, hi with
    | 0, _ => rfl
    | 1, _ => rfl
    | 2, _ => rfl
    | 3, _ => rfl
theorem QAt.s2 (h : QAt W g u a b c) (v : Value) : QAt (W.setCell ⟨g, 2, none⟩ v) g u a v c :=
  World.rowIs.congr (World.rowIs.set h 2 _) fun i hi => by
    match i, hi with
    | 0, _ => rfl
    | 1, _ => rfl
    | 2, _ => rfl
    | 3, _ => rfl
theorem QAt.s3 (h : QAt W g u a b c) (v : Value) : QAt (W.setCell ⟨g, 3, none⟩ v) g u a b v :=
  World.rowIs.congr (World.rowIs.set h 3 _) fun i hi => by
    match i, hi with
    | 0, _ => rfl
    | 1, _ => rfl
    | 2, _ => rfl
    | 3, _ => rfl
theorem QAt.block (h : W.heap[g]? = some (.cells #[.int .i64 u, a, b, c] 26 (0, 0))) : QAt W g u a b c :=
  ⟨_, h, rfl, fun i hi => by
    match i, hi with
    | 0, _ => rfl
    | 1, _ => rfl
    | 2, _ => rfl
    | 3, _ => rfl⟩
end
theorem owns_lowS {W : World} {B B' : Nat} {e : TypeId} {size : Nat} {v : Value} {n : Nat} {xs : List Value} (h : W.ownsRow B e size v n xs) (hB : B' ≤ B) : W.ownsRow B' e size v n xs := by
  refine ⟨h.1, ?_⟩
  rcases h.2 with h | ⟨g, cap, cur, e, h0, h1⟩
  · exact .inl h
  · exact .inr ⟨g, cap, cur, e, Nat.le_trans hB h0, h1⟩
/-- How great a problem may be. -/
structure Pok (P : Pb) : Prop where
  w : P.who.length ≤ 1000
  f : P.fixed.length ≤ 1000
  r : P.rules.length ≤ 1000
  s : ∀ r ∈ P.rules, r.steps.length ≤ 1000
  b : ∀ z ∈ P.who, z < 18446744073709551616
def cellsW (L : List Nat) : List Value := L.map fun z : Nat => Value.int .u64 (z : Int)
theorem RowW.of_owns {W : World} {B : Nat} {v : Value} {L : List Nat} (h : W.ownsRow B 55 1 v L.length (cellsW L)) : RowW W v L := by
  rcases h.2 with ⟨rfl, h0⟩ | ⟨g, cap, cur, rfl, _, _, hcap, _⟩
  · refine ⟨none, 0, by rw [h0], ⟨by omega, fun _ => rfl⟩, fun i z hz => ?_⟩
    have := (List.getElem?_eq_some_iff.1 hz).1
    omega
  · refine ⟨_, cap, rfl, ⟨hcap, fun e => by cases e⟩, fun i z hz => ⟨g, 0, rfl, ?_⟩⟩
    have hi := (List.getElem?_eq_some_iff.1 hz).1
    have := h.cellAt i (by omega)
    rw [Nat.zero_add, this]
    simp [cellsW, hz]
theorem kept_kind {W w2 : World} {B B' : Nat} {e e' : TypeId} {size size' : Nat} {v v' : Value} {n n' : Nat} {xs xs' : List Value} (h : W.ownsRow B e size v n xs) (h' : W.ownsRow B' e' size' v' n' xs') (hne : e ≠ e') (hg : W.grownBy w2 v'.ownBlock) : w2.ownsRow B e size v n xs := by
  refine h.kept hg ?_
  cases hv : v.ownBlock with
  | none => exact .inl rfl
  | some k =>
    refine .inr fun q => ?_
    obtain ⟨c1, f1, h1⟩ := Go.Lib.ownsRow_kind h k hv
    obtain ⟨c2, f2, h2⟩ := Go.Lib.ownsRow_kind h' k q.symm
    rw [h1] at h2
    injection h2 with h2
    injection h2 with _ h2
    exact hne h2
/-- A problem that is being made: what lies in its box (ba, bb, bc), and the rows themselves (va, vb, vc). -/
structure Rq (w : World) (P : Pb) (wv fv rv : Value) (W : World) (ba bb bc va vb vc : Value) (L1 : List Nat) (L2 : List Int) (E : List (Rl × Value)) : Prop where
  pb : PbB W w.heap.size P wv fv rv
  zb : QAt W (w.heap.size + 1) 0 (.slice none 0 0) (.slice none 0 0) (.slice none 0 0)
  qb : QAt W (w.heap.size + 1 + 1) P.users ba bb bc
  r1 : W.ownsRow (w.heap.size + 3) 55 1 va L1.length (cellsW L1)
  r2 : W.ownsRow (w.heap.size + 3) 3 1 vb L2.length (cellsI L2)
  r3 : TwS (w.heap.size + 3) W vc E
  sz : w.heap.size + 3 ≤ W.heap.size
  be : Below w.heap.size w W
section
variable {w : World} {P : Pb} {wv fv rv : Value} {W W' : World} {ba bb bc va vb vc : Value} {L1 : List Nat} {L2 : List Int} {E : List (Rl × Value)}
theorem Rq.over (h : Rq w P wv fv rv W ba bb bc va vb vc L1 L2 E) (hb : Below W.heap.size W W') : Rq w P wv fv rv W' ba bb bc va vb vc L1 L2 E :=
  ⟨h.pb.below hb, h.zb.of (hb.block _ h.zb.lt), h.qb.of (hb.block _ h.qb.lt), own_below h.r1 hb (Nat.le_refl _), own_below h.r2 hb (Nat.le_refl _), h.r3.below hb (Nat.le_refl _), Nat.le_trans h.sz hb.size, h.be.trans (hb.mono h.be.size)⟩
theorem own_set {B : Nat} {e : TypeId} {size : Nat} {v : Value} {n : Nat} {xs : List Value} (h : W.ownsRow B e size v n xs) {g o : Nat} (hg : g < B) (u : Value) : (W.setCell ⟨g, o, none⟩ u).ownsRow B e size v n xs :=
  own_same h fun k _ hk => Below.heap_setCell W ⟨g, o, none⟩ u k (by have := own_ge' h hk; show k ≠ g; omega)
theorem Rq.put (h : Rq w P wv fv rv W ba bb bc va vb vc L1 L2 E) {o : Nat} {u : Value} {ba' bb' bc' : Value} (hq : QAt (W.setCell ⟨w.heap.size + 1 + 1, o, none⟩ u) (w.heap.size + 1 + 1) P.users ba' bb' bc') : Rq w P wv fv rv (W.setCell ⟨w.heap.size + 1 + 1, o, none⟩ u) ba' bb' bc' va vb vc L1 L2 E :=
  ⟨(Below.heap_setCell W ⟨w.heap.size + 1 + 1, o, none⟩ u _ (by show w.heap.size ≠ w.heap.size + 1 + 1; omega)).trans h.pb, h.zb.of (Below.heap_setCell W ⟨w.heap.size + 1 + 1, o, none⟩ u _ (by show w.heap.size + 1 ≠ w.heap.size + 1 + 1; omega)), hq, own_set h.r1 (by omega) u, own_set h.r2 (by omega) u, ⟨own_set h.r3.row (by omega) u, fun p hp => own_set (h.r3.inner p hp) (by omega) u⟩, by simpa [World.setCell] using h.sz, h.be.setCell (by show w.heap.size ≤ w.heap.size + 1 + 1; omega) u⟩
theorem Rq.grow (h : Rq w P wv fv rv W ba bb bc va vb vc L1 L2 E) {ob : Obj} {k : Option Nat} (hk : ∀ j, k = some j → w.heap.size + 3 ≤ j) (hg : (W.alloc ob).grownBy W' k) : Below (w.heap.size + 3) W W' :=
  ((Below.refl _ W).alloc h.sz ob).grown hg (by have := h.sz; simp; omega) hk
theorem Rq.boxes (h : Rq w P wv fv rv W ba bb bc va vb vc L1 L2 E) (hb : Below (w.heap.size + 3) W W') : PbB W' w.heap.size P wv fv rv ∧ QAt W' (w.heap.size + 1) 0 (.slice none 0 0) (.slice none 0 0) (.slice none 0 0) ∧ QAt W' (w.heap.size + 1 + 1) P.users ba bb bc ∧ w.heap.size + 3 ≤ W'.heap.size ∧ Below w.heap.size w W' :=
  ⟨(hb.block _ (by omega)).trans h.pb, h.zb.of (hb.block _ (by omega)), h.qb.of (hb.block _ (by omega)), Nat.le_trans h.sz hb.size, h.be.trans (hb.mono (by omega))⟩
theorem infoW : (Tryz.prog.info? 55).map (fun i => (i.zero, i.size, i.bytes)) = some (some (.int .u64 0), 1, 8) := by kernel_rfl
variable {ops : Array Oper} {rest : List Oper} {o : Oper} {a : Act} {Q : Exit → Act → World → Prop} {K : Act → World → Prop}
/-- A word more. -/
theorem Rq.wapp1 (s x : Operand) (h : Rq w P wv fv rv W ba bb bc va vb (.slice none 0 0) L1 L2 []) (z : Nat) (ho : o.op = .call { callee := .builtin .append, args := #[s, x], argTypes := #[22, 22] })
    (es : a.eval s = va) (ex : a.eval x = .slice (some ⟨W.heap.size, 0, none⟩) 1 1) (hn : L1.length ≤ 1000000)
    (hK : ∀ o5 n5 c5 w2, Rq w P wv fv rv w2 ba bb bc (.slice o5 n5 c5) vb (.slice none 0 0) (L1 ++ [z]) L2 [] → K (a.put o.dst (.slice o5 n5 c5)) w2) : o.wp Tryz.prog a (W.alloc (.cells #[.int .u64 (z : Int)] 55)) K Q := by
  obtain ⟨i0, hi, hz0, hz1, hz2⟩ := info_parts infoW
  refine wp_append_own _ s x 22 ho (w.heap.size + 3) 55 i0 (.int .u64 0) 1 8 Tryz.underlying22 hi hz0 hz1 hz2 rfl (by decide) va L1.length (cellsW L1) es (h.r1.alloc _) ⟨W.heap.size, 0, none⟩ 1 1 [.int .u64 (z : Int)] ex rfl (World.news_of_block (cs := #[.int .u64 (z : Int)]) (heap_new _ _)) (by simp [Value.oneCell']) (by unfold maxLen; omega) (by omega) (by have := h.sz; simp; omega) ?_
  intro v2 w2 hown hgrow _
  obtain ⟨o5, c5, rfl⟩ := own_shp hown
  obtain ⟨k1, k2, k3, k4, k5⟩ := h.boxes (h.grow (fun j ej => own_ge' h.r1 ej) hgrow)
  refine hK o5 _ c5 w2 ⟨k1, k2, k3, ?_, kept_kind (h.r2.alloc _) (h.r1.alloc _) (by decide) hgrow, TwS.nil _ _, k4, k5⟩
  rw [show cellsW (L1 ++ [z]) = cellsW L1 ++ [.int .u64 (z : Int)] by simp [cellsW], List.length_append]
  exact hown
theorem Rq.app1 (hgd : o.guard = none) (s x : Operand) (h : Rq w P wv fv rv W ba bb bc va vb (.slice none 0 0) L1 L2 []) (z : Nat) (ho : o.op = .call { callee := .builtin .append, args := #[s, x], argTypes := #[22, 22] })
    (es : a.eval s = va) (ex : a.eval x = .slice (some ⟨W.heap.size, 0, none⟩) 1 1) (hn : L1.length ≤ 1000000)
    (hK : ∀ o5 n5 c5 w2, Rq w P wv fv rv w2 ba bb bc (.slice o5 n5 c5) vb (.slice none 0 0) (L1 ++ [z]) L2 [] → wpList Tryz.prog ops Q rest (a.put o.dst (.slice o5 n5 c5)) w2) : wpList Tryz.prog ops Q (o :: rest) a (W.alloc (.cells #[.int .u64 (z : Int)] 55)) :=
  wpList_plain hgd fun _ hK' => Rq.wapp1 s x h z ho es ex hn fun o5 n5 c5 w2 h1 => hK' _ _ (hK o5 n5 c5 w2 h1)
/-- A user more. -/
theorem Rq.wapp2 (s x : Operand) (h : Rq w P wv fv rv W ba bb bc va vb (.slice none 0 0) L1 L2 []) (z : Int) (ho : o.op = .call { callee := .builtin .append, args := #[s, x], argTypes := #[23, 23] })
    (es : a.eval s = vb) (ex : a.eval x = .slice (some ⟨W.heap.size, 0, none⟩) 1 1) (hn : L2.length ≤ 1000000)
    (hK : ∀ o5 n5 c5 w2, Rq w P wv fv rv w2 ba bb bc va (.slice o5 n5 c5) (.slice none 0 0) L1 (L2 ++ [z]) [] → K (a.put o.dst (.slice o5 n5 c5)) w2) : o.wp Tryz.prog a (W.alloc (.cells #[.int .i64 z] 3)) K Q := by
  obtain ⟨i0, hi, hz0, hz1, hz2⟩ := info_parts info3
  refine wp_append_own _ s x 23 ho (w.heap.size + 3) 3 i0 (.int .i64 0) 1 8 Tryz.underlying23 hi hz0 hz1 hz2 rfl (by decide) vb L2.length (cellsI L2) es (h.r2.alloc _) ⟨W.heap.size, 0, none⟩ 1 1 [.int .i64 z] ex rfl (World.news_of_block (cs := #[.int .i64 z]) (heap_new _ _)) (by simp [Value.oneCell']) (by unfold maxLen; omega) (by omega) (by have := h.sz; simp; omega) ?_
  intro v2 w2 hown hgrow _
  obtain ⟨o5, c5, rfl⟩ := own_shp hown
  obtain ⟨k1, k2, k3, k4, k5⟩ := h.boxes (h.grow (fun j ej => own_ge' h.r2 ej) hgrow)
  refine hK o5 _ c5 w2 ⟨k1, k2, k3, kept_kind (h.r1.alloc _) (h.r2.alloc _) (by decide) hgrow, ?_, TwS.nil _ _, k4, k5⟩
  rw [show cellsI (L2 ++ [z]) = cellsI L2 ++ [.int .i64 z] by simp [cellsI], List.length_append]
  exact hown
theorem Rq.app2 (hgd : o.guard = none) (s x : Operand) (h : Rq w P wv fv rv W ba bb bc va vb (.slice none 0 0) L1 L2 []) (z : Int) (ho : o.op = .call { callee := .builtin .append, args := #[s, x], argTypes := #[23, 23] })
    (es : a.eval s = vb) (ex : a.eval x = .slice (some ⟨W.heap.size, 0, none⟩) 1 1) (hn : L2.length ≤ 1000000)
    (hK : ∀ o5 n5 c5 w2, Rq w P wv fv rv w2 ba bb bc va (.slice o5 n5 c5) (.slice none 0 0) L1 (L2 ++ [z]) [] → wpList Tryz.prog ops Q rest (a.put o.dst (.slice o5 n5 c5)) w2) : wpList Tryz.prog ops Q (o :: rest) a (W.alloc (.cells #[.int .i64 z] 3)) :=
  wpList_plain hgd fun _ hK' => Rq.wapp2 s x h z ho es ex hn fun o5 n5 c5 w2 h1 => hK' _ _ (hK o5 n5 c5 w2 h1)
/-- A rule more, whose steps are new memory. -/
theorem Rq.wapp3 (s x : Operand) (h : Rq w P wv fv rv W ba bb bc va vb vc L1 L2 E) (p : Rl × Value) (ho : o.op = .call { callee := .builtin .append, args := #[s, x], argTypes := #[24, 24] })
    (es : a.eval s = vc) (ex : a.eval x = .slice (some ⟨W.heap.size, 0, none⟩) 1 1) (hp : W.ownsRow (w.heap.size + 3) 3 1 p.2 p.1.steps.length (cellsI p.1.steps)) (hn : E.length ≤ 1000000)
    (hK : ∀ o5 n5 c5 w2, Rq w P wv fv rv w2 ba bb bc va vb (.slice o5 n5 c5) L1 L2 (E ++ [p]) → K (a.put o.dst (.slice o5 n5 c5)) w2) : o.wp Tryz.prog a (W.alloc (.cells #[.int .i64 p.1.kind, .int .i64 p.1.k, p.2] 44)) K Q := by
  obtain ⟨i0, hi, hz0, hz1, hz2⟩ := info_parts infoR
  have hT1 : TwS (w.heap.size + 3) (W.alloc (.cells #[.int .i64 p.1.kind, .int .i64 p.1.k, p.2] 44)) vc E := ⟨h.r3.row.alloc _, fun q hq => (h.r3.inner q hq).alloc _⟩
  have hne : ∀ g, vc.ownBlock = some g → p.2.ownBlock ≠ some g := fun g hg e => by
    obtain ⟨c1, f1, h1⟩ := Go.Lib.ownsRow_kind hp g e
    obtain ⟨c2, f2, h2⟩ := Go.Lib.ownsRow_kind h.r3.row g hg
    rw [h1] at h2
    simp at h2
  refine wp_append_own _ s x 24 ho (w.heap.size + 3) 44 i0 (.agg #[.int .i64 0, .int .i64 0, .slice none 0 0]) 3 40 Tryz.underlying24 hi hz0 hz1 hz2 rfl (by decide) vc E.length (cellsR E) es hT1.row ⟨W.heap.size, 0, none⟩ 1 1 (rcells p) ex rfl (World.news_of_block (cs := #[.int .i64 p.1.kind, .int .i64 p.1.k, p.2]) (heap_new _ _)) (rcells_one p (own_one hp)) (by unfold maxLen; omega) (by omega) (by have := h.sz; simp; omega) ?_
  intro v2 w2 hown hgrow _
  obtain ⟨o5, c5, rfl⟩ := own_shp hown
  obtain ⟨k1, k2, k3, k4, k5⟩ := h.boxes (h.grow (fun j ej => own_ge' h.r3.row ej) hgrow)
  exact hK o5 _ c5 w2 ⟨k1, k2, k3, kept_kind (h.r1.alloc _) hT1.row (by decide) hgrow, kept_kind (h.r2.alloc _) hT1.row (by decide) hgrow, hT1.push p (hp.alloc _) hne hown hgrow, k4, k5⟩
theorem Rq.app3 (hgd : o.guard = none) (s x : Operand) (h : Rq w P wv fv rv W ba bb bc va vb vc L1 L2 E) (p : Rl × Value) (ho : o.op = .call { callee := .builtin .append, args := #[s, x], argTypes := #[24, 24] })
    (es : a.eval s = vc) (ex : a.eval x = .slice (some ⟨W.heap.size, 0, none⟩) 1 1) (hp : W.ownsRow (w.heap.size + 3) 3 1 p.2 p.1.steps.length (cellsI p.1.steps)) (hn : E.length ≤ 1000000)
    (hK : ∀ o5 n5 c5 w2, Rq w P wv fv rv w2 ba bb bc va vb (.slice o5 n5 c5) L1 L2 (E ++ [p]) → wpList Tryz.prog ops Q rest (a.put o.dst (.slice o5 n5 c5)) w2) : wpList Tryz.prog ops Q (o :: rest) a (W.alloc (.cells #[.int .i64 p.1.kind, .int .i64 p.1.k, p.2] 44)) :=
  wpList_plain hgd fun _ hK' => Rq.wapp3 s x h p ho es ex hp hn fun o5 n5 c5 w2 h1 => hK' _ _ (hK o5 n5 c5 w2 h1)
end
theorem Rq.start (w : World) (P : Pb) (wv fv rv : Value) : Rq w P wv fv rv (((w.alloc (.cells #[.int .i64 P.users, wv, fv, rv] 26)).alloc (.cells #[.int .i64 0, .slice none 0 0, .slice none 0 0, .slice none 0 0] 26)).alloc (.cells #[.int .i64 P.users, .slice none 0 0, .slice none 0 0, .slice none 0 0] 26)) (.slice none 0 0) (.slice none 0 0) (.slice none 0 0) (.slice none 0 0) (.slice none 0 0) (.slice none 0 0) [] [] [] := by
  have n1 := heap_new w (.cells #[.int .i64 P.users, wv, fv, rv] 26)
  have b0 : Below w.heap.size w (w.alloc (.cells #[.int .i64 P.users, wv, fv, rv] 26)) := (Below.refl _ w).alloc (Nat.le_refl _) _
  have s1 : (w.alloc (.cells #[.int .i64 P.users, wv, fv, rv] 26)).heap.size = w.heap.size + 1 := by simp
  generalize w.alloc (.cells #[.int .i64 P.users, wv, fv, rv] 26) = V1 at *
  have n2 := heap_new V1 (.cells #[.int .i64 0, .slice none 0 0, .slice none 0 0, .slice none 0 0] 26)
  have b1 : Below V1.heap.size V1 (V1.alloc (.cells #[.int .i64 0, .slice none 0 0, .slice none 0 0, .slice none 0 0] 26)) := (Below.refl _ V1).alloc (Nat.le_refl _) _
  have s2 : (V1.alloc (.cells #[.int .i64 0, .slice none 0 0, .slice none 0 0, .slice none 0 0] 26)).heap.size = w.heap.size + 1 + 1 := by simp [s1]
  rw [s1] at n2
  generalize V1.alloc (.cells #[.int .i64 0, .slice none 0 0, .slice none 0 0, .slice none 0 0] 26) = V2 at *
  have n3 := heap_new V2 (.cells #[.int .i64 P.users, .slice none 0 0, .slice none 0 0, .slice none 0 0] 26)
  have b2 : Below V2.heap.size V2 (V2.alloc (.cells #[.int .i64 P.users, .slice none 0 0, .slice none 0 0, .slice none 0 0] 26)) := (Below.refl _ V2).alloc (Nat.le_refl _) _
  rw [s2] at n3
  refine ⟨(b2.block _ (by omega)).trans ((b1.block _ (by omega)).trans n1), QAt.block ((b2.block _ (by omega)).trans n2), QAt.block n3, World.ownsRow_nil _ _ _ _, World.ownsRow_nil _ _ _ _, TwS.nil _ _, by simp [s2], (b0.trans (b1.mono b0.size)).trans (b2.mono (by omega))⟩
end Go.Proofs.YtlijlelejobchaaGreatDoor.S
namespace Go.Proofs.YtlijlelejobchaaGreatDoor.S
open Go.RowKit Go.Shelf
def reW (P : Pb) (O : List Nat) : List Nat := O.map fun t => P.who.getD t 0
def reF (P : Pb) (O : List Nat) : List Int := O.map fun t => P.fixed.getD t 0
def reR (O : List Nat) (r : Rl) : Rl := { r with steps := movN r.steps (ints O) }
theorem re_take {α : Type} (f : Nat → α) {O : List Nat} {j t : Nat} (h : O[j]? = some t) : (O.take (j + 1)).map f = (O.take j).map f ++ [f t] := by
  rw [List.take_add_one, h]; simp
set_option maxRecDepth 100000 in
set_option maxHeartbeats 4000000 in
theorem reorderedF (P : Pb) (wv fv rv : Value) (O : List Nat) (ov : Value) (w : World) (h : PbV w P wv fv rv) (hO : RowI w ov (ints O)) (hl : O.length ≤ 1000) (hlr : P.rules.length ≤ 1000) (hm : ∀ r ∈ P.rules, r.steps.length ≤ 1000) (hw : ∀ t ∈ O, t < P.who.length ∧ t < P.fixed.length) :
    Calls Tryz.prog 27 #[pbV P wv fv rv, ov] w fun e w' => ∃ va vb vc, e = .returned (.agg #[.int .i64 P.users, va, vb, vc]) ∧ PbV w' ⟨P.users, reW P O, reF P O, P.rules.map (reR O)⟩ va vb vc ∧ Below w.heap.size w w' := by
  have hs := h.shape
  have h' := hide' h
  have hO' := hide' hO
  have hw' := hide' hw
  have hm' := hide' hm
  obtain ⟨ow, cw, of, cf, or, cr, rfl, rfl, rfl⟩ := hs
  obtain ⟨oo, co, rfl, _, hc⟩ := hO
  have hoc := hide' hc
  have hln : (ints O).length = O.length := ints_len O
  rw [hln]
  rw [hln] at hO'
  unfold pbV
  have hst := hide' (Rq.start w P (.slice ow P.who.length cw) (.slice of P.fixed.length cf) (.slice or P.rules.length cr))
  clear h hw hm hc hln
  go_enter Tryz.func27, Tryz.ntmps27
  go_wp2
  go_loopw [7, 15] (fun _ p wr => ∃ (j : Nat) (va vb : Value), j ≤ O.length ∧ p = .int .i64 (j : Int) ∧ Hid (Rq w P (.slice ow P.who.length cw) (.slice of P.fixed.length cf) (.slice or P.rules.length cr) wr va vb (.slice none 0 0) va vb (.slice none 0 0) (reW P (O.take j)) (reF P (O.take j)) [])) (fun _ p _ => ((O.length : Int) - intOf p).toNat)
  case atStart => exact ⟨0, _, _, Nat.zero_le _, rfl, hst⟩
  case round =>
    clear hst
    obtain ⟨j, va, vb, hj, rfl, hR⟩ := hrel
    by_cases hlt : j < O.length
    · have hlt' : (j : Int) < (O.length : Int) := by omega
      obtain ⟨t, ht⟩ : ∃ t, O[j]? = some t := ⟨_, List.getElem?_eq_getElem hlt⟩
      have htl := hw'.out t (List.mem_of_getElem? ht)
      have htw : (t : Int) < (P.who.length : Int) := by omega
      have htf : (t : Int) < (P.fixed.length : Int) := by omega
      obtain ⟨z, hz⟩ : ∃ z, P.who[t]? = some z := ⟨_, List.getElem?_eq_getElem htl.1⟩
      obtain ⟨y, hy⟩ : ∃ y, P.fixed[t]? = some y := ⟨_, List.getElem?_eq_getElem htl.2⟩
      obtain ⟨oa1, ca1, e1, _, hcw⟩ := h'.out.who
      obtain ⟨oa2, ca2, e2, _, hcf⟩ := h'.out.fixed
      cases e1
      cases e2
      obtain ⟨g1, o1, rfl, d1⟩ := hcw t z hz
      obtain ⟨g2, o2, rfl, d2⟩ := hcf t y hy
      obtain ⟨g3, o3, rfl, d3⟩ := hoc.out j (t : Int) (by simp [ints, ht])
      have hb := hide' hR.out.be
      have c1 := M.cell_over d1 hb.out
      have c3 := M.cell_over d3 hb.out
      have p1 := hR.out.pb.c1
      have q1 := hR.out.qb.c1
      have f1 := hR.out.qb.frz 1
      have hlen : (reW P (O.take j)).length ≤ 1000 ∧ (reF P (O.take j)).length ≤ 1000 := by
        unfold reW reF
        rw [List.length_map, List.length_map, List.length_take]
        omega
      obtain ⟨oa, ca, rfl⟩ := own_shp hR.out.r1
      obtain ⟨ob, cb, rfl⟩ := own_shp hR.out.r2
      generalize hLa : reW P (O.take j) = La at *
      generalize hLb : reF P (O.take j) = Lb at *
      have hRd := hide' (hR.out.over (Below.refl _ wr).drew)
      clear hR hw' hm' hoc h'
      have c2 : Hid (∀ V, Below w.heap.size w V → V.cell? ⟨g2, o2 + t, none⟩ = some (.int .i64 y)) := fun V hV => M.cell_over d2 hV
      have c1' : Hid (∀ V, Below w.heap.size w V → V.cell? ⟨g1, o1 + t, none⟩ = some (.int .u64 (z : Int))) := fun V hV => M.cell_over d1 hV
      have hLa2 : Hid (La ++ [z] = reW P (O.take (j + 1))) := by
        show _ = _
        rw [← hLa]; unfold reW; rw [re_take _ ht]; simp [List.getD_eq_getElem?_getD, hz]
      have hLb2 : Hid (Lb ++ [y] = reF P (O.take (j + 1))) := by
        show _ = _
        rw [← hLb]; unfold reF; rw [re_take _ ht]; simp [List.getD_eq_getElem?_getD, hy]
      have ht0 : ¬ (t : Int) < 0 := by omega
      clear hLa hLb hz hy ht d1 d2 d3 hcw hcf hb c1 p1 q1 f1
      have hq1 := hRd.out.qb.c1
      have hq2 : ∀ o, (wr.alloc o).cell? ⟨w.heap.size + 1 + 1, 1, none⟩ = some (.slice oa La.length ca) := fun o => (hRd.out.over ((Below.refl _ wr.drew).alloc (Nat.le_refl _) o)).qb.c1
      go_upto_region 5 with fail
      refine wp_region_held_drew (S := (fun V => V.cell? ⟨w.heap.size, 1, none⟩ = some (.slice (some ⟨g1, o1, none⟩) P.who.length cw) ∧ V.cell? ⟨g1, o1 + t, none⟩ = some (.int .u64 (z : Int)))) (by kernel_rfl) ?_ (fun hHeld => ?_)
      · exact ⟨hRd.out.pb.c1, c1'.out _ hRd.out.be⟩
      refine wpAnyH_take (i := 0) (oi := { dst := some 19, op := Op.fieldAddr 26 (Operand.tmp 5) 1, type := 0, pos := "order.go:27", after := #[], guard := none }) (v := ?_) rfl (by kernel_rfl) (by kernel_rfl) (by kernel_rfl) (fun _ _ _ h => h) (Or.inl ⟨by rfl, ?_⟩) (by assumption) ?_
      rotate_left
      · intro w hSw; (try dsimp only at hSw); go_simp <;> with_reducible rfl
      simp only [Act.put, List.setIfInBounds_toArray, List.set_cons_zero, List.set_cons_succ]
      refine wpAnyH_take (i := 2) (oi := { dst := some 21, op := Op.fieldAddr 26 (Operand.tmp 2) 1, type := 0, pos := "order.go:27", after := #[], guard := none }) (v := ?_) rfl (by kernel_rfl) (by kernel_rfl) (by kernel_rfl) (fun _ _ _ h => h) (Or.inl ⟨by rfl, ?_⟩) (by assumption) ?_
      rotate_left
      · intro w hSw; (try dsimp only at hSw); go_simp <;> with_reducible rfl
      simp only [Act.put, List.setIfInBounds_toArray, List.set_cons_zero, List.set_cons_succ]
      refine wpAnyH_take (i := 3) (oi := { dst := some 22, op := Op.load 22 (Operand.tmp 21), type := 22, pos := "order.go:27", after := #[{ on := 2, ground := Ground.data }], guard := none }) (v := ?_) rfl (by kernel_rfl) (by kernel_rfl) (by kernel_rfl) (fun _ _ _ h => h) (Or.inl ⟨by rfl, ?_⟩) (by assumption) ?_
      rotate_left
      · intro w hSw; (try dsimp only at hSw); go_simp <;> with_reducible rfl
      simp only [Act.put, List.setIfInBounds_toArray, List.set_cons_zero, List.set_cons_succ]
      refine wpAnyH_take (i := 4) (oi := { dst := some 23, op := Op.move (Operand.tmp 7), type := 3, pos := "order.go:27", after := #[], guard := none }) (v := ?_) rfl (by kernel_rfl) (by kernel_rfl) (by kernel_rfl) (fun _ _ _ h => h) (Or.inl ⟨by rfl, ?_⟩) (by assumption) ?_
      rotate_left
      · intro w hSw; (try dsimp only at hSw); go_simp <;> with_reducible rfl
      simp only [Act.put, List.setIfInBounds_toArray, List.set_cons_zero, List.set_cons_succ]
      refine wpAnyH_take (i := 5) (oi := { dst := some 24, op := Op.indexAddr 22 (Operand.tmp 22) (Operand.tmp 23), type := 0, pos := "order.go:27", after := #[{ on := 3, ground := Ground.data }, { on := 4, ground := Ground.data }], guard := none }) (v := ?_) rfl (by kernel_rfl) (by kernel_rfl) (by kernel_rfl) (fun _ _ _ h => h) (Or.inl ⟨by rfl, ?_⟩) (by assumption) ?_
      rotate_left
      · intro w hSw; (try dsimp only at hSw); go_simp <;> with_reducible rfl
      simp only [Act.put, List.setIfInBounds_toArray, List.set_cons_zero, List.set_cons_succ]
      refine wpAnyH_take (i := 6) (oi := { dst := some 25, op := Op.load 55 (Operand.tmp 24), type := 55, pos := "order.go:27", after := #[{ on := 5, ground := Ground.data }], guard := none }) (v := ?_) rfl (by kernel_rfl) (by kernel_rfl) (by kernel_rfl) (fun _ _ _ h => h) (Or.inl ⟨by rfl, ?_⟩) (by assumption) ?_
      rotate_left
      · intro w hSw; (try dsimp only at hSw); go_simp <;> with_reducible rfl
      simp only [Act.put, List.setIfInBounds_toArray, List.set_cons_zero, List.set_cons_succ]
      refine wpAnyH_ready (rs := [1, 7]) (by kernel_rfl) (by simp) ?_
      refine AllReadyH.cons (o := { dst := some 20, op := Op.load 22 (Operand.tmp 19), type := 22, pos := "order.go:27", after := #[{ on := 0, ground := Ground.data }], guard := none }) rfl (fun K hK => ?_) ?_
      · skip
        go_simp
        refine hK.out _ _ ?_ (fun hHeld => ?_)
        · exact ⟨hRd.out.pb.c1, c1'.out _ hRd.out.be⟩
        clear hK K
        try simp only [Act.put, List.setIfInBounds_toArray, List.set_cons_zero, List.set_cons_succ]
        refine wpAnyH_ready (rs := [7]) (by kernel_rfl) (by simp) ?_
        refine AllReadyH.cons (o := { dst := some 26, op := Op.buildSlice 22 1 #[(0, Operand.tmp 25)], type := 22, pos := "order.go:27", after := #[{ on := 6, ground := Ground.data }], guard := none }) rfl (fun K hK => ?_) AllReadyH.nil
        go_simp
        refine hK.out _ _ ?_ (fun hHeld => ?_)
        · exact ⟨(hRd.out.over ((Below.refl _ _).alloc (Nat.le_refl _) _)).pb.c1, c1'.out _ (hRd.out.over ((Below.refl _ _).alloc (Nat.le_refl _) _)).be⟩
        clear hK K
        try simp only [Act.put, List.setIfInBounds_toArray, List.set_cons_zero, List.set_cons_succ]
        refine wpAnyH_ready (rs := [8]) (by kernel_rfl) (by simp) ?_
        refine AllReadyH.cons (o := { dst := some 27, op := Op.call { callee := Callee.builtin Builtin.append, args := #[Operand.tmp 20, Operand.tmp 26], argTypes := #[22, 22] }, type := 22, pos := "order.go:27", after := #[{ on := 1, ground := Ground.data }, { on := 7, ground := Ground.data }], guard := none }) rfl (fun K hK => ?_) AllReadyH.nil
        rw [if_pos (by rfl)]
        refine Rq.wapp1 (.tmp 20) (.tmp 26) hRd.out z rfl rfl rfl (by omega) ?_; intro o5 n5 c5 w2 hRdx; have q2 := hRdx.qb.c1; have f2 := hRdx.qb.frz 1; (try dsimp only)
        refine hK.out _ _ ?_ (fun hHeld => ?_)
        · exact ⟨hRdx.pb.c1, c1'.out _ hRdx.be⟩
        clear hK K
        try simp only [Act.put, List.setIfInBounds_toArray, List.set_cons_zero, List.set_cons_succ]
        refine wpAnyH_take (i := 9) (oi := { dst := some 28, op := Op.fieldAddr 26 (Operand.tmp 5) 1, type := 0, pos := "order.go:27", after := #[{ on := 0, ground := Ground.phase }, { on := 1, ground := Ground.phase }, { on := 2, ground := Ground.phase }, { on := 3, ground := Ground.phase }, { on := 4, ground := Ground.phase }, { on := 5, ground := Ground.phase }, { on := 6, ground := Ground.phase }, { on := 7, ground := Ground.phase }, { on := 8, ground := Ground.phase }], guard := none }) (v := ?_) rfl (by kernel_rfl) (by kernel_rfl) (by kernel_rfl) (fun _ _ _ h => h) (Or.inl ⟨by rfl, ?_⟩) (by assumption) ?_
        rotate_left
        · intro w hSw; (try dsimp only at hSw); go_simp <;> with_reducible rfl
        simp only [Act.put, List.setIfInBounds_toArray, List.set_cons_zero, List.set_cons_succ]
        refine wpAnyH_ready (rs := [10]) (by kernel_rfl) (by simp) ?_
        refine AllReadyH.cons (o := { dst := none, op := Op.store 22 (Operand.tmp 28) (Operand.tmp 27), type := 0, pos := "order.go:27", after := #[{ on := 9, ground := Ground.data }, { on := 8, ground := Ground.data }, { on := 8, ground := Ground.chain }, { on := 0, ground := Ground.phase }, { on := 1, ground := Ground.phase }, { on := 2, ground := Ground.phase }, { on := 3, ground := Ground.phase }, { on := 4, ground := Ground.phase }, { on := 5, ground := Ground.phase }, { on := 6, ground := Ground.phase }, { on := 7, ground := Ground.phase }, { on := 8, ground := Ground.phase }], guard := none }) rfl (fun K hK => ?_) AllReadyH.nil
        go_simp
        refine hK.out _ _ ?_ (fun hHeld => ?_)
        · exact ⟨(hRdx.put (hRdx.qb.s1 (.slice o5 n5 c5))).pb.c1, c1'.out _ (hRdx.put (hRdx.qb.s1 (.slice o5 n5 c5))).be⟩
        clear hK K
        try simp only [Act.put, List.setIfInBounds_toArray, List.set_cons_zero, List.set_cons_succ]
        refine wpAnyH_done (by kernel_rfl) ?_ _
        skip
        have hR3d := hide' ((hRdx.put (hRdx.qb.s1 (.slice o5 n5 c5))).over (Below.refl _ _).drew)
        clear hRdx hRd q2 f2 hq1 hq2
        generalize w2.setCell ⟨w.heap.size + 1 + 1, 1, none⟩ (.slice o5 n5 c5) = w3 at *
        have hq1 := hR3d.out.qb.c2
        have hq2 : ∀ o, (w3.alloc o).cell? ⟨w.heap.size + 1 + 1, 2, none⟩ = some (.slice ob Lb.length cb) := fun o => (hR3d.out.over ((Below.refl _ w3.drew).alloc (Nat.le_refl _) o)).qb.c2
        go_upto_region 6 with fail
        refine wp_region_held_drew (S := (fun V => V.cell? ⟨w.heap.size, 2, none⟩ = some (.slice (some ⟨g2, o2, none⟩) P.fixed.length cf) ∧ V.cell? ⟨g2, o2 + t, none⟩ = some (.int .i64 y))) (by kernel_rfl) ?_ (fun hHeld => ?_)
        · exact ⟨hR3d.out.pb.c2, c2.out _ hR3d.out.be⟩
        refine wpAnyH_take (i := 0) (oi := { dst := some 29, op := Op.fieldAddr 26 (Operand.tmp 5) 2, type := 0, pos := "order.go:28", after := #[], guard := none }) (v := ?_) rfl (by kernel_rfl) (by kernel_rfl) (by kernel_rfl) (fun _ _ _ h => h) (Or.inl ⟨by rfl, ?_⟩) (by assumption) ?_
        rotate_left
        · intro w hSw; (try dsimp only at hSw); go_simp <;> with_reducible rfl
        simp only [Act.put, List.setIfInBounds_toArray, List.set_cons_zero, List.set_cons_succ]
        refine wpAnyH_take (i := 2) (oi := { dst := some 31, op := Op.fieldAddr 26 (Operand.tmp 2) 2, type := 0, pos := "order.go:28", after := #[], guard := none }) (v := ?_) rfl (by kernel_rfl) (by kernel_rfl) (by kernel_rfl) (fun _ _ _ h => h) (Or.inl ⟨by rfl, ?_⟩) (by assumption) ?_
        rotate_left
        · intro w hSw; (try dsimp only at hSw); go_simp <;> with_reducible rfl
        simp only [Act.put, List.setIfInBounds_toArray, List.set_cons_zero, List.set_cons_succ]
        refine wpAnyH_take (i := 3) (oi := { dst := some 32, op := Op.load 23 (Operand.tmp 31), type := 23, pos := "order.go:28", after := #[{ on := 2, ground := Ground.data }], guard := none }) (v := ?_) rfl (by kernel_rfl) (by kernel_rfl) (by kernel_rfl) (fun _ _ _ h => h) (Or.inl ⟨by rfl, ?_⟩) (by assumption) ?_
        rotate_left
        · intro w hSw; (try dsimp only at hSw); go_simp <;> with_reducible rfl
        simp only [Act.put, List.setIfInBounds_toArray, List.set_cons_zero, List.set_cons_succ]
        refine wpAnyH_take (i := 4) (oi := { dst := some 33, op := Op.move (Operand.tmp 7), type := 3, pos := "order.go:28", after := #[], guard := none }) (v := ?_) rfl (by kernel_rfl) (by kernel_rfl) (by kernel_rfl) (fun _ _ _ h => h) (Or.inl ⟨by rfl, ?_⟩) (by assumption) ?_
        rotate_left
        · intro w hSw; (try dsimp only at hSw); go_simp <;> with_reducible rfl
        simp only [Act.put, List.setIfInBounds_toArray, List.set_cons_zero, List.set_cons_succ]
        refine wpAnyH_take (i := 5) (oi := { dst := some 34, op := Op.indexAddr 23 (Operand.tmp 32) (Operand.tmp 33), type := 0, pos := "order.go:28", after := #[{ on := 3, ground := Ground.data }, { on := 4, ground := Ground.data }], guard := none }) (v := ?_) rfl (by kernel_rfl) (by kernel_rfl) (by kernel_rfl) (fun _ _ _ h => h) (Or.inl ⟨by rfl, ?_⟩) (by assumption) ?_
        rotate_left
        · intro w hSw; (try dsimp only at hSw); go_simp <;> with_reducible rfl
        simp only [Act.put, List.setIfInBounds_toArray, List.set_cons_zero, List.set_cons_succ]
        refine wpAnyH_take (i := 6) (oi := { dst := some 35, op := Op.load 3 (Operand.tmp 34), type := 3, pos := "order.go:28", after := #[{ on := 5, ground := Ground.data }], guard := none }) (v := ?_) rfl (by kernel_rfl) (by kernel_rfl) (by kernel_rfl) (fun _ _ _ h => h) (Or.inl ⟨by rfl, ?_⟩) (by assumption) ?_
        rotate_left
        · intro w hSw; (try dsimp only at hSw); go_simp <;> with_reducible rfl
        simp only [Act.put, List.setIfInBounds_toArray, List.set_cons_zero, List.set_cons_succ]
        refine wpAnyH_ready (rs := [1, 7]) (by kernel_rfl) (by simp) ?_
        refine AllReadyH.cons (o := { dst := some 30, op := Op.load 23 (Operand.tmp 29), type := 23, pos := "order.go:28", after := #[{ on := 0, ground := Ground.data }], guard := none }) rfl (fun K hK => ?_) ?_
        · skip
          go_simp
          refine hK.out _ _ ?_ (fun hHeld => ?_)
          · exact ⟨hR3d.out.pb.c2, c2.out _ hR3d.out.be⟩
          clear hK K
          try simp only [Act.put, List.setIfInBounds_toArray, List.set_cons_zero, List.set_cons_succ]
          refine wpAnyH_ready (rs := [7]) (by kernel_rfl) (by simp) ?_
          refine AllReadyH.cons (o := { dst := some 36, op := Op.buildSlice 23 1 #[(0, Operand.tmp 35)], type := 23, pos := "order.go:28", after := #[{ on := 6, ground := Ground.data }], guard := none }) rfl (fun K hK => ?_) AllReadyH.nil
          go_simp
          refine hK.out _ _ ?_ (fun hHeld => ?_)
          · exact ⟨(hR3d.out.over ((Below.refl _ _).alloc (Nat.le_refl _) _)).pb.c2, c2.out _ (hR3d.out.over ((Below.refl _ _).alloc (Nat.le_refl _) _)).be⟩
          clear hK K
          try simp only [Act.put, List.setIfInBounds_toArray, List.set_cons_zero, List.set_cons_succ]
          refine wpAnyH_ready (rs := [8]) (by kernel_rfl) (by simp) ?_
          refine AllReadyH.cons (o := { dst := some 37, op := Op.call { callee := Callee.builtin Builtin.append, args := #[Operand.tmp 30, Operand.tmp 36], argTypes := #[23, 23] }, type := 23, pos := "order.go:28", after := #[{ on := 1, ground := Ground.data }, { on := 7, ground := Ground.data }], guard := none }) rfl (fun K hK => ?_) AllReadyH.nil
          rw [if_pos (by rfl)]
          refine Rq.wapp2 (.tmp 30) (.tmp 36) hR3d.out y rfl rfl rfl (by omega) ?_; intro o6 n6 c6 w4 hR3dx; have q2 := hR3dx.qb.c2; have f2 := hR3dx.qb.frz 2; (try dsimp only)
          refine hK.out _ _ ?_ (fun hHeld => ?_)
          · exact ⟨hR3dx.pb.c2, c2.out _ hR3dx.be⟩
          clear hK K
          try simp only [Act.put, List.setIfInBounds_toArray, List.set_cons_zero, List.set_cons_succ]
          refine wpAnyH_take (i := 9) (oi := { dst := some 38, op := Op.fieldAddr 26 (Operand.tmp 5) 2, type := 0, pos := "order.go:28", after := #[{ on := 0, ground := Ground.phase }, { on := 1, ground := Ground.phase }, { on := 2, ground := Ground.phase }, { on := 3, ground := Ground.phase }, { on := 4, ground := Ground.phase }, { on := 5, ground := Ground.phase }, { on := 6, ground := Ground.phase }, { on := 7, ground := Ground.phase }, { on := 8, ground := Ground.phase }], guard := none }) (v := ?_) rfl (by kernel_rfl) (by kernel_rfl) (by kernel_rfl) (fun _ _ _ h => h) (Or.inl ⟨by rfl, ?_⟩) (by assumption) ?_
          rotate_left
          · intro w hSw; (try dsimp only at hSw); go_simp <;> with_reducible rfl
          simp only [Act.put, List.setIfInBounds_toArray, List.set_cons_zero, List.set_cons_succ]
          refine wpAnyH_ready (rs := [10]) (by kernel_rfl) (by simp) ?_
          refine AllReadyH.cons (o := { dst := none, op := Op.store 23 (Operand.tmp 38) (Operand.tmp 37), type := 0, pos := "order.go:28", after := #[{ on := 9, ground := Ground.data }, { on := 8, ground := Ground.data }, { on := 8, ground := Ground.chain }, { on := 0, ground := Ground.phase }, { on := 1, ground := Ground.phase }, { on := 2, ground := Ground.phase }, { on := 3, ground := Ground.phase }, { on := 4, ground := Ground.phase }, { on := 5, ground := Ground.phase }, { on := 6, ground := Ground.phase }, { on := 7, ground := Ground.phase }, { on := 8, ground := Ground.phase }], guard := none }) rfl (fun K hK => ?_) AllReadyH.nil
          go_simp
          refine hK.out _ _ ?_ (fun hHeld => ?_)
          · exact ⟨(hR3dx.put (hR3dx.qb.s2 (.slice o6 n6 c6))).pb.c2, c2.out _ (hR3dx.put (hR3dx.qb.s2 (.slice o6 n6 c6))).be⟩
          clear hK K
          try simp only [Act.put, List.setIfInBounds_toArray, List.set_cons_zero, List.set_cons_succ]
          refine wpAnyH_done (by kernel_rfl) ?_ _
          skip
          have hR9 : Hid (Rq w P (.slice (some ⟨g1, o1, none⟩) P.who.length cw) (.slice (some ⟨g2, o2, none⟩) P.fixed.length cf) (.slice or P.rules.length cr) (w4.setCell ⟨w.heap.size + 1 + 1, 2, none⟩ (.slice o6 n6 c6)) (.slice o5 n5 c5) (.slice o6 n6 c6) (.slice none 0 0) (.slice o5 n5 c5) (.slice o6 n6 c6) (.slice none 0 0) (reW P (O.take (j + 1))) (reF P (O.take (j + 1))) []) := by
            have h9 := hR3dx.put (hR3dx.qb.s2 (.slice o6 n6 c6))
            rw [hLa2.out, hLb2.out] at h9
            exact h9
          clear hR3dx hR3d hLa2 hLb2
          go_wp2
          exact ⟨⟨j + 1, _, _, by omega, by go_num, hR9⟩, by simp [intOf]; omega⟩
        refine AllReadyH.cons (o := { dst := some 36, op := Op.buildSlice 23 1 #[(0, Operand.tmp 35)], type := 23, pos := "order.go:28", after := #[{ on := 6, ground := Ground.data }], guard := none }) rfl (fun K hK => ?_) AllReadyH.nil
        go_simp
        refine hK.out _ _ ?_ (fun hHeld => ?_)
        · exact ⟨(hR3d.out.over ((Below.refl _ _).alloc (Nat.le_refl _) _)).pb.c2, c2.out _ (hR3d.out.over ((Below.refl _ _).alloc (Nat.le_refl _) _)).be⟩
        clear hK K
        try simp only [Act.put, List.setIfInBounds_toArray, List.set_cons_zero, List.set_cons_succ]
        refine wpAnyH_ready (rs := [1]) (by kernel_rfl) (by simp) ?_
        refine AllReadyH.cons (o := { dst := some 30, op := Op.load 23 (Operand.tmp 29), type := 23, pos := "order.go:28", after := #[{ on := 0, ground := Ground.data }], guard := none }) rfl (fun K hK => ?_) AllReadyH.nil
        go_simp
        refine hK.out _ _ ?_ (fun hHeld => ?_)
        · exact ⟨(hR3d.out.over ((Below.refl _ _).alloc (Nat.le_refl _) _)).pb.c2, c2.out _ (hR3d.out.over ((Below.refl _ _).alloc (Nat.le_refl _) _)).be⟩
        clear hK K
        try simp only [Act.put, List.setIfInBounds_toArray, List.set_cons_zero, List.set_cons_succ]
        refine wpAnyH_ready (rs := [8]) (by kernel_rfl) (by simp) ?_
        refine AllReadyH.cons (o := { dst := some 37, op := Op.call { callee := Callee.builtin Builtin.append, args := #[Operand.tmp 30, Operand.tmp 36], argTypes := #[23, 23] }, type := 23, pos := "order.go:28", after := #[{ on := 1, ground := Ground.data }, { on := 7, ground := Ground.data }], guard := none }) rfl (fun K hK => ?_) AllReadyH.nil
        rw [if_pos (by rfl)]
        refine Rq.wapp2 (.tmp 30) (.tmp 36) hR3d.out y rfl rfl rfl (by omega) ?_; intro o6 n6 c6 w4 hR3dx; have q2 := hR3dx.qb.c2; have f2 := hR3dx.qb.frz 2; (try dsimp only)
        refine hK.out _ _ ?_ (fun hHeld => ?_)
        · exact ⟨hR3dx.pb.c2, c2.out _ hR3dx.be⟩
        clear hK K
        try simp only [Act.put, List.setIfInBounds_toArray, List.set_cons_zero, List.set_cons_succ]
        refine wpAnyH_take (i := 9) (oi := { dst := some 38, op := Op.fieldAddr 26 (Operand.tmp 5) 2, type := 0, pos := "order.go:28", after := #[{ on := 0, ground := Ground.phase }, { on := 1, ground := Ground.phase }, { on := 2, ground := Ground.phase }, { on := 3, ground := Ground.phase }, { on := 4, ground := Ground.phase }, { on := 5, ground := Ground.phase }, { on := 6, ground := Ground.phase }, { on := 7, ground := Ground.phase }, { on := 8, ground := Ground.phase }], guard := none }) (v := ?_) rfl (by kernel_rfl) (by kernel_rfl) (by kernel_rfl) (fun _ _ _ h => h) (Or.inl ⟨by rfl, ?_⟩) (by assumption) ?_
        rotate_left
        · intro w hSw; (try dsimp only at hSw); go_simp <;> with_reducible rfl
        simp only [Act.put, List.setIfInBounds_toArray, List.set_cons_zero, List.set_cons_succ]
        refine wpAnyH_ready (rs := [10]) (by kernel_rfl) (by simp) ?_
        refine AllReadyH.cons (o := { dst := none, op := Op.store 23 (Operand.tmp 38) (Operand.tmp 37), type := 0, pos := "order.go:28", after := #[{ on := 9, ground := Ground.data }, { on := 8, ground := Ground.data }, { on := 8, ground := Ground.chain }, { on := 0, ground := Ground.phase }, { on := 1, ground := Ground.phase }, { on := 2, ground := Ground.phase }, { on := 3, ground := Ground.phase }, { on := 4, ground := Ground.phase }, { on := 5, ground := Ground.phase }, { on := 6, ground := Ground.phase }, { on := 7, ground := Ground.phase }, { on := 8, ground := Ground.phase }], guard := none }) rfl (fun K hK => ?_) AllReadyH.nil
        go_simp
        refine hK.out _ _ ?_ (fun hHeld => ?_)
        · exact ⟨(hR3dx.put (hR3dx.qb.s2 (.slice o6 n6 c6))).pb.c2, c2.out _ (hR3dx.put (hR3dx.qb.s2 (.slice o6 n6 c6))).be⟩
        clear hK K
        try simp only [Act.put, List.setIfInBounds_toArray, List.set_cons_zero, List.set_cons_succ]
        refine wpAnyH_done (by kernel_rfl) ?_ _
        skip
        have hR9 : Hid (Rq w P (.slice (some ⟨g1, o1, none⟩) P.who.length cw) (.slice (some ⟨g2, o2, none⟩) P.fixed.length cf) (.slice or P.rules.length cr) (w4.setCell ⟨w.heap.size + 1 + 1, 2, none⟩ (.slice o6 n6 c6)) (.slice o5 n5 c5) (.slice o6 n6 c6) (.slice none 0 0) (.slice o5 n5 c5) (.slice o6 n6 c6) (.slice none 0 0) (reW P (O.take (j + 1))) (reF P (O.take (j + 1))) []) := by
          have h9 := hR3dx.put (hR3dx.qb.s2 (.slice o6 n6 c6))
          rw [hLa2.out, hLb2.out] at h9
          exact h9
        clear hR3dx hR3d hLa2 hLb2
        go_wp2
        exact ⟨⟨j + 1, _, _, by omega, by go_num, hR9⟩, by simp [intOf]; omega⟩
      refine AllReadyH.cons (o := { dst := some 26, op := Op.buildSlice 22 1 #[(0, Operand.tmp 25)], type := 22, pos := "order.go:27", after := #[{ on := 6, ground := Ground.data }], guard := none }) rfl (fun K hK => ?_) AllReadyH.nil
      go_simp
      refine hK.out _ _ ?_ (fun hHeld => ?_)
      · exact ⟨(hRd.out.over ((Below.refl _ _).alloc (Nat.le_refl _) _)).pb.c1, c1'.out _ (hRd.out.over ((Below.refl _ _).alloc (Nat.le_refl _) _)).be⟩
      clear hK K
      try simp only [Act.put, List.setIfInBounds_toArray, List.set_cons_zero, List.set_cons_succ]
      refine wpAnyH_ready (rs := [1]) (by kernel_rfl) (by simp) ?_
      refine AllReadyH.cons (o := { dst := some 20, op := Op.load 22 (Operand.tmp 19), type := 22, pos := "order.go:27", after := #[{ on := 0, ground := Ground.data }], guard := none }) rfl (fun K hK => ?_) AllReadyH.nil
      go_simp
      refine hK.out _ _ ?_ (fun hHeld => ?_)
      · exact ⟨(hRd.out.over ((Below.refl _ _).alloc (Nat.le_refl _) _)).pb.c1, c1'.out _ (hRd.out.over ((Below.refl _ _).alloc (Nat.le_refl _) _)).be⟩
      clear hK K
      try simp only [Act.put, List.setIfInBounds_toArray, List.set_cons_zero, List.set_cons_succ]
      refine wpAnyH_ready (rs := [8]) (by kernel_rfl) (by simp) ?_
      refine AllReadyH.cons (o := { dst := some 27, op := Op.call { callee := Callee.builtin Builtin.append, args := #[Operand.tmp 20, Operand.tmp 26], argTypes := #[22, 22] }, type := 22, pos := "order.go:27", after := #[{ on := 1, ground := Ground.data }, { on := 7, ground := Ground.data }], guard := none }) rfl (fun K hK => ?_) AllReadyH.nil
      rw [if_pos (by rfl)]
      refine Rq.wapp1 (.tmp 20) (.tmp 26) hRd.out z rfl rfl rfl (by omega) ?_; intro o5 n5 c5 w2 hRdx; have q2 := hRdx.qb.c1; have f2 := hRdx.qb.frz 1; (try dsimp only)
      refine hK.out _ _ ?_ (fun hHeld => ?_)
      · exact ⟨hRdx.pb.c1, c1'.out _ hRdx.be⟩
      clear hK K
      try simp only [Act.put, List.setIfInBounds_toArray, List.set_cons_zero, List.set_cons_succ]
      refine wpAnyH_take (i := 9) (oi := { dst := some 28, op := Op.fieldAddr 26 (Operand.tmp 5) 1, type := 0, pos := "order.go:27", after := #[{ on := 0, ground := Ground.phase }, { on := 1, ground := Ground.phase }, { on := 2, ground := Ground.phase }, { on := 3, ground := Ground.phase }, { on := 4, ground := Ground.phase }, { on := 5, ground := Ground.phase }, { on := 6, ground := Ground.phase }, { on := 7, ground := Ground.phase }, { on := 8, ground := Ground.phase }], guard := none }) (v := ?_) rfl (by kernel_rfl) (by kernel_rfl) (by kernel_rfl) (fun _ _ _ h => h) (Or.inl ⟨by rfl, ?_⟩) (by assumption) ?_
      rotate_left
      · intro w hSw; (try dsimp only at hSw); go_simp <;> with_reducible rfl
      simp only [Act.put, List.setIfInBounds_toArray, List.set_cons_zero, List.set_cons_succ]
      refine wpAnyH_ready (rs := [10]) (by kernel_rfl) (by simp) ?_
      refine AllReadyH.cons (o := { dst := none, op := Op.store 22 (Operand.tmp 28) (Operand.tmp 27), type := 0, pos := "order.go:27", after := #[{ on := 9, ground := Ground.data }, { on := 8, ground := Ground.data }, { on := 8, ground := Ground.chain }, { on := 0, ground := Ground.phase }, { on := 1, ground := Ground.phase }, { on := 2, ground := Ground.phase }, { on := 3, ground := Ground.phase }, { on := 4, ground := Ground.phase }, { on := 5, ground := Ground.phase }, { on := 6, ground := Ground.phase }, { on := 7, ground := Ground.phase }, { on := 8, ground := Ground.phase }], guard := none }) rfl (fun K hK => ?_) AllReadyH.nil
      go_simp
      refine hK.out _ _ ?_ (fun hHeld => ?_)
      · exact ⟨(hRdx.put (hRdx.qb.s1 (.slice o5 n5 c5))).pb.c1, c1'.out _ (hRdx.put (hRdx.qb.s1 (.slice o5 n5 c5))).be⟩
      clear hK K
      try simp only [Act.put, List.setIfInBounds_toArray, List.set_cons_zero, List.set_cons_succ]
      refine wpAnyH_done (by kernel_rfl) ?_ _
      skip
      have hR3d := hide' ((hRdx.put (hRdx.qb.s1 (.slice o5 n5 c5))).over (Below.refl _ _).drew)
      clear hRdx hRd q2 f2 hq1 hq2
      generalize w2.setCell ⟨w.heap.size + 1 + 1, 1, none⟩ (.slice o5 n5 c5) = w3 at *
      have hq1 := hR3d.out.qb.c2
      have hq2 : ∀ o, (w3.alloc o).cell? ⟨w.heap.size + 1 + 1, 2, none⟩ = some (.slice ob Lb.length cb) := fun o => (hR3d.out.over ((Below.refl _ w3.drew).alloc (Nat.le_refl _) o)).qb.c2
      go_upto_region 6 with fail
      refine wp_region_held_drew (S := (fun V => V.cell? ⟨w.heap.size, 2, none⟩ = some (.slice (some ⟨g2, o2, none⟩) P.fixed.length cf) ∧ V.cell? ⟨g2, o2 + t, none⟩ = some (.int .i64 y))) (by kernel_rfl) ?_ (fun hHeld => ?_)
      · exact ⟨hR3d.out.pb.c2, c2.out _ hR3d.out.be⟩
      refine wpAnyH_take (i := 0) (oi := { dst := some 29, op := Op.fieldAddr 26 (Operand.tmp 5) 2, type := 0, pos := "order.go:28", after := #[], guard := none }) (v := ?_) rfl (by kernel_rfl) (by kernel_rfl) (by kernel_rfl) (fun _ _ _ h => h) (Or.inl ⟨by rfl, ?_⟩) (by assumption) ?_
      rotate_left
      · intro w hSw; (try dsimp only at hSw); go_simp <;> with_reducible rfl
      simp only [Act.put, List.setIfInBounds_toArray, List.set_cons_zero, List.set_cons_succ]
      refine wpAnyH_take (i := 2) (oi := { dst := some 31, op := Op.fieldAddr 26 (Operand.tmp 2) 2, type := 0, pos := "order.go:28", after := #[], guard := none }) (v := ?_) rfl (by kernel_rfl) (by kernel_rfl) (by kernel_rfl) (fun _ _ _ h => h) (Or.inl ⟨by rfl, ?_⟩) (by assumption) ?_
      rotate_left
      · intro w hSw; (try dsimp only at hSw); go_simp <;> with_reducible rfl
      simp only [Act.put, List.setIfInBounds_toArray, List.set_cons_zero, List.set_cons_succ]
      refine wpAnyH_take (i := 3) (oi := { dst := some 32, op := Op.load 23 (Operand.tmp 31), type := 23, pos := "order.go:28", after := #[{ on := 2, ground := Ground.data }], guard := none }) (v := ?_) rfl (by kernel_rfl) (by kernel_rfl) (by kernel_rfl) (fun _ _ _ h => h) (Or.inl ⟨by rfl, ?_⟩) (by assumption) ?_
      rotate_left
      · intro w hSw; (try dsimp only at hSw); go_simp <;> with_reducible rfl
      simp only [Act.put, List.setIfInBounds_toArray, List.set_cons_zero, List.set_cons_succ]
      refine wpAnyH_take (i := 4) (oi := { dst := some 33, op := Op.move (Operand.tmp 7), type := 3, pos := "order.go:28", after := #[], guard := none }) (v := ?_) rfl (by kernel_rfl) (by kernel_rfl) (by kernel_rfl) (fun _ _ _ h => h) (Or.inl ⟨by rfl, ?_⟩) (by assumption) ?_
      rotate_left
      · intro w hSw; (try dsimp only at hSw); go_simp <;> with_reducible rfl
      simp only [Act.put, List.setIfInBounds_toArray, List.set_cons_zero, List.set_cons_succ]
      refine wpAnyH_take (i := 5) (oi := { dst := some 34, op := Op.indexAddr 23 (Operand.tmp 32) (Operand.tmp 33), type := 0, pos := "order.go:28", after := #[{ on := 3, ground := Ground.data }, { on := 4, ground := Ground.data }], guard := none }) (v := ?_) rfl (by kernel_rfl) (by kernel_rfl) (by kernel_rfl) (fun _ _ _ h => h) (Or.inl ⟨by rfl, ?_⟩) (by assumption) ?_
      rotate_left
      · intro w hSw; (try dsimp only at hSw); go_simp <;> with_reducible rfl
      simp only [Act.put, List.setIfInBounds_toArray, List.set_cons_zero, List.set_cons_succ]
      refine wpAnyH_take (i := 6) (oi := { dst := some 35, op := Op.load 3 (Operand.tmp 34), type := 3, pos := "order.go:28", after := #[{ on := 5, ground := Ground.data }], guard := none }) (v := ?_) rfl (by kernel_rfl) (by kernel_rfl) (by kernel_rfl) (fun _ _ _ h => h) (Or.inl ⟨by rfl, ?_⟩) (by assumption) ?_
      rotate_left
      · intro w hSw; (try dsimp only at hSw); go_simp <;> with_reducible rfl
      simp only [Act.put, List.setIfInBounds_toArray, List.set_cons_zero, List.set_cons_succ]
      refine wpAnyH_ready (rs := [1, 7]) (by kernel_rfl) (by simp) ?_
      refine AllReadyH.cons (o := { dst := some 30, op := Op.load 23 (Operand.tmp 29), type := 23, pos := "order.go:28", after := #[{ on := 0, ground := Ground.data }], guard := none }) rfl (fun K hK => ?_) ?_
      · skip
        go_simp
        refine hK.out _ _ ?_ (fun hHeld => ?_)
        · exact ⟨hR3d.out.pb.c2, c2.out _ hR3d.out.be⟩
        clear hK K
        try simp only [Act.put, List.setIfInBounds_toArray, List.set_cons_zero, List.set_cons_succ]
        refine wpAnyH_ready (rs := [7]) (by kernel_rfl) (by simp) ?_
        refine AllReadyH.cons (o := { dst := some 36, op := Op.buildSlice 23 1 #[(0, Operand.tmp 35)], type := 23, pos := "order.go:28", after := #[{ on := 6, ground := Ground.data }], guard := none }) rfl (fun K hK => ?_) AllReadyH.nil
        go_simp
        refine hK.out _ _ ?_ (fun hHeld => ?_)
        · exact ⟨(hR3d.out.over ((Below.refl _ _).alloc (Nat.le_refl _) _)).pb.c2, c2.out _ (hR3d.out.over ((Below.refl _ _).alloc (Nat.le_refl _) _)).be⟩
        clear hK K
        try simp only [Act.put, List.setIfInBounds_toArray, List.set_cons_zero, List.set_cons_succ]
        refine wpAnyH_ready (rs := [8]) (by kernel_rfl) (by simp) ?_
        refine AllReadyH.cons (o := { dst := some 37, op := Op.call { callee := Callee.builtin Builtin.append, args := #[Operand.tmp 30, Operand.tmp 36], argTypes := #[23, 23] }, type := 23, pos := "order.go:28", after := #[{ on := 1, ground := Ground.data }, { on := 7, ground := Ground.data }], guard := none }) rfl (fun K hK => ?_) AllReadyH.nil
        rw [if_pos (by rfl)]
        refine Rq.wapp2 (.tmp 30) (.tmp 36) hR3d.out y rfl rfl rfl (by omega) ?_; intro o6 n6 c6 w4 hR3dx; have q2 := hR3dx.qb.c2; have f2 := hR3dx.qb.frz 2; (try dsimp only)
        refine hK.out _ _ ?_ (fun hHeld => ?_)
        · exact ⟨hR3dx.pb.c2, c2.out _ hR3dx.be⟩
        clear hK K
        try simp only [Act.put, List.setIfInBounds_toArray, List.set_cons_zero, List.set_cons_succ]
        refine wpAnyH_take (i := 9) (oi := { dst := some 38, op := Op.fieldAddr 26 (Operand.tmp 5) 2, type := 0, pos := "order.go:28", after := #[{ on := 0, ground := Ground.phase }, { on := 1, ground := Ground.phase }, { on := 2, ground := Ground.phase }, { on := 3, ground := Ground.phase }, { on := 4, ground := Ground.phase }, { on := 5, ground := Ground.phase }, { on := 6, ground := Ground.phase }, { on := 7, ground := Ground.phase }, { on := 8, ground := Ground.phase }], guard := none }) (v := ?_) rfl (by kernel_rfl) (by kernel_rfl) (by kernel_rfl) (fun _ _ _ h => h) (Or.inl ⟨by rfl, ?_⟩) (by assumption) ?_
        rotate_left
        · intro w hSw; (try dsimp only at hSw); go_simp <;> with_reducible rfl
        simp only [Act.put, List.setIfInBounds_toArray, List.set_cons_zero, List.set_cons_succ]
        refine wpAnyH_ready (rs := [10]) (by kernel_rfl) (by simp) ?_
        refine AllReadyH.cons (o := { dst := none, op := Op.store 23 (Operand.tmp 38) (Operand.tmp 37), type := 0, pos := "order.go:28", after := #[{ on := 9, ground := Ground.data }, { on := 8, ground := Ground.data }, { on := 8, ground := Ground.chain }, { on := 0, ground := Ground.phase }, { on := 1, ground := Ground.phase }, { on := 2, ground := Ground.phase }, { on := 3, ground := Ground.phase }, { on := 4, ground := Ground.phase }, { on := 5, ground := Ground.phase }, { on := 6, ground := Ground.phase }, { on := 7, ground := Ground.phase }, { on := 8, ground := Ground.phase }], guard := none }) rfl (fun K hK => ?_) AllReadyH.nil
        go_simp
        refine hK.out _ _ ?_ (fun hHeld => ?_)
        · exact ⟨(hR3dx.put (hR3dx.qb.s2 (.slice o6 n6 c6))).pb.c2, c2.out _ (hR3dx.put (hR3dx.qb.s2 (.slice o6 n6 c6))).be⟩
        clear hK K
        try simp only [Act.put, List.setIfInBounds_toArray, List.set_cons_zero, List.set_cons_succ]
        refine wpAnyH_done (by kernel_rfl) ?_ _
        skip
        have hR9 : Hid (Rq w P (.slice (some ⟨g1, o1, none⟩) P.who.length cw) (.slice (some ⟨g2, o2, none⟩) P.fixed.length cf) (.slice or P.rules.length cr) (w4.setCell ⟨w.heap.size + 1 + 1, 2, none⟩ (.slice o6 n6 c6)) (.slice o5 n5 c5) (.slice o6 n6 c6) (.slice none 0 0) (.slice o5 n5 c5) (.slice o6 n6 c6) (.slice none 0 0) (reW P (O.take (j + 1))) (reF P (O.take (j + 1))) []) := by
          have h9 := hR3dx.put (hR3dx.qb.s2 (.slice o6 n6 c6))
          rw [hLa2.out, hLb2.out] at h9
          exact h9
        clear hR3dx hR3d hLa2 hLb2
        go_wp2
        exact ⟨⟨j + 1, _, _, by omega, by go_num, hR9⟩, by simp [intOf]; omega⟩
      refine AllReadyH.cons (o := { dst := some 36, op := Op.buildSlice 23 1 #[(0, Operand.tmp 35)], type := 23, pos := "order.go:28", after := #[{ on := 6, ground := Ground.data }], guard := none }) rfl (fun K hK => ?_) AllReadyH.nil
      go_simp
      refine hK.out _ _ ?_ (fun hHeld => ?_)
      · exact ⟨(hR3d.out.over ((Below.refl _ _).alloc (Nat.le_refl _) _)).pb.c2, c2.out _ (hR3d.out.over ((Below.refl _ _).alloc (Nat.le_refl _) _)).be⟩
      clear hK K
      try simp only [Act.put, List.setIfInBounds_toArray, List.set_cons_zero, List.set_cons_succ]
      refine wpAnyH_ready (rs := [1]) (by kernel_rfl) (by simp) ?_
      refine AllReadyH.cons (o := { dst := some 30, op := Op.load 23 (Operand.tmp 29), type := 23, pos := "order.go:28", after := #[{ on := 0, ground := Ground.data }], guard := none }) rfl (fun K hK => ?_) AllReadyH.nil
      go_simp
      refine hK.out _ _ ?_ (fun hHeld => ?_)
      · exact ⟨(hR3d.out.over ((Below.refl _ _).alloc (Nat.le_refl _) _)).pb.c2, c2.out _ (hR3d.out.over ((Below.refl _ _).alloc (Nat.le_refl _) _)).be⟩
      clear hK K
      try simp only [Act.put, List.setIfInBounds_toArray, List.set_cons_zero, List.set_cons_succ]
      refine wpAnyH_ready (rs := [8]) (by kernel_rfl) (by simp) ?_
      refine AllReadyH.cons (o := { dst := some 37, op := Op.call { callee := Callee.builtin Builtin.append, args := #[Operand.tmp 30, Operand.tmp 36], argTypes := #[23, 23] }, type := 23, pos := "order.go:28", after := #[{ on := 1, ground := Ground.data }, { on := 7, ground := Ground.data }], guard := none }) rfl (fun K hK => ?_) AllReadyH.nil
      rw [if_pos (by rfl)]
      refine Rq.wapp2 (.tmp 30) (.tmp 36) hR3d.out y rfl rfl rfl (by omega) ?_; intro o6 n6 c6 w4 hR3dx; have q2 := hR3dx.qb.c2; have f2 := hR3dx.qb.frz 2; (try dsimp only)
      refine hK.out _ _ ?_ (fun hHeld => ?_)
      · exact ⟨hR3dx.pb.c2, c2.out _ hR3dx.be⟩
      clear hK K
      try simp only [Act.put, List.setIfInBounds_toArray, List.set_cons_zero, List.set_cons_succ]
      refine wpAnyH_take (i := 9) (oi := { dst := some 38, op := Op.fieldAddr 26 (Operand.tmp 5) 2, type := 0, pos := "order.go:28", after := #[{ on := 0, ground := Ground.phase }, { on := 1, ground := Ground.phase }, { on := 2, ground := Ground.phase }, { on := 3, ground := Ground.phase }, { on := 4, ground := Ground.phase }, { on := 5, ground := Ground.phase }, { on := 6, ground := Ground.phase }, { on := 7, ground := Ground.phase }, { on := 8, ground := Ground.phase }], guard := none }) (v := ?_) rfl (by kernel_rfl) (by kernel_rfl) (by kernel_rfl) (fun _ _ _ h => h) (Or.inl ⟨by rfl, ?_⟩) (by assumption) ?_
      rotate_left
      · intro w hSw; (try dsimp only at hSw); go_simp <;> with_reducible rfl
      simp only [Act.put, List.setIfInBounds_toArray, List.set_cons_zero, List.set_cons_succ]
      refine wpAnyH_ready (rs := [10]) (by kernel_rfl) (by simp) ?_
      refine AllReadyH.cons (o := { dst := none, op := Op.store 23 (Operand.tmp 38) (Operand.tmp 37), type := 0, pos := "order.go:28", after := #[{ on := 9, ground := Ground.data }, { on := 8, ground := Ground.data }, { on := 8, ground := Ground.chain }, { on := 0, ground := Ground.phase }, { on := 1, ground := Ground.phase }, { on := 2, ground := Ground.phase }, { on := 3, ground := Ground.phase }, { on := 4, ground := Ground.phase }, { on := 5, ground := Ground.phase }, { on := 6, ground := Ground.phase }, { on := 7, ground := Ground.phase }, { on := 8, ground := Ground.phase }], guard := none }) rfl (fun K hK => ?_) AllReadyH.nil
      go_simp
      refine hK.out _ _ ?_ (fun hHeld => ?_)
      · exact ⟨(hR3dx.put (hR3dx.qb.s2 (.slice o6 n6 c6))).pb.c2, c2.out _ (hR3dx.put (hR3dx.qb.s2 (.slice o6 n6 c6))).be⟩
      clear hK K
      try simp only [Act.put, List.setIfInBounds_toArray, List.set_cons_zero, List.set_cons_succ]
      refine wpAnyH_done (by kernel_rfl) ?_ _
      skip
      have hR9 : Hid (Rq w P (.slice (some ⟨g1, o1, none⟩) P.who.length cw) (.slice (some ⟨g2, o2, none⟩) P.fixed.length cf) (.slice or P.rules.length cr) (w4.setCell ⟨w.heap.size + 1 + 1, 2, none⟩ (.slice o6 n6 c6)) (.slice o5 n5 c5) (.slice o6 n6 c6) (.slice none 0 0) (.slice o5 n5 c5) (.slice o6 n6 c6) (.slice none 0 0) (reW P (O.take (j + 1))) (reF P (O.take (j + 1))) []) := by
        have h9 := hR3dx.put (hR3dx.qb.s2 (.slice o6 n6 c6))
        rw [hLa2.out, hLb2.out] at h9
        exact h9
      clear hR3dx hR3d hLa2 hLb2
      go_wp2
      exact ⟨⟨j + 1, _, _, by omega, by go_num, hR9⟩, by simp [intOf]; omega⟩
    · obtain rfl : j = O.length := by omega
      rw [List.take_length] at hR
      have p3 := hR.out.pb.c3
      obtain ⟨oa3, ca3, e3, _, hcr⟩ := h'.out.rules
      cases e3
      have hcr' := hide' hcr
      clear hcr hoc hw'
      go_wp2
      go_loopw [9, 43] (fun _ p wr => ∃ (j : Nat) (E : List (Rl × Value)) (vc : Value), j ≤ P.rules.length ∧ p = .int .i64 (j : Int) ∧ Hid (E.map Prod.fst = (P.rules.take j).map (reR O)) ∧ Hid (Rq w P (.slice ow P.who.length cw) (.slice of P.fixed.length cf) (.slice or P.rules.length cr) wr va vb vc va vb vc (reW P O) (reF P O) E)) (fun _ p _ => ((P.rules.length : Int) - intOf p).toNat)
      case atStart => exact ⟨0, [], _, Nat.zero_le _, rfl, rfl, hR⟩
      case round =>
        clear hR p3
        obtain ⟨j, E, vc, hj, rfl, hE, hR⟩ := hrel
        by_cases hlt : j < P.rules.length
        · have hlt' : (j : Int) < (P.rules.length : Int) := by omega
          obtain ⟨r, hx⟩ : ∃ r, P.rules[j]? = some r := ⟨_, List.getElem?_eq_getElem hlt⟩
          obtain ⟨g, o, sv, rfl, d1, d2, d3, d4⟩ := hcr'.out j r hx
          have e1 := M.cell_over d1 hR.out.be
          have e2 := M.cell_over d2 hR.out.be
          have e3 := M.cell_over d3 hR.out.be
          have hEl : E.length ≤ 1000 := by
            have := congrArg List.length hE.out
            rw [List.length_map, List.length_map, List.length_take] at this
            omega
          have hbx : Hid (Below wr.heap.size wr (wr.alloc (.cells #[.int .i64 r.kind, .int .i64 r.k, sv] 44))) := (Below.refl _ wr).alloc (Nat.le_refl _) _
          have hnb : Hid ((wr.alloc (.cells #[.int .i64 r.kind, .int .i64 r.k, sv] 44)).heap[wr.heap.size]? = some (.cells #[.int .i64 r.kind, .int .i64 r.k, sv] 44 (0, 0))) := heap_new wr _
          have hbe1 : Hid (Below w.heap.size w (wr.alloc (.cells #[.int .i64 r.kind, .int .i64 r.k, sv] 44))) := hR.out.be.trans (hbx.out.mono hR.out.be.size)
          have KM := hide' (movedF r.steps (ints O) sv (.slice oo O.length co) _ (d4.below hbe1.out (Nat.le_refl _)) (hO'.out.below hbe1.out (Nat.le_refl _)) (by rw [ints_len]; exact hl) (hm'.out r (List.mem_of_getElem? hx)))
          have hE2 : Hid (∀ v : Value, (E ++ [(reR O r, v)]).map Prod.fst = (P.rules.take (j + 1)).map (reR O)) := fun v => by rw [List.map_append, hE.out, List.take_add_one, hx]; simp
          obtain ⟨osv, nsv, csv, rfl⟩ : ∃ a b c, sv = .slice a b c := by obtain ⟨a, c, e, _⟩ := d4; exact ⟨a, _, c, e⟩
          have hR1 := hide' (hR.out.over hbx.out)
          have hsz := hR.out.sz
          have hwz : w.heap.size < wr.heap.size := by omega
          have hR' := hide' hR.out
          clear d1 d2 d3 d4 hx hE hcr' hm' hO' h' hR
          go_wp2_with fail
          refine KM.out.mono ?_
          rintro e w5 ⟨mv, rfl, hown, hb5⟩
          have hsz1 : (wr.alloc (.cells #[.int .i64 r.kind, .int .i64 r.k, .slice osv nsv csv] 44)).heap.size = wr.heap.size + 1 := by simp
          have hb6 : Hid (w5.heap[wr.heap.size]? = some (.cells #[.int .i64 r.kind, .int .i64 r.k, .slice osv nsv csv] 44 (0, 0))) := (hb5.block _ (by rw [hsz1]; omega)).trans hnb.out
          have hne5 : mv.ownBlock ≠ some wr.heap.size := fun e => by
            have := own_ge' hown e
            rw [hsz1] at this; omega
          have hB6 : Hid (Below wr.heap.size wr (w5.setCell ⟨wr.heap.size, 2, none⟩ mv)) := (hbx.out.trans (hb5.mono (by rw [hsz1]; omega))).setCell (p := ⟨wr.heap.size, 2, none⟩) (Nat.le_refl _) mv
          have hR6 := hide' (hR'.out.over hB6.out)
          have hown6 : Hid ((w5.setCell ⟨wr.heap.size, 2, none⟩ mv).ownsRow (w.heap.size + 3) 3 1 ((reR O r, mv) : Rl × Value).2 ((reR O r, mv) : Rl × Value).1.steps.length (cellsI ((reR O r, mv) : Rl × Value).1.steps)) :=
            owns_lowS (own_same hown fun k _ hk => Below.heap_setCell w5 ⟨wr.heap.size, 2, none⟩ mv k (by show k ≠ wr.heap.size; intro e; exact hne5 (by rw [← e]; exact hk))) (by rw [hsz1]; omega)
          have hb7 : Hid ((w5.setCell ⟨wr.heap.size, 2, none⟩ mv).heap[wr.heap.size]? = some (.cells #[.int .i64 r.kind, .int .i64 r.k, mv] 44 (0, 0))) := by
            show _ = _
            have := heap_setCell_same w5 wr.heap.size 2 _ _ mv hb6.out
            simpa using this
          obtain ⟨omv, cmv, hmv⟩ := own_shp hown
          obtain ⟨nm, hnm⟩ : ∃ nm, nm = (movN r.steps (ints O)).length := ⟨_, rfl⟩
          rw [← hnm] at hmv
          subst hmv
          have k0 : w5.frozen? ⟨wr.heap.size, 2, none⟩ = false := frozen_of_row w5 wr.heap.size 2 _ _ hb6.out
          have k1 : w5.cell? ⟨wr.heap.size, 2, none⟩ = some (.slice osv nsv csv) := by have := hb6.out; simp [World.cell?, this]
          have l0 : (w5.setCell ⟨wr.heap.size, 2, none⟩ (.slice omv nm cmv)).cell? ⟨wr.heap.size, 0, none⟩ = some (.int .i64 r.kind) := by have := hb7.out; simp [World.cell?, this]
          have l1 : (w5.setCell ⟨wr.heap.size, 2, none⟩ (.slice omv nm cmv)).cell? ⟨wr.heap.size, 1, none⟩ = some (.int .i64 r.k) := by have := hb7.out; simp [World.cell?, this]
          have l2 : (w5.setCell ⟨wr.heap.size, 2, none⟩ (.slice omv nm cmv)).cell? ⟨wr.heap.size, 2, none⟩ = some (.slice omv nm cmv) := by have := hb7.out; simp [World.cell?, this]
          have l3 := hR6.out.qb.c3
          clear hown hb5 KM hnb hbx hbe1 hR1 hsz1 e1 e2 e3 hnm hne5 hb6 hb7 hB6 hR'
          obtain ⟨ovc, nvc, cvc, rfl⟩ : ∃ a b c, vc = .slice a b c := by obtain ⟨a, c, e⟩ := own_shp hR6.out.r3.row; exact ⟨a, _, c, e⟩
          go_upto_region 12 with fail
          generalize w5.setCell ⟨wr.heap.size, 2, none⟩ (.slice omv nm cmv) = w6 at *
          go_wp2_with (at_builtin; go_loud (refine Rq.app3 rfl (.tmp 53) (.tmp 55) hR6.out (reR O r, .slice omv nm cmv) rfl rfl rfl hown6.out (by omega) ?_); intro o5 n5 c5 w2 hR2; have hf2 := hR2.qb.frz 3; have hc2 := hR2.qb.c3; have hR3 := hide' (hR2.put (hR2.qb.s3 (.slice o5 n5 c5))); clear hR2)
          exact ⟨⟨j + 1, _, _, by omega, by go_num, hE2.out _, hR3⟩, by simp [intOf]; omega⟩
        · obtain rfl : j = P.rules.length := by omega
          rw [List.take_length] at hE
          clear hcr'
          obtain ⟨oa, ca, ea⟩ := own_shp hR.out.r1
          obtain ⟨ob, cb, eb⟩ := own_shp hR.out.r2
          obtain ⟨oc, cc, ec⟩ := own_shp hR.out.r3.row
          have hla : (reW P O).length = O.length := by simp [reW]
          have hlb : (reF P O).length = O.length := by simp [reF]
          have hlc : E.length = P.rules.length := by have := congrArg List.length hE.out; simpa using this
          rw [hla] at ea
          rw [hlb] at eb
          rw [hlc] at ec
          subst ea eb ec
          have q0 := hR.out.qb.c0
          have q1 := hR.out.qb.c1
          have q2 := hR.out.qb.c2
          have q3 := hR.out.qb.c3
          have z0 := hR.out.zb.frz 0
          have y0 := hR.out.zb.c0
          have z1 := World.rowIs.frozen (World.rowIs.set hR.out.zb 0 (.int .i64 P.users)) 1
          have y1 := World.rowIs.cell (World.rowIs.set hR.out.zb 0 (.int .i64 P.users)) (i := 1) (by decide)
          have z2 := World.rowIs.frozen (World.rowIs.set (World.rowIs.set hR.out.zb 0 (.int .i64 P.users)) 1 (.slice oa O.length ca)) 2
          have y2 := World.rowIs.cell (World.rowIs.set (World.rowIs.set hR.out.zb 0 (.int .i64 P.users)) 1 (.slice oa O.length ca)) (i := 2) (by decide)
          have z3 := World.rowIs.frozen (World.rowIs.set (World.rowIs.set (World.rowIs.set hR.out.zb 0 (.int .i64 P.users)) 1 (.slice oa O.length ca)) 2 (.slice ob O.length cb)) 3
          have y3 := World.rowIs.cell (World.rowIs.set (World.rowIs.set (World.rowIs.set hR.out.zb 0 (.int .i64 P.users)) 1 (.slice oa O.length ca)) 2 (.slice ob O.length cb)) (i := 3) (by decide)
          have hX := World.rowIs.set (World.rowIs.set (World.rowIs.set (World.rowIs.set hR.out.zb 0 (.int .i64 P.users)) 1 (.slice oa O.length ca)) 2 (.slice ob O.length cb)) 3 (.slice oc P.rules.length cc)
          have x0 := World.rowIs.cell hX (i := 0) (by decide)
          have x1 := World.rowIs.cell hX (i := 1) (by decide)
          have x2 := World.rowIs.cell hX (i := 2) (by decide)
          have x3 := World.rowIs.cell hX (i := 3) (by decide)
          simp [qF] at y1 y2 y3 x0 x1 x2 x3
          have hfin : Hid (PbV ((((wr.setCell ⟨w.heap.size + 1, 0, none⟩ (.int .i64 P.users)).setCell ⟨w.heap.size + 1, 1, none⟩ (.slice oa O.length ca)).setCell ⟨w.heap.size + 1, 2, none⟩ (.slice ob O.length cb)).setCell ⟨w.heap.size + 1, 3, none⟩ (.slice oc P.rules.length cc)) ⟨P.users, reW P O, reF P O, P.rules.map (reR O)⟩ (.slice oa O.length ca) (.slice ob O.length cb) (.slice oc P.rules.length cc) ∧ Below w.heap.size w ((((wr.setCell ⟨w.heap.size + 1, 0, none⟩ (.int .i64 P.users)).setCell ⟨w.heap.size + 1, 1, none⟩ (.slice oa O.length ca)).setCell ⟨w.heap.size + 1, 2, none⟩ (.slice ob O.length cb)).setCell ⟨w.heap.size + 1, 3, none⟩ (.slice oc P.rules.length cc))) := by
            have hr1 := own_set (o := 3) (own_set (o := 2) (own_set (o := 1) (own_set (o := 0) hR.out.r1 (g := w.heap.size + 1) (by omega) (.int .i64 P.users)) (g := w.heap.size + 1) (by omega) (.slice oa O.length ca)) (g := w.heap.size + 1) (by omega) (.slice ob O.length cb)) (g := w.heap.size + 1) (by omega) (.slice oc P.rules.length cc)
            have hr2 := own_set (o := 3) (own_set (o := 2) (own_set (o := 1) (own_set (o := 0) hR.out.r2 (g := w.heap.size + 1) (by omega) (.int .i64 P.users)) (g := w.heap.size + 1) (by omega) (.slice oa O.length ca)) (g := w.heap.size + 1) (by omega) (.slice ob O.length cb)) (g := w.heap.size + 1) (by omega) (.slice oc P.rules.length cc)
            have ss : ∀ {V : World}, TwS (w.heap.size + 3) V (.slice oc P.rules.length cc) E → ∀ (o : Nat) (u : Value), TwS (w.heap.size + 3) (V.setCell ⟨w.heap.size + 1, o, none⟩ u) (.slice oc P.rules.length cc) E := fun h o u => ⟨own_set h.row (by omega) u, fun p hp => own_set (h.inner p hp) (by omega) u⟩
            have hr3 := (ss (ss (ss (ss hR.out.r3 0 (.int .i64 P.users)) 1 (.slice oa O.length ca)) 2 (.slice ob O.length cb)) 3 (.slice oc P.rules.length cc)).rowR
            rw [hE.out] at hr3
            have bb := (((hR.out.be.setCell (p := ⟨w.heap.size + 1, 0, none⟩) (Nat.le_succ _) (.int .i64 P.users)).setCell (p := ⟨w.heap.size + 1, 1, none⟩) (Nat.le_succ _) (.slice oa O.length ca)).setCell (p := ⟨w.heap.size + 1, 2, none⟩) (Nat.le_succ _) (.slice ob O.length cb)).setCell (p := ⟨w.heap.size + 1, 3, none⟩) (Nat.le_succ _) (.slice oc P.rules.length cc)
            exact ⟨⟨RowW.of_owns hr1, RowI.of_owns hr2, hr3⟩, bb⟩
          clear hX hR hE
          go_wp2
          refine bodyPost_ret (v := .agg #[.int .i64 P.users, .slice oa O.length ca, .slice ob O.length cb, .slice oc P.rules.length cc]) (by simp [results, Tryz.results27, go_sem, x0, x1, x2, x3]) rfl ?_
          exact ⟨_, _, _, rfl, hfin.out.1, hfin.out.2⟩
end Go.Proofs.YtlijlelejobchaaGreatDoor.S
namespace Go.Proofs.YtlijlelejobchaaGreatDoor.S
open Go.RowKit Go.Shelf
theorem LkAt.s1 {W : World} {gl U : Nat} {mv rv : Value} {F : Nat → Nat → Nat} {N : Nat → Nat} {gw : Nat} (h : LkAt W gl U mv rv F N gw) (v : Value) : LkAt (W.setCell ⟨gl, 1, none⟩ v) gl U v rv F N gw :=
  World.rowIs.congr (World.rowIs.set h 1 v) fun i hi => by
    unfold lkF
    by_cases e : i = 1
    · subst e; rfl
    · rw [if_neg e, if_neg e, if_neg e]
theorem LkAt.s2 {W : World} {gl U : Nat} {mv rv : Value} {F : Nat → Nat → Nat} {N : Nat → Nat} {gw : Nat} (h : LkAt W gl U mv rv F N gw) (v : Value) : LkAt (W.setCell ⟨gl, 2, none⟩ v) gl U mv v F N gw :=
  World.rowIs.congr (World.rowIs.set h 2 v) fun i hi => by
    unfold lkF
    by_cases e : i = 2
    · subst e; rfl
    · rw [if_neg e]
      by_cases e1 : i = 0
      · rw [if_pos e1, if_pos e1]
      · rw [if_neg e1, if_neg e1]
        by_cases e2 : i = 1
        · rw [if_pos e2, if_pos e2]
        · rw [if_neg e2, if_neg e2, if_neg e, if_neg e]
/-- A look that is being made: what lies in its box (bm, br), and the rows themselves (vm, vr). -/
structure Nl (w : World) (P : Pb) (wv fv rv : Value) (gw : Nat) (W : World) (bm br vm vr : Value) (L1 : List Nat) (L2 : List Value) (X : List (List (Rl × Value))) : Prop where
  pb : PbB W w.heap.size P wv fv rv
  lk : LkAt W (w.heap.size + 1) P.users.toNat bm br (fun _ _ => 0) (fun _ => 0) gw
  r1 : W.ownsRow (w.heap.size + 2) 55 1 vm L1.length (cellsW L1)
  r2 : W.ownsRow (w.heap.size + 2) 24 1 vr L2.length L2
  len : X.length = L2.length
  inner : ∀ (t : Nat) (v : Value) (E : List (Rl × Value)), L2[t]? = some v → X[t]? = some E → TwO w (w.heap.size + 2) W v E
  sz : w.heap.size + 2 ≤ W.heap.size
  be : Below w.heap.size w W
section
variable {w : World} {P : Pb} {wv fv rv : Value} {gw : Nat} {W W' : World} {bm br vm vr : Value} {L1 : List Nat} {L2 : List Value} {X : List (List (Rl × Value))}
theorem Nl.over (h : Nl w P wv fv rv gw W bm br vm vr L1 L2 X) (hb : Below W.heap.size W W') : Nl w P wv fv rv gw W' bm br vm vr L1 L2 X :=
  ⟨h.pb.below hb, h.lk.below hb, own_below h.r1 hb (Nat.le_refl _), own_below h.r2 hb (Nat.le_refl _), h.len, fun t v E h1 h2 => (h.inner t v E h1 h2).below hb (Nat.le_refl _), Nat.le_trans h.sz hb.size, h.be.trans (hb.mono h.be.size)⟩
theorem Nl.put (h : Nl w P wv fv rv gw W bm br vm vr L1 L2 X) {o : Nat} {u : Value} {bm' br' : Value} (hq : LkAt (W.setCell ⟨w.heap.size + 1, o, none⟩ u) (w.heap.size + 1) P.users.toNat bm' br' (fun _ _ => 0) (fun _ => 0) gw) : Nl w P wv fv rv gw (W.setCell ⟨w.heap.size + 1, o, none⟩ u) bm' br' vm vr L1 L2 X :=
  ⟨(Below.heap_setCell W ⟨w.heap.size + 1, o, none⟩ u _ (by show w.heap.size ≠ w.heap.size + 1; omega)).trans h.pb, hq, own_set h.r1 (by omega) u, own_set h.r2 (by omega) u, h.len, fun t v E h1 h2 => ⟨own_set (h.inner t v E h1 h2).row (by omega) u, (h.inner t v E h1 h2).inner⟩, by simpa [World.setCell] using h.sz, h.be.setCell (by show w.heap.size ≤ w.heap.size + 1; omega) u⟩
theorem Nl.grow (h : Nl w P wv fv rv gw W bm br vm vr L1 L2 X) {ob : Obj} {k : Option Nat} (hk : ∀ j, k = some j → w.heap.size + 2 ≤ j) (hg : (W.alloc ob).grownBy W' k) : Below (w.heap.size + 2) W W' :=
  ((Below.refl _ W).alloc h.sz ob).grown hg (by have := h.sz; simp; omega) hk
theorem Nl.boxes (h : Nl w P wv fv rv gw W bm br vm vr L1 L2 X) (hb : Below (w.heap.size + 2) W W') : PbB W' w.heap.size P wv fv rv ∧ LkAt W' (w.heap.size + 1) P.users.toNat bm br (fun _ _ => 0) (fun _ => 0) gw ∧ w.heap.size + 2 ≤ W'.heap.size ∧ Below w.heap.size w W' :=
  ⟨(hb.block _ (by omega)).trans h.pb, h.lk.of (hb.block _ (by omega)), Nat.le_trans h.sz hb.size, h.be.trans (hb.mono (by omega))⟩
theorem infoRR : (Tryz.prog.info? 24).map (fun i => (i.zero, i.size, i.bytes)) = some (some (.slice none 0 0), 1, 24) := by kernel_rfl
variable {o : Oper} {a : Act} {Q : Exit → Act → World → Prop} {K : Act → World → Prop}
/-- A word more. -/
theorem Nl.wapp1 (s x : Operand) (h : Nl w P wv fv rv gw W bm br vm vr L1 L2 X) (z : Nat) (ho : o.op = .call { callee := .builtin .append, args := #[s, x], argTypes := #[22, 22] })
    (es : a.eval s = vm) (ex : a.eval x = .slice (some ⟨W.heap.size, 0, none⟩) 1 1) (hn : L1.length ≤ 1000000)
    (hK : ∀ o5 n5 c5 w2, Nl w P wv fv rv gw w2 bm br (.slice o5 n5 c5) vr (L1 ++ [z]) L2 X → K (a.put o.dst (.slice o5 n5 c5)) w2) : o.wp Tryz.prog a (W.alloc (.cells #[.int .u64 (z : Int)] 55)) K Q := by
  obtain ⟨i0, hi, hz0, hz1, hz2⟩ := info_parts infoW
  refine wp_append_own _ s x 22 ho (w.heap.size + 2) 55 i0 (.int .u64 0) 1 8 Tryz.underlying22 hi hz0 hz1 hz2 rfl (by decide) vm L1.length (cellsW L1) es (h.r1.alloc _) ⟨W.heap.size, 0, none⟩ 1 1 [.int .u64 (z : Int)] ex rfl (World.news_of_block (cs := #[.int .u64 (z : Int)]) (heap_new _ _)) (by simp [Value.oneCell']) (by unfold maxLen; omega) (by omega) (by have := h.sz; simp; omega) ?_
  intro v2 w2 hown hgrow _
  obtain ⟨o5, c5, rfl⟩ := own_shp hown
  obtain ⟨k1, k2, k4, k5⟩ := h.boxes (h.grow (fun j ej => own_ge' h.r1 ej) hgrow)
  refine hK o5 _ c5 w2 ⟨k1, k2, ?_, kept_kind (h.r2.alloc _) (h.r1.alloc _) (by decide) hgrow, h.len, fun t v E h1 h2 => ⟨kept_kind ((h.inner t v E h1 h2).row.alloc _) (h.r1.alloc _) (by decide) hgrow, (h.inner t v E h1 h2).inner⟩, k4, k5⟩
  rw [show cellsW (L1 ++ [z]) = cellsW L1 ++ [.int .u64 (z : Int)] by simp [cellsW], List.length_append]
  exact hown
/-- A row of rules more. -/
theorem Nl.wapp2 (s x : Operand) (h : Nl w P wv fv rv gw W bm br vm vr L1 L2 X) (z : Value) (E0 : List (Rl × Value)) (ho : o.op = .call { callee := .builtin .append, args := #[s, x], argTypes := #[91, 91] })
    (es : a.eval s = vr) (ex : a.eval x = .slice (some ⟨W.heap.size, 0, none⟩) 1 1) (hz : TwO w (w.heap.size + 2) W z E0) (hn : L2.length ≤ 1000000)
    (hK : ∀ o5 n5 c5 w2, Nl w P wv fv rv gw w2 bm br vm (.slice o5 n5 c5) L1 (L2 ++ [z]) (X ++ [E0]) → K (a.put o.dst (.slice o5 n5 c5)) w2) : o.wp Tryz.prog a (W.alloc (.cells #[z] 24)) K Q := by
  obtain ⟨i0, hi, hz0, hz1, hz2⟩ := info_parts infoRR
  have hone : z.oneCell' = true := by obtain ⟨a, b, e⟩ := own_shp hz.row; rw [e]; rfl
  refine wp_append_own _ s x 91 ho (w.heap.size + 2) 24 i0 (.slice none 0 0) 1 24 Tryz.underlying91 hi hz0 hz1 hz2 rfl (by decide) vr L2.length L2 es (h.r2.alloc _) ⟨W.heap.size, 0, none⟩ 1 1 [z] ex rfl (World.news_of_block (cs := #[z]) (heap_new _ _)) (by simpa using hone) (by unfold maxLen; omega) (by omega) (by have := h.sz; simp; omega) ?_
  intro v2 w2 hown hgrow _
  obtain ⟨o5, c5, rfl⟩ := own_shp hown
  obtain ⟨k1, k2, k4, k5⟩ := h.boxes (h.grow (fun j ej => own_ge' h.r2 ej) hgrow)
  refine hK o5 _ c5 w2 ⟨k1, k2, kept_kind (h.r1.alloc _) (h.r2.alloc _) (by decide) hgrow, ?_, by simp [h.len], fun t v E h1 h2 => ?_, k4, k5⟩
  · rw [List.length_append]
    exact hown
  · rcases Nat.lt_or_ge t L2.length with ht | ht
    · rw [List.getElem?_append_left ht] at h1
      rw [List.getElem?_append_left (by rw [h.len]; exact ht)] at h2
      exact ⟨kept_kind ((h.inner t v E h1 h2).row.alloc _) (h.r2.alloc _) (by decide) hgrow, (h.inner t v E h1 h2).inner⟩
    · have e : t = L2.length := by
        have := (List.getElem?_eq_some_iff.1 h1).1
        simp at this; omega
      subst e
      have e1 : v = z := by simpa using h1.symm
      have e2 : E = E0 := by
        rw [← h.len] at h2
        simpa using h2.symm
      subst e1 e2
      exact ⟨kept_kind (hz.row.alloc _) (h.r2.alloc _) (by decide) hgrow, hz.inner⟩
end
end Go.Proofs.YtlijlelejobchaaGreatDoor.S
namespace Go.Proofs.YtlijlelejobchaaGreatDoor.S
open Go.RowKit Go.Shelf
def zfL (i : Nat) : Value := if i = 172 then .pointer none else lkF 0 (.slice none 0 0) (.slice none 0 0) (fun _ _ => 0) (fun _ => 0) 0 i
def zcL : Array Value := ((List.range 173).map zfL).toArray
theorem zcL_size : zcL.size = 173 := by simp [zcL]
theorem zcL_ne : ¬ zcL = #[] := fun e => by have := congrArg Array.size e; rw [zcL_size] at this; cases this
theorem zeroL (w : World) : (zeroValue 94).run Tryz.prog w = .ok (.agg zcL) w := by kernel_rfl
theorem lk_start (w : World) (U gw : Nat) : LkAt (w.alloc (.cells ((zcL.setIfInBounds 0 (.int .i64 (U : Int))).setIfInBounds 172 (.pointer (some ⟨gw, 0, none⟩))) 94)) w.heap.size U (.slice none 0 0) (.slice none 0 0) (fun _ _ => 0) (fun _ => 0) gw := by
  have hsz : ((zcL.setIfInBounds 0 (.int .i64 (U : Int))).setIfInBounds 172 (.pointer (some ⟨gw, 0, none⟩))).size = 173 := by rw [Array.size_setIfInBounds, Array.size_setIfInBounds, zcL_size]
  have hat : ∀ i, i < ((zcL.setIfInBounds 0 (.int .i64 (U : Int))).setIfInBounds 172 (.pointer (some ⟨gw, 0, none⟩))).size → ((zcL.setIfInBounds 0 (.int .i64 (U : Int))).setIfInBounds 172 (.pointer (some ⟨gw, 0, none⟩)))[i]? = some (lkF U (.slice none 0 0) (.slice none 0 0) (fun _ _ => 0) (fun _ => 0) gw i) := fun i hi => by
    rw [hsz] at hi
    rw [Array.getElem?_setIfInBounds, Array.getElem?_setIfInBounds, Array.size_setIfInBounds, zcL_size]
    by_cases e : 172 = i
    · subst e; rfl
    · rw [if_neg e]
      by_cases e0 : 0 = i
      · subst e0; rfl
      · rw [if_neg e0]
        have : zcL[i]? = some (zfL i) := by simp [zcL, hi]
        rw [this]
        simp only [zfL, lkF, if_neg (show ¬ i = 172 by omega), if_neg (show ¬ i = 0 by omega), if_pos (show i < 172 by omega)]
  generalize (zcL.setIfInBounds 0 (.int .i64 (U : Int))).setIfInBounds 172 (.pointer (some ⟨gw, 0, none⟩)) = A at *
  have h := World.rowIs_alloc w A 94 (lkF U (.slice none 0 0) (.slice none 0 0) (fun _ _ => 0) (fun _ => 0) gw) hat
  rw [hsz] at h
  exact h
theorem PbB.all {w : World} {g : Nat} {P : Pb} {wv fv rv : Value} (h : PbB w g P wv fv rv) : w.cell? ⟨g, 0, none⟩ = some (.int .i64 P.users) ∧ w.cell? ⟨g, 1, none⟩ = some wv ∧ w.cell? ⟨g, 2, none⟩ = some fv ∧ w.cell? ⟨g, 3, none⟩ = some rv := ⟨h.c0, h.c1, h.c2, h.c3⟩
theorem Nl.start (w : World) (P : Pb) (wv fv rv : Value) (gw : Nat) (hU : 0 ≤ P.users) : Nl w P wv fv rv gw ((w.alloc (.cells #[.int .i64 P.users, wv, fv, rv] 26)).alloc (.cells ((zcL.setIfInBounds 0 (.int .i64 P.users)).setIfInBounds 172 (.pointer (some ⟨gw, 0, none⟩))) 94)) (.slice none 0 0) (.slice none 0 0) (.slice none 0 0) (.slice none 0 0) [] [] [] := by
  have n1 := heap_new w (.cells #[.int .i64 P.users, wv, fv, rv] 26)
  have b0 : Below w.heap.size w (w.alloc (.cells #[.int .i64 P.users, wv, fv, rv] 26)) := (Below.refl _ w).alloc (Nat.le_refl _) _
  have s1 : (w.alloc (.cells #[.int .i64 P.users, wv, fv, rv] 26)).heap.size = w.heap.size + 1 := by simp
  generalize w.alloc (.cells #[.int .i64 P.users, wv, fv, rv] 26) = V1 at *
  have hl := lk_start V1 P.users.toNat gw
  rw [s1, Int.toNat_of_nonneg hU] at hl
  have b1 : Below V1.heap.size V1 (V1.alloc (.cells ((zcL.setIfInBounds 0 (.int .i64 P.users)).setIfInBounds 172 (.pointer (some ⟨gw, 0, none⟩))) 94)) := (Below.refl _ V1).alloc (Nat.le_refl _) _
  exact ⟨(b1.block _ (by omega)).trans n1, hl, World.ownsRow_nil _ _ _ _, World.ownsRow_nil _ _ _ _, rfl, (fun _ _ _ h => by cases h), by simp [s1], b0.trans (b1.mono b0.size)⟩
set_option maxRecDepth 100000 in
set_option maxHeartbeats 4000000 in
theorem newLookF (P : Pb) (wv fv rv : Value) (gw : Nat) (w : World) (h : PbV w P wv fv rv) (hn : P.who.length ≤ 12) (hf : P.fixed.length = P.who.length) (hx : ∀ x ∈ P.fixed, x = -1 ∨ (0 ≤ x ∧ x < 64)) (hU : 0 ≤ P.users) (hlr : P.rules.length ≤ 1000) (hm : ∀ r ∈ P.rules, r.steps.length ≤ 1000) :
    Calls Tryz.prog 53 #[pbV P wv fv rv, .pointer (some ⟨gw, 0, none⟩)] w fun e w' => e = .returned (.pointer (some ⟨w.heap.size + 1, 0, none⟩)) ∧ ∃ vm vr L2 X, Hid (Nl w P wv fv rv gw w' vm vr vm vr ((List.range P.who.length).map (mayP P)) L2 X) ∧ Hid (X.length = P.who.length ∧ ∀ (t : Nat) (E : List (Rl × Value)), X[t]? = some E → E.map Prod.fst = rulN P.rules (t : Int)) := by
  have hs := h.shape
  have z0 := zeroL
  have z1 := zcL_size
  have z2 := zcL_ne
  have KM : Hid (∀ (t : Nat) (V : World), t < P.who.length → Below w.heap.size w V → Calls Tryz.prog 33 #[pbV P wv fv rv, .int .i64 (t : Int)] V fun e w' => e = .returned (.int .u64 (mayP P t : Int)) ∧ Below V.heap.size V w') := fun t V ht hV => mayF P wv fv rv t V (h.below hV) ht (by omega) hx
  have KR : Hid (∀ (t : Nat) (V : World), Below w.heap.size w V → Calls Tryz.prog 61 #[pbV P wv fv rv, .int .i64 (t : Int)] V fun e w' => ∃ v E, e = .returned v ∧ E.map Prod.fst = rulN P.rules (t : Int) ∧ TwO w V.heap.size w' v E ∧ Below V.heap.size V w') := fun t V hV => rulesOfF0 P wv fv rv (t : Int) w V h hV hlr hm
  obtain ⟨ow, cw, of, cf, or, cr, rfl, rfl, rfl⟩ := hs
  have hst := hide' (Nl.start w P (.slice ow P.who.length cw) (.slice of P.fixed.length cf) (.slice or P.rules.length cr) gw hU)
  unfold pbV at KM KR ⊢
  clear h hx hm hf hU
  go_enter Tryz.func53, Tryz.ntmps53
  go_wp2
  go_loopw [6, 15] (fun _ p wr => ∃ (j : Nat) (vm vr : Value) (L2 : List Value) (X : List (List (Rl × Value))), j ≤ P.who.length ∧ p = .int .i64 (j : Int) ∧ Hid (Nl w P (.slice ow P.who.length cw) (.slice of P.fixed.length cf) (.slice or P.rules.length cr) gw wr vm vr vm vr ((List.range j).map (mayP P)) L2 X) ∧ Hid (X.length = j ∧ ∀ (t : Nat) (E : List (Rl × Value)), X[t]? = some E → E.map Prod.fst = rulN P.rules (t : Int))) (fun _ p _ => ((P.who.length : Int) - intOf p).toNat)
  case atStart => exact ⟨0, _, _, [], [], Nat.zero_le _, rfl, hst, rfl, fun t E h => by cases h⟩
  case round =>
    clear hst z0 z1 z2
    obtain ⟨j, vm, vr, L2, X, hj, rfl, hN, hX⟩ := hrel
    by_cases hlt : j < P.who.length
    · have hlt' : (j : Int) < (P.who.length : Int) := by omega
      obtain ⟨om, nm, cm, rfl⟩ : ∃ a b c, vm = .slice a b c := by obtain ⟨a, c, e⟩ := own_shp hN.out.r1; exact ⟨a, _, c, e⟩
      obtain ⟨og, ng, cg, rfl⟩ : ∃ a b c, vr = .slice a b c := by obtain ⟨a, c, e⟩ := own_shp hN.out.r2; exact ⟨a, _, c, e⟩
      have hlen : ((List.range j).map (mayP P)).length ≤ 1000 ∧ L2.length ≤ 1000 := ⟨by simp; omega, by rw [← hN.out.len, hX.out.1]; omega⟩
      have hL1 : Hid (((List.range (j + 1)).map (mayP P)) = (List.range j).map (mayP P) ++ [mayP P j]) := by show _ = _; rw [List.range_succ, List.map_append]; rfl
      have K1 : Hid (∀ V, Below w.heap.size w V → _) := fun V hV => KM.out j V hlt hV
      have K2 : Hid (∀ V, Below w.heap.size w V → _) := fun V hV => KR.out j V hV
      have hNd := hide' (hN.out.over (Below.refl _ wr).drew)
      have g0 := hNd.out.lk.c1
      generalize hLa : (List.range j).map (mayP P) = La at *
      generalize hz : mayP P j = z at *
      clear hN hLa hz KM KR
      go_upto_region 5 with fail
      go_cut [6] from 18 to 29 (fun s wx => s = .int .i64 (j : Int) ∧ ∃ o5 n5 c5, Hid (Nl w P (.slice ow P.who.length cw) (.slice of P.fixed.length cf) (.slice or P.rules.length cr) gw wx (.slice o5 n5 c5) (.slice og ng cg) (.slice o5 n5 c5) (.slice og ng cg) (La ++ [z]) L2 X))
      case first =>
        as_aux_lemma =>
        refine wp_region_held_drew (S := (fun V => V.cell? ⟨w.heap.size, 0, none⟩ = some (.int .i64 P.users) ∧ V.cell? ⟨w.heap.size, 1, none⟩ = some (.slice ow P.who.length cw) ∧ V.cell? ⟨w.heap.size, 2, none⟩ = some (.slice of P.fixed.length cf) ∧ V.cell? ⟨w.heap.size, 3, none⟩ = some (.slice or P.rules.length cr))) (by kernel_rfl) ?_ (fun hHeld => ?_)
        · exact hNd.out.pb.all
        refine wpAnyH_take (i := 0) (oi := { dst := some 18, op := Op.move (Operand.tmp 5), type := 83, pos := "look.go:36", after := #[], guard := none }) (v := ?_) rfl (by kernel_rfl) (by kernel_rfl) (by kernel_rfl) (fun _ _ _ h => h) (Or.inl ⟨by rfl, ?_⟩) (by assumption) ?_
        rotate_left
        · intro w hSw; (try dsimp only at hSw); go_simp <;> with_reducible rfl
        simp only [Act.put, List.setIfInBounds_toArray, List.set_cons_zero, List.set_cons_succ]
        refine wpAnyH_take (i := 1) (oi := { dst := some 19, op := Op.move (Operand.tmp 5), type := 83, pos := "look.go:36", after := #[], guard := none }) (v := ?_) rfl (by kernel_rfl) (by kernel_rfl) (by kernel_rfl) (fun _ _ _ h => h) (Or.inl ⟨by rfl, ?_⟩) (by assumption) ?_
        rotate_left
        · intro w hSw; (try dsimp only at hSw); go_simp <;> with_reducible rfl
        simp only [Act.put, List.setIfInBounds_toArray, List.set_cons_zero, List.set_cons_succ]
        refine wpAnyH_take (i := 2) (oi := { dst := some 20, op := Op.nilCheck (Operand.tmp 19), type := 0, pos := "look.go:36", after := #[{ on := 1, ground := Ground.data }], guard := none }) (v := ?_) rfl (by kernel_rfl) (by kernel_rfl) (by kernel_rfl) (fun _ _ _ h => h) (Or.inl ⟨by rfl, ?_⟩) (by assumption) ?_
        rotate_left
        · intro w hSw; (try dsimp only at hSw); go_simp <;> with_reducible rfl
        simp only [Act.put, List.setIfInBounds_toArray, List.set_cons_zero, List.set_cons_succ]
        refine wpAnyH_take (i := 3) (oi := { dst := some 21, op := Op.fieldAddr 94 (Operand.tmp 20) 1, type := 0, pos := "look.go:36", after := #[{ on := 2, ground := Ground.data }], guard := none }) (v := ?_) rfl (by kernel_rfl) (by kernel_rfl) (by kernel_rfl) (fun _ _ _ h => h) (Or.inl ⟨by rfl, ?_⟩) (by assumption) ?_
        rotate_left
        · intro w hSw; (try dsimp only at hSw); go_simp <;> with_reducible rfl
        simp only [Act.put, List.setIfInBounds_toArray, List.set_cons_zero, List.set_cons_succ]
        refine wpAnyH_take (i := 5) (oi := { dst := some 23, op := Op.load 26 (Operand.tmp 2), type := 26, pos := "look.go:36", after := #[], guard := none }) (v := ?_) rfl (by kernel_rfl) (by kernel_rfl) (by kernel_rfl) (fun _ _ _ h => h) (Or.inl ⟨by rfl, ?_⟩) (by assumption) ?_
        rotate_left
        · intro w hSw; (try dsimp only at hSw); go_simp <;> with_reducible rfl
        simp only [Act.put, List.setIfInBounds_toArray, List.set_cons_zero, List.set_cons_succ]
        refine wpAnyH_take (i := 6) (oi := { dst := some 24, op := Op.move (Operand.tmp 6), type := 3, pos := "look.go:36", after := #[], guard := none }) (v := ?_) rfl (by kernel_rfl) (by kernel_rfl) (by kernel_rfl) (fun _ _ _ h => h) (Or.inl ⟨by rfl, ?_⟩) (by assumption) ?_
        rotate_left
        · intro w hSw; (try dsimp only at hSw); go_simp <;> with_reducible rfl
        simp only [Act.put, List.setIfInBounds_toArray, List.set_cons_zero, List.set_cons_succ]
        refine wpAnyH_ready (rs := [4, 7]) (by kernel_rfl) (by simp) ?_
        refine AllReadyH.cons (o := { dst := some 22, op := Op.load 22 (Operand.tmp 21), type := 22, pos := "look.go:36", after := #[{ on := 3, ground := Ground.data }], guard := none }) rfl (fun K hK => ?_) ?_
        · skip
          go_simp
          refine hK.out _ _ ?_ (fun hHeld => ?_)
          · exact hNd.out.pb.all
          clear hK K
          try simp only [Act.put, List.setIfInBounds_toArray, List.set_cons_zero, List.set_cons_succ]
          refine wpAnyH_ready (rs := [7]) (by kernel_rfl) (by simp) ?_
          refine AllReadyH.cons (o := { dst := some 25, op := Op.call { callee := Callee.value (Operand.func 33), args := #[Operand.tmp 23, Operand.tmp 24], argTypes := #[26, 3] }, type := 55, pos := "look.go:36", after := #[{ on := 5, ground := Ground.data }, { on := 6, ground := Ground.data }], guard := none }) rfl (fun K hK => ?_) AllReadyH.nil
          go_simp
          go_at_call 33; refine (K1.out _ hNd.out.be).mono ?_; rintro e w1 ⟨rfl, hb1⟩; have hN1 := hide' (hNd.out.over hb1); have g1 := hN1.out.lk.c1; have g2 : ∀ o, (w1.alloc o).cell? ⟨w.heap.size + 1, 1, none⟩ = some (.slice om nm cm) := fun o => (hN1.out.over ((Below.refl _ _).alloc (Nat.le_refl _) _)).lk.c1; (try dsimp only)
          refine hK.out _ _ ?_ (fun hHeld => ?_)
          · exact hN1.out.pb.all
          clear hK K
          try simp only [Act.put, List.setIfInBounds_toArray, List.set_cons_zero, List.set_cons_succ]
          refine wpAnyH_ready (rs := [8]) (by kernel_rfl) (by simp) ?_
          refine AllReadyH.cons (o := { dst := some 26, op := Op.buildSlice 22 1 #[(0, Operand.tmp 25)], type := 22, pos := "look.go:36", after := #[{ on := 7, ground := Ground.data }], guard := none }) rfl (fun K hK => ?_) AllReadyH.nil
          go_simp
          refine hK.out _ _ ?_ (fun hHeld => ?_)
          · exact (hN1.out.over ((Below.refl _ _).alloc (Nat.le_refl _) _)).pb.all
          clear hK K
          try simp only [Act.put, List.setIfInBounds_toArray, List.set_cons_zero, List.set_cons_succ]
          refine wpAnyH_ready (rs := [9]) (by kernel_rfl) (by simp) ?_
          refine AllReadyH.cons (o := { dst := some 27, op := Op.call { callee := Callee.builtin Builtin.append, args := #[Operand.tmp 22, Operand.tmp 26], argTypes := #[22, 22] }, type := 22, pos := "look.go:36", after := #[{ on := 4, ground := Ground.data }, { on := 8, ground := Ground.data }, { on := 7, ground := Ground.chain }], guard := none }) rfl (fun K hK => ?_) AllReadyH.nil
          rw [if_pos (by rfl)]
          refine Nl.wapp1 (.tmp 22) (.tmp 26) hN1.out z rfl rfl rfl (by omega) ?_; intro o5 n5 c5 w2 hN2; have q2 := hN2.lk.c1; have f2 := hN2.lk.frz 1; (try dsimp only)
          refine hK.out _ _ ?_ (fun hHeld => ?_)
          · exact hN2.pb.all
          clear hK K
          try simp only [Act.put, List.setIfInBounds_toArray, List.set_cons_zero, List.set_cons_succ]
          refine wpAnyH_take (i := 10) (oi := { dst := some 28, op := Op.nilCheck (Operand.tmp 18), type := 0, pos := "look.go:36", after := #[{ on := 0, ground := Ground.data }, { on := 0, ground := Ground.phase }, { on := 1, ground := Ground.phase }, { on := 2, ground := Ground.phase }, { on := 3, ground := Ground.phase }, { on := 4, ground := Ground.phase }, { on := 5, ground := Ground.phase }, { on := 6, ground := Ground.phase }, { on := 7, ground := Ground.phase }, { on := 8, ground := Ground.phase }, { on := 9, ground := Ground.phase }], guard := none }) (v := ?_) rfl (by kernel_rfl) (by kernel_rfl) (by kernel_rfl) (fun _ _ _ h => h) (Or.inl ⟨by rfl, ?_⟩) (by assumption) ?_
          rotate_left
          · intro w hSw; (try dsimp only at hSw); go_simp <;> with_reducible rfl
          simp only [Act.put, List.setIfInBounds_toArray, List.set_cons_zero, List.set_cons_succ]
          refine wpAnyH_take (i := 11) (oi := { dst := some 29, op := Op.fieldAddr 94 (Operand.tmp 28) 1, type := 0, pos := "look.go:36", after := #[{ on := 10, ground := Ground.data }, { on := 0, ground := Ground.phase }, { on := 1, ground := Ground.phase }, { on := 2, ground := Ground.phase }, { on := 3, ground := Ground.phase }, { on := 4, ground := Ground.phase }, { on := 5, ground := Ground.phase }, { on := 6, ground := Ground.phase }, { on := 7, ground := Ground.phase }, { on := 8, ground := Ground.phase }, { on := 9, ground := Ground.phase }], guard := none }) (v := ?_) rfl (by kernel_rfl) (by kernel_rfl) (by kernel_rfl) (fun _ _ _ h => h) (Or.inl ⟨by rfl, ?_⟩) (by assumption) ?_
          rotate_left
          · intro w hSw; (try dsimp only at hSw); go_simp <;> with_reducible rfl
          simp only [Act.put, List.setIfInBounds_toArray, List.set_cons_zero, List.set_cons_succ]
          refine wpAnyH_ready (rs := [12]) (by kernel_rfl) (by simp) ?_
          refine AllReadyH.cons (o := { dst := none, op := Op.store 22 (Operand.tmp 29) (Operand.tmp 27), type := 0, pos := "look.go:36", after := #[{ on := 11, ground := Ground.data }, { on := 9, ground := Ground.data }, { on := 9, ground := Ground.chain }, { on := 0, ground := Ground.phase }, { on := 1, ground := Ground.phase }, { on := 2, ground := Ground.phase }, { on := 3, ground := Ground.phase }, { on := 4, ground := Ground.phase }, { on := 5, ground := Ground.phase }, { on := 6, ground := Ground.phase }, { on := 7, ground := Ground.phase }, { on := 8, ground := Ground.phase }, { on := 9, ground := Ground.phase }], guard := none }) rfl (fun K hK => ?_) AllReadyH.nil
          go_simp
          refine hK.out _ _ ?_ (fun hHeld => ?_)
          · exact (hN2.put (hN2.lk.s1 (.slice o5 n5 c5))).pb.all
          clear hK K
          try simp only [Act.put, List.setIfInBounds_toArray, List.set_cons_zero, List.set_cons_succ]
          refine wpAnyH_done (by kernel_rfl) ?_ _
          skip
          go_wp2
          go_meet
          exact ⟨rfl, _, _, _, hN2.put (hN2.lk.s1 _)⟩
        refine AllReadyH.cons (o := { dst := some 25, op := Op.call { callee := Callee.value (Operand.func 33), args := #[Operand.tmp 23, Operand.tmp 24], argTypes := #[26, 3] }, type := 55, pos := "look.go:36", after := #[{ on := 5, ground := Ground.data }, { on := 6, ground := Ground.data }], guard := none }) rfl (fun K hK => ?_) AllReadyH.nil
        go_simp
        go_at_call 33; refine (K1.out _ hNd.out.be).mono ?_; rintro e w1 ⟨rfl, hb1⟩; have hN1 := hide' (hNd.out.over hb1); have g1 := hN1.out.lk.c1; have g2 : ∀ o, (w1.alloc o).cell? ⟨w.heap.size + 1, 1, none⟩ = some (.slice om nm cm) := fun o => (hN1.out.over ((Below.refl _ _).alloc (Nat.le_refl _) _)).lk.c1; (try dsimp only)
        refine hK.out _ _ ?_ (fun hHeld => ?_)
        · exact hN1.out.pb.all
        clear hK K
        try simp only [Act.put, List.setIfInBounds_toArray, List.set_cons_zero, List.set_cons_succ]
        refine wpAnyH_ready (rs := [4, 8]) (by kernel_rfl) (by simp) ?_
        refine AllReadyH.cons (o := { dst := some 22, op := Op.load 22 (Operand.tmp 21), type := 22, pos := "look.go:36", after := #[{ on := 3, ground := Ground.data }], guard := none }) rfl (fun K hK => ?_) ?_
        · skip
          go_simp
          refine hK.out _ _ ?_ (fun hHeld => ?_)
          · exact hN1.out.pb.all
          clear hK K
          try simp only [Act.put, List.setIfInBounds_toArray, List.set_cons_zero, List.set_cons_succ]
          refine wpAnyH_ready (rs := [8]) (by kernel_rfl) (by simp) ?_
          refine AllReadyH.cons (o := { dst := some 26, op := Op.buildSlice 22 1 #[(0, Operand.tmp 25)], type := 22, pos := "look.go:36", after := #[{ on := 7, ground := Ground.data }], guard := none }) rfl (fun K hK => ?_) AllReadyH.nil
          go_simp
          refine hK.out _ _ ?_ (fun hHeld => ?_)
          · exact (hN1.out.over ((Below.refl _ _).alloc (Nat.le_refl _) _)).pb.all
          clear hK K
          try simp only [Act.put, List.setIfInBounds_toArray, List.set_cons_zero, List.set_cons_succ]
          refine wpAnyH_ready (rs := [9]) (by kernel_rfl) (by simp) ?_
          refine AllReadyH.cons (o := { dst := some 27, op := Op.call { callee := Callee.builtin Builtin.append, args := #[Operand.tmp 22, Operand.tmp 26], argTypes := #[22, 22] }, type := 22, pos := "look.go:36", after := #[{ on := 4, ground := Ground.data }, { on := 8, ground := Ground.data }, { on := 7, ground := Ground.chain }], guard := none }) rfl (fun K hK => ?_) AllReadyH.nil
          rw [if_pos (by rfl)]
          refine Nl.wapp1 (.tmp 22) (.tmp 26) hN1.out z rfl rfl rfl (by omega) ?_; intro o5 n5 c5 w2 hN2; have q2 := hN2.lk.c1; have f2 := hN2.lk.frz 1; (try dsimp only)
          refine hK.out _ _ ?_ (fun hHeld => ?_)
          · exact hN2.pb.all
          clear hK K
          try simp only [Act.put, List.setIfInBounds_toArray, List.set_cons_zero, List.set_cons_succ]
          refine wpAnyH_take (i := 10) (oi := { dst := some 28, op := Op.nilCheck (Operand.tmp 18), type := 0, pos := "look.go:36", after := #[{ on := 0, ground := Ground.data }, { on := 0, ground := Ground.phase }, { on := 1, ground := Ground.phase }, { on := 2, ground := Ground.phase }, { on := 3, ground := Ground.phase }, { on := 4, ground := Ground.phase }, { on := 5, ground := Ground.phase }, { on := 6, ground := Ground.phase }, { on := 7, ground := Ground.phase }, { on := 8, ground := Ground.phase }, { on := 9, ground := Ground.phase }], guard := none }) (v := ?_) rfl (by kernel_rfl) (by kernel_rfl) (by kernel_rfl) (fun _ _ _ h => h) (Or.inl ⟨by rfl, ?_⟩) (by assumption) ?_
          rotate_left
          · intro w hSw; (try dsimp only at hSw); go_simp <;> with_reducible rfl
          simp only [Act.put, List.setIfInBounds_toArray, List.set_cons_zero, List.set_cons_succ]
          refine wpAnyH_take (i := 11) (oi := { dst := some 29, op := Op.fieldAddr 94 (Operand.tmp 28) 1, type := 0, pos := "look.go:36", after := #[{ on := 10, ground := Ground.data }, { on := 0, ground := Ground.phase }, { on := 1, ground := Ground.phase }, { on := 2, ground := Ground.phase }, { on := 3, ground := Ground.phase }, { on := 4, ground := Ground.phase }, { on := 5, ground := Ground.phase }, { on := 6, ground := Ground.phase }, { on := 7, ground := Ground.phase }, { on := 8, ground := Ground.phase }, { on := 9, ground := Ground.phase }], guard := none }) (v := ?_) rfl (by kernel_rfl) (by kernel_rfl) (by kernel_rfl) (fun _ _ _ h => h) (Or.inl ⟨by rfl, ?_⟩) (by assumption) ?_
          rotate_left
          · intro w hSw; (try dsimp only at hSw); go_simp <;> with_reducible rfl
          simp only [Act.put, List.setIfInBounds_toArray, List.set_cons_zero, List.set_cons_succ]
          refine wpAnyH_ready (rs := [12]) (by kernel_rfl) (by simp) ?_
          refine AllReadyH.cons (o := { dst := none, op := Op.store 22 (Operand.tmp 29) (Operand.tmp 27), type := 0, pos := "look.go:36", after := #[{ on := 11, ground := Ground.data }, { on := 9, ground := Ground.data }, { on := 9, ground := Ground.chain }, { on := 0, ground := Ground.phase }, { on := 1, ground := Ground.phase }, { on := 2, ground := Ground.phase }, { on := 3, ground := Ground.phase }, { on := 4, ground := Ground.phase }, { on := 5, ground := Ground.phase }, { on := 6, ground := Ground.phase }, { on := 7, ground := Ground.phase }, { on := 8, ground := Ground.phase }, { on := 9, ground := Ground.phase }], guard := none }) rfl (fun K hK => ?_) AllReadyH.nil
          go_simp
          refine hK.out _ _ ?_ (fun hHeld => ?_)
          · exact (hN2.put (hN2.lk.s1 (.slice o5 n5 c5))).pb.all
          clear hK K
          try simp only [Act.put, List.setIfInBounds_toArray, List.set_cons_zero, List.set_cons_succ]
          refine wpAnyH_done (by kernel_rfl) ?_ _
          skip
          go_wp2
          go_meet
          exact ⟨rfl, _, _, _, hN2.put (hN2.lk.s1 _)⟩
        refine AllReadyH.cons (o := { dst := some 26, op := Op.buildSlice 22 1 #[(0, Operand.tmp 25)], type := 22, pos := "look.go:36", after := #[{ on := 7, ground := Ground.data }], guard := none }) rfl (fun K hK => ?_) AllReadyH.nil
        go_simp
        refine hK.out _ _ ?_ (fun hHeld => ?_)
        · exact (hN1.out.over ((Below.refl _ _).alloc (Nat.le_refl _) _)).pb.all
        clear hK K
        try simp only [Act.put, List.setIfInBounds_toArray, List.set_cons_zero, List.set_cons_succ]
        refine wpAnyH_ready (rs := [4]) (by kernel_rfl) (by simp) ?_
        refine AllReadyH.cons (o := { dst := some 22, op := Op.load 22 (Operand.tmp 21), type := 22, pos := "look.go:36", after := #[{ on := 3, ground := Ground.data }], guard := none }) rfl (fun K hK => ?_) AllReadyH.nil
        go_simp
        refine hK.out _ _ ?_ (fun hHeld => ?_)
        · exact (hN1.out.over ((Below.refl _ _).alloc (Nat.le_refl _) _)).pb.all
        clear hK K
        try simp only [Act.put, List.setIfInBounds_toArray, List.set_cons_zero, List.set_cons_succ]
        refine wpAnyH_ready (rs := [9]) (by kernel_rfl) (by simp) ?_
        refine AllReadyH.cons (o := { dst := some 27, op := Op.call { callee := Callee.builtin Builtin.append, args := #[Operand.tmp 22, Operand.tmp 26], argTypes := #[22, 22] }, type := 22, pos := "look.go:36", after := #[{ on := 4, ground := Ground.data }, { on := 8, ground := Ground.data }, { on := 7, ground := Ground.chain }], guard := none }) rfl (fun K hK => ?_) AllReadyH.nil
        rw [if_pos (by rfl)]
        refine Nl.wapp1 (.tmp 22) (.tmp 26) hN1.out z rfl rfl rfl (by omega) ?_; intro o5 n5 c5 w2 hN2; have q2 := hN2.lk.c1; have f2 := hN2.lk.frz 1; (try dsimp only)
        refine hK.out _ _ ?_ (fun hHeld => ?_)
        · exact hN2.pb.all
        clear hK K
        try simp only [Act.put, List.setIfInBounds_toArray, List.set_cons_zero, List.set_cons_succ]
        refine wpAnyH_take (i := 10) (oi := { dst := some 28, op := Op.nilCheck (Operand.tmp 18), type := 0, pos := "look.go:36", after := #[{ on := 0, ground := Ground.data }, { on := 0, ground := Ground.phase }, { on := 1, ground := Ground.phase }, { on := 2, ground := Ground.phase }, { on := 3, ground := Ground.phase }, { on := 4, ground := Ground.phase }, { on := 5, ground := Ground.phase }, { on := 6, ground := Ground.phase }, { on := 7, ground := Ground.phase }, { on := 8, ground := Ground.phase }, { on := 9, ground := Ground.phase }], guard := none }) (v := ?_) rfl (by kernel_rfl) (by kernel_rfl) (by kernel_rfl) (fun _ _ _ h => h) (Or.inl ⟨by rfl, ?_⟩) (by assumption) ?_
        rotate_left
        · intro w hSw; (try dsimp only at hSw); go_simp <;> with_reducible rfl
        simp only [Act.put, List.setIfInBounds_toArray, List.set_cons_zero, List.set_cons_succ]
        refine wpAnyH_take (i := 11) (oi := { dst := some 29, op := Op.fieldAddr 94 (Operand.tmp 28) 1, type := 0, pos := "look.go:36", after := #[{ on := 10, ground := Ground.data }, { on := 0, ground := Ground.phase }, { on := 1, ground := Ground.phase }, { on := 2, ground := Ground.phase }, { on := 3, ground := Ground.phase }, { on := 4, ground := Ground.phase }, { on := 5, ground := Ground.phase }, { on := 6, ground := Ground.phase }, { on := 7, ground := Ground.phase }, { on := 8, ground := Ground.phase }, { on := 9, ground := Ground.phase }], guard := none }) (v := ?_) rfl (by kernel_rfl) (by kernel_rfl) (by kernel_rfl) (fun _ _ _ h => h) (Or.inl ⟨by rfl, ?_⟩) (by assumption) ?_
        rotate_left
        · intro w hSw; (try dsimp only at hSw); go_simp <;> with_reducible rfl
        simp only [Act.put, List.setIfInBounds_toArray, List.set_cons_zero, List.set_cons_succ]
        refine wpAnyH_ready (rs := [12]) (by kernel_rfl) (by simp) ?_
        refine AllReadyH.cons (o := { dst := none, op := Op.store 22 (Operand.tmp 29) (Operand.tmp 27), type := 0, pos := "look.go:36", after := #[{ on := 11, ground := Ground.data }, { on := 9, ground := Ground.data }, { on := 9, ground := Ground.chain }, { on := 0, ground := Ground.phase }, { on := 1, ground := Ground.phase }, { on := 2, ground := Ground.phase }, { on := 3, ground := Ground.phase }, { on := 4, ground := Ground.phase }, { on := 5, ground := Ground.phase }, { on := 6, ground := Ground.phase }, { on := 7, ground := Ground.phase }, { on := 8, ground := Ground.phase }, { on := 9, ground := Ground.phase }], guard := none }) rfl (fun K hK => ?_) AllReadyH.nil
        go_simp
        refine hK.out _ _ ?_ (fun hHeld => ?_)
        · exact (hN2.put (hN2.lk.s1 (.slice o5 n5 c5))).pb.all
        clear hK K
        try simp only [Act.put, List.setIfInBounds_toArray, List.set_cons_zero, List.set_cons_succ]
        refine wpAnyH_done (by kernel_rfl) ?_ _
        skip
        go_wp2
        go_meet
        exact ⟨rfl, _, _, _, hN2.put (hN2.lk.s1 _)⟩
      case rest =>
      obtain ⟨rfl, o5, n5, c5, hN⟩ := hcut
      clear hNd g0 K1
      have hNd := hide' (hN.out.over (Below.refl _ wc).drew)
      have g0 := hNd.out.lk.c2
      clear hN
      go_upto_region 6 with fail
      have hX2 : Hid (∀ E, E.map Prod.fst = rulN P.rules (j : Int) → (X ++ [E]).length = j + 1 ∧ ∀ (t : Nat) (E' : List (Rl × Value)), (X ++ [E])[t]? = some E' → E'.map Prod.fst = rulN P.rules (t : Int)) := fun E hE => by
        refine ⟨by rw [List.length_append, hX.out.1]; rfl, fun t E' ht => ?_⟩
        rcases Nat.lt_or_ge t X.length with h | h
        · rw [List.getElem?_append_left h] at ht
          exact hX.out.2 t E' ht
        · have e : t = X.length := by
            have := (List.getElem?_eq_some_iff.1 ht).1
            simp at this; omega
          subst e
          have e1 : E' = E := by simpa using ht.symm
          rw [e1, hX.out.1]; exact hE
      clear hX
      refine wp_region_held_drew (S := (fun V => V.cell? ⟨w.heap.size, 0, none⟩ = some (.int .i64 P.users) ∧ V.cell? ⟨w.heap.size, 1, none⟩ = some (.slice ow P.who.length cw) ∧ V.cell? ⟨w.heap.size, 2, none⟩ = some (.slice of P.fixed.length cf) ∧ V.cell? ⟨w.heap.size, 3, none⟩ = some (.slice or P.rules.length cr))) (by kernel_rfl) ?_ (fun hHeld => ?_)
      · exact hNd.out.pb.all
      refine wpAnyH_take (i := 0) (oi := { dst := some 30, op := Op.move (Operand.tmp 5), type := 83, pos := "look.go:37", after := #[], guard := none }) (v := ?_) rfl (by kernel_rfl) (by kernel_rfl) (by kernel_rfl) (fun _ _ _ h => h) (Or.inl ⟨by rfl, ?_⟩) (by assumption) ?_
      rotate_left
      · intro w hSw; (try dsimp only at hSw); go_simp <;> with_reducible rfl
      simp only [Act.put, List.setIfInBounds_toArray, List.set_cons_zero, List.set_cons_succ]
      refine wpAnyH_take (i := 1) (oi := { dst := some 31, op := Op.move (Operand.tmp 5), type := 83, pos := "look.go:37", after := #[], guard := none }) (v := ?_) rfl (by kernel_rfl) (by kernel_rfl) (by kernel_rfl) (fun _ _ _ h => h) (Or.inl ⟨by rfl, ?_⟩) (by assumption) ?_
      rotate_left
      · intro w hSw; (try dsimp only at hSw); go_simp <;> with_reducible rfl
      simp only [Act.put, List.setIfInBounds_toArray, List.set_cons_zero, List.set_cons_succ]
      refine wpAnyH_take (i := 2) (oi := { dst := some 32, op := Op.nilCheck (Operand.tmp 31), type := 0, pos := "look.go:37", after := #[{ on := 1, ground := Ground.data }], guard := none }) (v := ?_) rfl (by kernel_rfl) (by kernel_rfl) (by kernel_rfl) (fun _ _ _ h => h) (Or.inl ⟨by rfl, ?_⟩) (by assumption) ?_
      rotate_left
      · intro w hSw; (try dsimp only at hSw); go_simp <;> with_reducible rfl
      simp only [Act.put, List.setIfInBounds_toArray, List.set_cons_zero, List.set_cons_succ]
      refine wpAnyH_take (i := 3) (oi := { dst := some 33, op := Op.fieldAddr 94 (Operand.tmp 32) 2, type := 0, pos := "look.go:37", after := #[{ on := 2, ground := Ground.data }], guard := none }) (v := ?_) rfl (by kernel_rfl) (by kernel_rfl) (by kernel_rfl) (fun _ _ _ h => h) (Or.inl ⟨by rfl, ?_⟩) (by assumption) ?_
      rotate_left
      · intro w hSw; (try dsimp only at hSw); go_simp <;> with_reducible rfl
      simp only [Act.put, List.setIfInBounds_toArray, List.set_cons_zero, List.set_cons_succ]
      refine wpAnyH_take (i := 5) (oi := { dst := some 35, op := Op.load 26 (Operand.tmp 2), type := 26, pos := "look.go:37", after := #[], guard := none }) (v := ?_) rfl (by kernel_rfl) (by kernel_rfl) (by kernel_rfl) (fun _ _ _ h => h) (Or.inl ⟨by rfl, ?_⟩) (by assumption) ?_
      rotate_left
      · intro w hSw; (try dsimp only at hSw); go_simp <;> with_reducible rfl
      simp only [Act.put, List.setIfInBounds_toArray, List.set_cons_zero, List.set_cons_succ]
      refine wpAnyH_take (i := 6) (oi := { dst := some 36, op := Op.move (Operand.tmp 6), type := 3, pos := "look.go:37", after := #[], guard := none }) (v := ?_) rfl (by kernel_rfl) (by kernel_rfl) (by kernel_rfl) (fun _ _ _ h => h) (Or.inl ⟨by rfl, ?_⟩) (by assumption) ?_
      rotate_left
      · intro w hSw; (try dsimp only at hSw); go_simp <;> with_reducible rfl
      simp only [Act.put, List.setIfInBounds_toArray, List.set_cons_zero, List.set_cons_succ]
      refine wpAnyH_ready (rs := [4, 7]) (by kernel_rfl) (by simp) ?_
      refine AllReadyH.cons (o := { dst := some 34, op := Op.load 91 (Operand.tmp 33), type := 91, pos := "look.go:37", after := #[{ on := 3, ground := Ground.data }], guard := none }) rfl (fun K hK => ?_) ?_
      · skip
        go_simp
        refine hK.out _ _ ?_ (fun hHeld => ?_)
        · exact hNd.out.pb.all
        clear hK K
        try simp only [Act.put, List.setIfInBounds_toArray, List.set_cons_zero, List.set_cons_succ]
        refine wpAnyH_ready (rs := [7]) (by kernel_rfl) (by simp) ?_
        refine AllReadyH.cons (o := { dst := some 37, op := Op.call { callee := Callee.value (Operand.func 61), args := #[Operand.tmp 35, Operand.tmp 36], argTypes := #[26, 3] }, type := 24, pos := "look.go:37", after := #[{ on := 5, ground := Ground.data }, { on := 6, ground := Ground.data }], guard := none }) rfl (fun K hK => ?_) AllReadyH.nil
        go_simp
        go_at_call 61; refine (K2.out _ hNd.out.be).mono ?_; rintro e w1 ⟨v, E, rfl, hE, hT, hb1⟩; have hN1 := hide' (hNd.out.over hb1); have g1 := hN1.out.lk.c2; have g2 : ∀ o, (w1.alloc o).cell? ⟨w.heap.size + 1, 2, none⟩ = some (.slice og ng cg) := fun o => (hN1.out.over ((Below.refl _ _).alloc (Nat.le_refl _) _)).lk.c2; have hTz : Hid (TwO w (w.heap.size + 2) w1 v E) := ⟨owns_lowS hT.row hNd.out.sz, hT.inner⟩; obtain ⟨ov, nv, cv, rfl⟩ : ∃ a b c, v = .slice a b c := (by obtain ⟨a, c, e⟩ := own_shp hT.row; exact ⟨a, _, c, e⟩); have hE' := hide' hE; clear hT hE; (try dsimp only)
        refine hK.out _ _ ?_ (fun hHeld => ?_)
        · exact hN1.out.pb.all
        clear hK K
        try simp only [Act.put, List.setIfInBounds_toArray, List.set_cons_zero, List.set_cons_succ]
        refine wpAnyH_ready (rs := [8]) (by kernel_rfl) (by simp) ?_
        refine AllReadyH.cons (o := { dst := some 38, op := Op.buildSlice 91 1 #[(0, Operand.tmp 37)], type := 91, pos := "look.go:37", after := #[{ on := 7, ground := Ground.data }], guard := none }) rfl (fun K hK => ?_) AllReadyH.nil
        go_simp
        refine hK.out _ _ ?_ (fun hHeld => ?_)
        · exact (hN1.out.over ((Below.refl _ _).alloc (Nat.le_refl _) _)).pb.all
        clear hK K
        try simp only [Act.put, List.setIfInBounds_toArray, List.set_cons_zero, List.set_cons_succ]
        refine wpAnyH_ready (rs := [9]) (by kernel_rfl) (by simp) ?_
        refine AllReadyH.cons (o := { dst := some 39, op := Op.call { callee := Callee.builtin Builtin.append, args := #[Operand.tmp 34, Operand.tmp 38], argTypes := #[91, 91] }, type := 91, pos := "look.go:37", after := #[{ on := 4, ground := Ground.data }, { on := 8, ground := Ground.data }, { on := 7, ground := Ground.chain }], guard := none }) rfl (fun K hK => ?_) AllReadyH.nil
        rw [if_pos (by rfl)]
        refine Nl.wapp2 (.tmp 34) (.tmp 38) hN1.out (.slice ov nv cv) E rfl rfl rfl hTz.out (by omega) ?_; intro o6 n6 c6 w2 hN2; have q2 := hN2.lk.c2; have f2 := hN2.lk.frz 2; (try dsimp only)
        refine hK.out _ _ ?_ (fun hHeld => ?_)
        · exact hN2.pb.all
        clear hK K
        try simp only [Act.put, List.setIfInBounds_toArray, List.set_cons_zero, List.set_cons_succ]
        refine wpAnyH_take (i := 10) (oi := { dst := some 40, op := Op.nilCheck (Operand.tmp 30), type := 0, pos := "look.go:37", after := #[{ on := 0, ground := Ground.data }, { on := 0, ground := Ground.phase }, { on := 1, ground := Ground.phase }, { on := 2, ground := Ground.phase }, { on := 3, ground := Ground.phase }, { on := 4, ground := Ground.phase }, { on := 5, ground := Ground.phase }, { on := 6, ground := Ground.phase }, { on := 7, ground := Ground.phase }, { on := 8, ground := Ground.phase }, { on := 9, ground := Ground.phase }], guard := none }) (v := ?_) rfl (by kernel_rfl) (by kernel_rfl) (by kernel_rfl) (fun _ _ _ h => h) (Or.inl ⟨by rfl, ?_⟩) (by assumption) ?_
        rotate_left
        · intro w hSw; (try dsimp only at hSw); go_simp <;> with_reducible rfl
        simp only [Act.put, List.setIfInBounds_toArray, List.set_cons_zero, List.set_cons_succ]
        refine wpAnyH_take (i := 11) (oi := { dst := some 41, op := Op.fieldAddr 94 (Operand.tmp 40) 2, type := 0, pos := "look.go:37", after := #[{ on := 10, ground := Ground.data }, { on := 0, ground := Ground.phase }, { on := 1, ground := Ground.phase }, { on := 2, ground := Ground.phase }, { on := 3, ground := Ground.phase }, { on := 4, ground := Ground.phase }, { on := 5, ground := Ground.phase }, { on := 6, ground := Ground.phase }, { on := 7, ground := Ground.phase }, { on := 8, ground := Ground.phase }, { on := 9, ground := Ground.phase }], guard := none }) (v := ?_) rfl (by kernel_rfl) (by kernel_rfl) (by kernel_rfl) (fun _ _ _ h => h) (Or.inl ⟨by rfl, ?_⟩) (by assumption) ?_
        rotate_left
        · intro w hSw; (try dsimp only at hSw); go_simp <;> with_reducible rfl
        simp only [Act.put, List.setIfInBounds_toArray, List.set_cons_zero, List.set_cons_succ]
        refine wpAnyH_ready (rs := [12]) (by kernel_rfl) (by simp) ?_
        refine AllReadyH.cons (o := { dst := none, op := Op.store 91 (Operand.tmp 41) (Operand.tmp 39), type := 0, pos := "look.go:37", after := #[{ on := 11, ground := Ground.data }, { on := 9, ground := Ground.data }, { on := 9, ground := Ground.chain }, { on := 0, ground := Ground.phase }, { on := 1, ground := Ground.phase }, { on := 2, ground := Ground.phase }, { on := 3, ground := Ground.phase }, { on := 4, ground := Ground.phase }, { on := 5, ground := Ground.phase }, { on := 6, ground := Ground.phase }, { on := 7, ground := Ground.phase }, { on := 8, ground := Ground.phase }, { on := 9, ground := Ground.phase }], guard := none }) rfl (fun K hK => ?_) AllReadyH.nil
        go_simp
        refine hK.out _ _ ?_ (fun hHeld => ?_)
        · exact (hN2.put (hN2.lk.s2 (.slice o6 n6 c6))).pb.all
        clear hK K
        try simp only [Act.put, List.setIfInBounds_toArray, List.set_cons_zero, List.set_cons_succ]
        refine wpAnyH_done (by kernel_rfl) ?_ _
        skip
        have hN9 : Hid _ := hN2.put (hN2.lk.s2 (.slice o6 n6 c6))
        rw [← hL1.out] at hN9
        have hX9 := hide' (hX2.out E hE'.out)
        clear hN2 hN1 hNd hX2 hTz hE' K2 hL1
        go_wp2
        exact ⟨⟨j + 1, _, _, _, _, by omega, by go_num, hN9, hX9⟩, by simp [intOf]; omega⟩
      refine AllReadyH.cons (o := { dst := some 37, op := Op.call { callee := Callee.value (Operand.func 61), args := #[Operand.tmp 35, Operand.tmp 36], argTypes := #[26, 3] }, type := 24, pos := "look.go:37", after := #[{ on := 5, ground := Ground.data }, { on := 6, ground := Ground.data }], guard := none }) rfl (fun K hK => ?_) AllReadyH.nil
      go_simp
      go_at_call 61; refine (K2.out _ hNd.out.be).mono ?_; rintro e w1 ⟨v, E, rfl, hE, hT, hb1⟩; have hN1 := hide' (hNd.out.over hb1); have g1 := hN1.out.lk.c2; have g2 : ∀ o, (w1.alloc o).cell? ⟨w.heap.size + 1, 2, none⟩ = some (.slice og ng cg) := fun o => (hN1.out.over ((Below.refl _ _).alloc (Nat.le_refl _) _)).lk.c2; have hTz : Hid (TwO w (w.heap.size + 2) w1 v E) := ⟨owns_lowS hT.row hNd.out.sz, hT.inner⟩; obtain ⟨ov, nv, cv, rfl⟩ : ∃ a b c, v = .slice a b c := (by obtain ⟨a, c, e⟩ := own_shp hT.row; exact ⟨a, _, c, e⟩); have hE' := hide' hE; clear hT hE; (try dsimp only)
      refine hK.out _ _ ?_ (fun hHeld => ?_)
      · exact hN1.out.pb.all
      clear hK K
      try simp only [Act.put, List.setIfInBounds_toArray, List.set_cons_zero, List.set_cons_succ]
      refine wpAnyH_ready (rs := [4, 8]) (by kernel_rfl) (by simp) ?_
      refine AllReadyH.cons (o := { dst := some 34, op := Op.load 91 (Operand.tmp 33), type := 91, pos := "look.go:37", after := #[{ on := 3, ground := Ground.data }], guard := none }) rfl (fun K hK => ?_) ?_
      · skip
        go_simp
        refine hK.out _ _ ?_ (fun hHeld => ?_)
        · exact hN1.out.pb.all
        clear hK K
        try simp only [Act.put, List.setIfInBounds_toArray, List.set_cons_zero, List.set_cons_succ]
        refine wpAnyH_ready (rs := [8]) (by kernel_rfl) (by simp) ?_
        refine AllReadyH.cons (o := { dst := some 38, op := Op.buildSlice 91 1 #[(0, Operand.tmp 37)], type := 91, pos := "look.go:37", after := #[{ on := 7, ground := Ground.data }], guard := none }) rfl (fun K hK => ?_) AllReadyH.nil
        go_simp
        refine hK.out _ _ ?_ (fun hHeld => ?_)
        · exact (hN1.out.over ((Below.refl _ _).alloc (Nat.le_refl _) _)).pb.all
        clear hK K
        try simp only [Act.put, List.setIfInBounds_toArray, List.set_cons_zero, List.set_cons_succ]
        refine wpAnyH_ready (rs := [9]) (by kernel_rfl) (by simp) ?_
        refine AllReadyH.cons (o := { dst := some 39, op := Op.call { callee := Callee.builtin Builtin.append, args := #[Operand.tmp 34, Operand.tmp 38], argTypes := #[91, 91] }, type := 91, pos := "look.go:37", after := #[{ on := 4, ground := Ground.data }, { on := 8, ground := Ground.data }, { on := 7, ground := Ground.chain }], guard := none }) rfl (fun K hK => ?_) AllReadyH.nil
        rw [if_pos (by rfl)]
        refine Nl.wapp2 (.tmp 34) (.tmp 38) hN1.out (.slice ov nv cv) E rfl rfl rfl hTz.out (by omega) ?_; intro o6 n6 c6 w2 hN2; have q2 := hN2.lk.c2; have f2 := hN2.lk.frz 2; (try dsimp only)
        refine hK.out _ _ ?_ (fun hHeld => ?_)
        · exact hN2.pb.all
        clear hK K
        try simp only [Act.put, List.setIfInBounds_toArray, List.set_cons_zero, List.set_cons_succ]
        refine wpAnyH_take (i := 10) (oi := { dst := some 40, op := Op.nilCheck (Operand.tmp 30), type := 0, pos := "look.go:37", after := #[{ on := 0, ground := Ground.data }, { on := 0, ground := Ground.phase }, { on := 1, ground := Ground.phase }, { on := 2, ground := Ground.phase }, { on := 3, ground := Ground.phase }, { on := 4, ground := Ground.phase }, { on := 5, ground := Ground.phase }, { on := 6, ground := Ground.phase }, { on := 7, ground := Ground.phase }, { on := 8, ground := Ground.phase }, { on := 9, ground := Ground.phase }], guard := none }) (v := ?_) rfl (by kernel_rfl) (by kernel_rfl) (by kernel_rfl) (fun _ _ _ h => h) (Or.inl ⟨by rfl, ?_⟩) (by assumption) ?_
        rotate_left
        · intro w hSw; (try dsimp only at hSw); go_simp <;> with_reducible rfl
        simp only [Act.put, List.setIfInBounds_toArray, List.set_cons_zero, List.set_cons_succ]
        refine wpAnyH_take (i := 11) (oi := { dst := some 41, op := Op.fieldAddr 94 (Operand.tmp 40) 2, type := 0, pos := "look.go:37", after := #[{ on := 10, ground := Ground.data }, { on := 0, ground := Ground.phase }, { on := 1, ground := Ground.phase }, { on := 2, ground := Ground.phase }, { on := 3, ground := Ground.phase }, { on := 4, ground := Ground.phase }, { on := 5, ground := Ground.phase }, { on := 6, ground := Ground.phase }, { on := 7, ground := Ground.phase }, { on := 8, ground := Ground.phase }, { on := 9, ground := Ground.phase }], guard := none }) (v := ?_) rfl (by kernel_rfl) (by kernel_rfl) (by kernel_rfl) (fun _ _ _ h => h) (Or.inl ⟨by rfl, ?_⟩) (by assumption) ?_
        rotate_left
        · intro w hSw; (try dsimp only at hSw); go_simp <;> with_reducible rfl
        simp only [Act.put, List.setIfInBounds_toArray, List.set_cons_zero, List.set_cons_succ]
        refine wpAnyH_ready (rs := [12]) (by kernel_rfl) (by simp) ?_
        refine AllReadyH.cons (o := { dst := none, op := Op.store 91 (Operand.tmp 41) (Operand.tmp 39), type := 0, pos := "look.go:37", after := #[{ on := 11, ground := Ground.data }, { on := 9, ground := Ground.data }, { on := 9, ground := Ground.chain }, { on := 0, ground := Ground.phase }, { on := 1, ground := Ground.phase }, { on := 2, ground := Ground.phase }, { on := 3, ground := Ground.phase }, { on := 4, ground := Ground.phase }, { on := 5, ground := Ground.phase }, { on := 6, ground := Ground.phase }, { on := 7, ground := Ground.phase }, { on := 8, ground := Ground.phase }, { on := 9, ground := Ground.phase }], guard := none }) rfl (fun K hK => ?_) AllReadyH.nil
        go_simp
        refine hK.out _ _ ?_ (fun hHeld => ?_)
        · exact (hN2.put (hN2.lk.s2 (.slice o6 n6 c6))).pb.all
        clear hK K
        try simp only [Act.put, List.setIfInBounds_toArray, List.set_cons_zero, List.set_cons_succ]
        refine wpAnyH_done (by kernel_rfl) ?_ _
        skip
        have hN9 : Hid _ := hN2.put (hN2.lk.s2 (.slice o6 n6 c6))
        rw [← hL1.out] at hN9
        have hX9 := hide' (hX2.out E hE'.out)
        clear hN2 hN1 hNd hX2 hTz hE' K2 hL1
        go_wp2
        exact ⟨⟨j + 1, _, _, _, _, by omega, by go_num, hN9, hX9⟩, by simp [intOf]; omega⟩
      refine AllReadyH.cons (o := { dst := some 38, op := Op.buildSlice 91 1 #[(0, Operand.tmp 37)], type := 91, pos := "look.go:37", after := #[{ on := 7, ground := Ground.data }], guard := none }) rfl (fun K hK => ?_) AllReadyH.nil
      go_simp
      refine hK.out _ _ ?_ (fun hHeld => ?_)
      · exact (hN1.out.over ((Below.refl _ _).alloc (Nat.le_refl _) _)).pb.all
      clear hK K
      try simp only [Act.put, List.setIfInBounds_toArray, List.set_cons_zero, List.set_cons_succ]
      refine wpAnyH_ready (rs := [4]) (by kernel_rfl) (by simp) ?_
      refine AllReadyH.cons (o := { dst := some 34, op := Op.load 91 (Operand.tmp 33), type := 91, pos := "look.go:37", after := #[{ on := 3, ground := Ground.data }], guard := none }) rfl (fun K hK => ?_) AllReadyH.nil
      go_simp
      refine hK.out _ _ ?_ (fun hHeld => ?_)
      · exact (hN1.out.over ((Below.refl _ _).alloc (Nat.le_refl _) _)).pb.all
      clear hK K
      try simp only [Act.put, List.setIfInBounds_toArray, List.set_cons_zero, List.set_cons_succ]
      refine wpAnyH_ready (rs := [9]) (by kernel_rfl) (by simp) ?_
      refine AllReadyH.cons (o := { dst := some 39, op := Op.call { callee := Callee.builtin Builtin.append, args := #[Operand.tmp 34, Operand.tmp 38], argTypes := #[91, 91] }, type := 91, pos := "look.go:37", after := #[{ on := 4, ground := Ground.data }, { on := 8, ground := Ground.data }, { on := 7, ground := Ground.chain }], guard := none }) rfl (fun K hK => ?_) AllReadyH.nil
      rw [if_pos (by rfl)]
      refine Nl.wapp2 (.tmp 34) (.tmp 38) hN1.out (.slice ov nv cv) E rfl rfl rfl hTz.out (by omega) ?_; intro o6 n6 c6 w2 hN2; have q2 := hN2.lk.c2; have f2 := hN2.lk.frz 2; (try dsimp only)
      refine hK.out _ _ ?_ (fun hHeld => ?_)
      · exact hN2.pb.all
      clear hK K
      try simp only [Act.put, List.setIfInBounds_toArray, List.set_cons_zero, List.set_cons_succ]
      refine wpAnyH_take (i := 10) (oi := { dst := some 40, op := Op.nilCheck (Operand.tmp 30), type := 0, pos := "look.go:37", after := #[{ on := 0, ground := Ground.data }, { on := 0, ground := Ground.phase }, { on := 1, ground := Ground.phase }, { on := 2, ground := Ground.phase }, { on := 3, ground := Ground.phase }, { on := 4, ground := Ground.phase }, { on := 5, ground := Ground.phase }, { on := 6, ground := Ground.phase }, { on := 7, ground := Ground.phase }, { on := 8, ground := Ground.phase }, { on := 9, ground := Ground.phase }], guard := none }) (v := ?_) rfl (by kernel_rfl) (by kernel_rfl) (by kernel_rfl) (fun _ _ _ h => h) (Or.inl ⟨by rfl, ?_⟩) (by assumption) ?_
      rotate_left
      · intro w hSw; (try dsimp only at hSw); go_simp <;> with_reducible rfl
      simp only [Act.put, List.setIfInBounds_toArray, List.set_cons_zero, List.set_cons_succ]
      refine wpAnyH_take (i := 11) (oi := { dst := some 41, op := Op.fieldAddr 94 (Operand.tmp 40) 2, type := 0, pos := "look.go:37", after := #[{ on := 10, ground := Ground.data }, { on := 0, ground := Ground.phase }, { on := 1, ground := Ground.phase }, { on := 2, ground := Ground.phase }, { on := 3, ground := Ground.phase }, { on := 4, ground := Ground.phase }, { on := 5, ground := Ground.phase }, { on := 6, ground := Ground.phase }, { on := 7, ground := Ground.phase }, { on := 8, ground := Ground.phase }, { on := 9, ground := Ground.phase }], guard := none }) (v := ?_) rfl (by kernel_rfl) (by kernel_rfl) (by kernel_rfl) (fun _ _ _ h => h) (Or.inl ⟨by rfl, ?_⟩) (by assumption) ?_
      rotate_left
      · intro w hSw; (try dsimp only at hSw); go_simp <;> with_reducible rfl
      simp only [Act.put, List.setIfInBounds_toArray, List.set_cons_zero, List.set_cons_succ]
      refine wpAnyH_ready (rs := [12]) (by kernel_rfl) (by simp) ?_
      refine AllReadyH.cons (o := { dst := none, op := Op.store 91 (Operand.tmp 41) (Operand.tmp 39), type := 0, pos := "look.go:37", after := #[{ on := 11, ground := Ground.data }, { on := 9, ground := Ground.data }, { on := 9, ground := Ground.chain }, { on := 0, ground := Ground.phase }, { on := 1, ground := Ground.phase }, { on := 2, ground := Ground.phase }, { on := 3, ground := Ground.phase }, { on := 4, ground := Ground.phase }, { on := 5, ground := Ground.phase }, { on := 6, ground := Ground.phase }, { on := 7, ground := Ground.phase }, { on := 8, ground := Ground.phase }, { on := 9, ground := Ground.phase }], guard := none }) rfl (fun K hK => ?_) AllReadyH.nil
      go_simp
      refine hK.out _ _ ?_ (fun hHeld => ?_)
      · exact (hN2.put (hN2.lk.s2 (.slice o6 n6 c6))).pb.all
      clear hK K
      try simp only [Act.put, List.setIfInBounds_toArray, List.set_cons_zero, List.set_cons_succ]
      refine wpAnyH_done (by kernel_rfl) ?_ _
      skip
      have hN9 : Hid _ := hN2.put (hN2.lk.s2 (.slice o6 n6 c6))
      rw [← hL1.out] at hN9
      have hX9 := hide' (hX2.out E hE'.out)
      clear hN2 hN1 hNd hX2 hTz hE' K2 hL1
      go_wp2
      exact ⟨⟨j + 1, _, _, _, _, by omega, by go_num, hN9, hX9⟩, by simp [intOf]; omega⟩
    · obtain rfl : j = P.who.length := by omega
      go_wp2
      go_ret
      exact ⟨rfl, _, _, _, _, hN, hX⟩
end Go.Proofs.YtlijlelejobchaaGreatDoor.S
namespace Go.Proofs.YtlijlelejobchaaGreatDoor.S
theorem snocN_ind {p : List Nat → Prop} (h0 : p []) (h1 : ∀ l x, p l → p (l ++ [x])) : ∀ l, p l := by
  intro l
  rw [← List.reverse_reverse l]
  induction l.reverse with
  | nil => exact h0
  | cons x m ih => rw [List.reverse_cons]; exact h1 _ _ ih
theorem at_snoc {p : List Nat} {c t b : Nat} : (p ++ [c])[t]? = some b ↔ p[t]? = some b ∨ (t = p.length ∧ c = b) := by
  rcases Nat.lt_trichotomy t p.length with h | h | h
  · rw [List.getElem?_append_left h]
    exact ⟨.inl, fun q => q.resolve_right (by omega)⟩
  · subst h
    simp
  · rw [List.getElem?_eq_none (by simp; omega), List.getElem?_eq_none (by omega)]
    constructor
    · intro q; cases q
    · rintro (q | q)
      · cases q
      · omega
theorem lvS_bit (my : Nat → Nat) : ∀ q, Leg 0 q → ∀ b u, b < blks 0 q → (((lvS my q).1 b).testBit u = true ↔ ∀ t, q[t]? = some b → (my t).testBit u = true) := by
  refine snocN_ind (fun _ b u h => absurd h (by simp [blks])) fun p c ih hL b u hb => ?_
  have hLp := Leg.app.1 hL
  have hcb : c ≤ blks 0 p := hLp.2.1
  rw [lvS_snoc]
  simp only [lvStep, lvS_len, lvS_blk my hLp.1]
  rw [blks_snocH] at hb
  have hold : ∀ t x, p[t]? = some x → x < blks 0 p := fun t x h => lt_blks (List.mem_of_getElem? h)
  unfold wiF
  by_cases e : c = blks 0 p
  · rw [if_pos e]
    by_cases e2 : b = c
    · subst e2
      rw [M.upd_same]
      constructor
      · intro h t ht
        rcases at_snoc.1 ht with q | ⟨rfl, _⟩
        · have := hold t b q; omega
        · exact h
      · intro h; exact h p.length (at_snoc.2 (.inr ⟨rfl, rfl⟩))
    · rw [M.upd_ne _ _ e2, ih hLp.1 b u (by omega)]
      constructor
      · intro h t ht
        rcases at_snoc.1 ht with q | ⟨_, q⟩
        · exact h t q
        · exact absurd q.symm e2
      · intro h t ht; exact h t (at_snoc.2 (.inl ht))
  · rw [if_neg e]
    have hbp : b < blks 0 p := by omega
    by_cases e2 : b = c
    · subst e2
      rw [M.upd_same, Nat.testBit_and, Bool.and_eq_true, ih hLp.1 b u hbp]
      constructor
      · rintro ⟨h1, h2⟩ t ht
        rcases at_snoc.1 ht with q | ⟨rfl, _⟩
        · exact h1 t q
        · exact h2
      · intro h
        exact ⟨fun t ht => h t (at_snoc.2 (.inl ht)), h p.length (at_snoc.2 (.inr ⟨rfl, rfl⟩))⟩
    · rw [M.upd_ne _ _ e2, ih hLp.1 b u hbp]
      constructor
      · intro h t ht
        rcases at_snoc.1 ht with q | ⟨_, q⟩
        · exact h t q
        · exact absurd q.symm e2
      · intro h t ht; exact h t (at_snoc.2 (.inl ht))
/-- Can the blocks have users of their own? -/
def Iq (my : Nat → Nat) (q : List Nat) : Prop := M.Ind (lvS my q).1 (fun r => r < blks 0 q)
theorem Iq.cut {my : Nat → Nat} {p t : List Nat} (hL : Leg 0 (p ++ t)) (h : Iq my (p ++ t)) : Iq my p := by
  obtain ⟨f, h1, h2⟩ := h
  have hle : blks 0 p ≤ blks 0 (p ++ t) := by rw [blks_app]; exact blks_le _ _
  refine ⟨f, fun r hr => ?_, fun r s hr hs => h2 r s (by omega) (by omega)⟩
  have hb := (lvS_bit my _ hL r (f r) (by omega)).1 (h1 r (by omega))
  refine (lvS_bit my p (Leg.app.1 hL).1 r (f r) hr).2 fun i hi => hb i ?_
  rw [List.getElem?_append_left (List.getElem?_eq_some_iff.1 hi).1]; exact hi
theorem size_iq {my : Nat → Nat} {q : List Nat} (hL : Leg 0 q) (hn : q.length ≤ 12) : decide (M.sizeN (lvS my q).1 (lvS my q).2.1 = (lvS my q).2.1) = true ↔ Iq my q := by
  have hb := blks_leg hL
  rw [decide_eq_true_eq, lvS_blk my hL]
  unfold M.sizeN Iq
  rw [if_pos (by omega)]
  exact M.grN_iff _
theorem leg_take {q : List Nat} (h : Leg 0 q) (j : Nat) : Leg 0 (q.take j) := by
  rw [← List.take_append_drop j q] at h
  exact (Leg.app.1 h).1
end Go.Proofs.YtlijlelejobchaaGreatDoor.S
namespace Go.Proofs.YtlijlelejobchaaGreatDoor.S
/-- The rules that each step stands in. -/
def rsP (P : Pb) (t : Nat) : List Rl := rulN P.rules (t : Int)
theorem kept_iff {P : Pb} (hP : chkN P = 0) {q : List Nat} (hq : q.length = P.who.length) (hL : Leg 0 q) : Kx (kpS (mayP P) (rsP P) P.who.length) [] q ↔ (∀ r ∈ P.rules, holds r (ints q) = true) ∧ Iq (mayP P) q := by
  obtain ⟨h12, hU0, hU, hR, hfx, hwo, hru⟩ := chkN_zero hP
  have hc : ∀ r ∈ P.rules, chk ((ints q).length : Int) r = true := fun r hr => by
    rw [ints_len, hq]
    unfold rulB at hru
    rw [List.all_eq_true] at hru
    exact hru r hr
  have htk : ∀ j, ints (q.take (j + 1)) = (ints q).take (j + 1) := fun j => by simp [ints, List.map_take]
  have hone : ∀ j, j < q.length → (kpS (mayP P) (rsP P) P.who.length (q.take (j + 1)) = true ↔ earL (rulN P.rules (j : Int)) ((ints q).length : Int) ((ints q).take (j + 1)) = true ∧ Iq (mayP P) (q.take (j + 1))) := fun j hj => by
    have hlen : (q.take (j + 1)).length = j + 1 := by rw [List.length_take]; omega
    unfold kpS
    rw [hlen, Nat.add_sub_cancel, Bool.and_eq_true, size_iq (leg_take hL _) (by omega), htk, ints_len, hq]
    exact Iff.rfl
  constructor
  · intro h
    have h1 := fun j hj => (hone j hj).1 (by have := h j hj; rwa [List.nil_append] at this)
    refine ⟨(rules_iff hc).1 fun j hj => (h1 j (by rwa [ints_len] at hj)).1, ?_⟩
    by_cases h0 : q.length = 0
    · rw [List.eq_nil_of_length_eq_zero h0]
      exact ⟨fun _ => 0, fun r hr => absurd hr (by simp [blks]), fun r s hr => absurd hr (by simp [blks])⟩
    · have := (h1 (q.length - 1) (by omega)).2
      rwa [List.take_of_length_le (by omega)] at this
  · rintro ⟨h1, h2⟩ j hj
    rw [List.nil_append]
    refine (hone j hj).2 ⟨(rules_iff hc).2 h1 j (by rw [ints_len]; exact hj), Iq.cut (t := q.drop (j + 1)) ?_ ?_⟩ <;> rw [List.take_append_drop] <;> assumption
theorem may_user {P : Pb} (hP : chkN P = 0) {t u : Nat} (ht : t < P.who.length) (h : (mayP P t).testBit u = true) : (u : Int) < P.users := by
  obtain ⟨h12, hU0, hU, hR, hfx, hwo, hru⟩ := chkN_zero hP
  have hfl := (fixB_of hfx hU).1
  unfold mayP at h
  obtain ⟨x, hx⟩ : ∃ x, P.fixed[t]? = some x := ⟨_, List.getElem?_eq_getElem (by omega)⟩
  obtain ⟨z, hz⟩ : ∃ z, P.who[t]? = some z := ⟨_, List.getElem?_eq_getElem ht⟩
  rw [List.getD_eq_getElem?_getD, List.getD_eq_getElem?_getD, List.getD_eq_getElem?_getD, hx, hz] at h
  simp only [Option.getD_some] at h
  by_cases e : x = -1
  · rw [if_pos e] at h
    unfold whoB at hwo
    rw [List.all_eq_true] at hwo
    have h1 := hwo z (List.mem_of_getElem? hz)
    unfold outU at h1
    rw [decide_eq_true_eq] at h1
    have h2 : z < 2 ^ P.users.toNat := by
      rcases Nat.lt_or_ge z (2 ^ P.users.toNat) with h | h
      · exact h
      · have := Nat.div_pos h (Nat.pow_pos (by decide)); omega
    by_cases hu : u < P.users.toNat
    · omega
    · rw [Nat.testBit_lt_two_pow (Nat.lt_of_lt_of_le h2 (Nat.pow_le_pow_right (by decide) (by omega)))] at h; cases h
  · rw [if_neg e, Nat.testBit_two_pow, decide_eq_true_eq] at h
    unfold fixB at hfx
    rw [Bool.and_eq_true, List.all_eq_true] at hfx
    have h2 := hfx.1 x (List.mem_of_getElem? hx)
    simp only [e, decide_false, Bool.false_or, isU, Bool.and_eq_true, decide_eq_true_eq] at h2
    omega
theorem broken_of {R : List Rl} {L : List Int} (h : ∀ r ∈ R, holds r L = true) : (broken R L).length = 0 := by
  rw [List.length_eq_zero_iff]
  unfold broken
  rw [List.filter_eq_nil_iff]
  intro i _
  cases hr : R[i]? with
  | none => simp
  | some r => simp [h r (List.mem_of_getElem? hr)]
theorem holP_of {P : Pb} {L : List Int} (h : holP P L = true) : chkN P = 0 ∧ L.length = P.who.length ∧ (∀ t x, L[t]? = some x → okU P t x = true) ∧ ∀ r ∈ P.rules, holds r L = true := by
  unfold holP at h
  simp only [Bool.and_eq_true, decide_eq_true_eq] at h
  obtain ⟨⟨⟨h1, h2⟩, h3⟩, h4⟩ := h
  refine ⟨h1, h2, fun t x ht => ?_, broken_none h4⟩
  unfold okA at h3
  rw [List.all_eq_true] at h3
  have := h3 t (List.mem_range.2 (List.getElem?_eq_some_iff.1 ht).1)
  rwa [List.getD_eq_getElem?_getD, ht, Option.getD_some] at this
theorem holP_mk {P : Pb} {L : List Int} (h1 : chkN P = 0) (h2 : L.length = P.who.length) (h3 : ∀ t x, L[t]? = some x → okU P t x = true) (h4 : ∀ r ∈ P.rules, holds r L = true) : holP P L = true := by
  unfold holP
  rw [decide_eq_true h1, decide_eq_true h2, decide_eq_true (broken_of h4)]
  simp only [Bool.true_and, Bool.and_true]
  unfold okA
  rw [List.all_eq_true]
  intro t ht
  obtain ⟨x, hx⟩ : ∃ x, L[t]? = some x := ⟨_, List.getElem?_eq_getElem (List.mem_range.1 ht)⟩
  rw [List.getD_eq_getElem?_getD, hx, Option.getD_some]
  exact h3 t x hx
/-- The user of a block. -/
def usr (L : List Int) (b : Nat) : Nat := (L.getD ((pat L).idxOf b) 0).toNat
def planL (q : List Nat) (f : Nat → Nat) : List Int := q.map fun b => (f b : Int)
theorem idx_at {q : List Nat} {b : Nat} (h : b ∈ q) : q[q.idxOf b]? = some b := by
  rw [List.getElem?_eq_getElem (List.idxOf_lt_length_of_mem h), List.getElem_idxOf]
theorem plan_pat {P : Pb} {L : List Int} (h : holP P L = true) : (pat L).length = P.who.length ∧ (∀ r ∈ P.rules, holds r (ints (pat L)) = true) ∧ M.FullM (blks 0 (pat L)) (lvS (mayP P) (pat L)).1 (usr L) ∧ L = planL (pat L) (usr L) := by
  obtain ⟨hP, hl, hok, hr⟩ := holP_of h
  have hL := leg_pat0 L
  have key : ∀ (t b : Nat) (x : Int), (pat L)[t]? = some b → L[t]? = some x → usr L b = x.toNat ∧ 0 ≤ x := fun t b x hb hx => by
    have hi := idx_at (List.mem_of_getElem? hb)
    have hlt := (List.getElem?_eq_some_iff.1 hi).1
    rw [pat_len] at hlt
    obtain ⟨y, hy⟩ : ∃ y, L[(pat L).idxOf b]? = some y := ⟨_, List.getElem?_eq_getElem hlt⟩
    have e := (pat_ker hx hy).1 (hb.trans hi.symm)
    subst e
    unfold usr
    rw [List.getD_eq_getElem?_getD, hy, Option.getD_some]
    have := hok t x hx
    unfold okU isU at this
    simp only [Bool.and_eq_true, decide_eq_true_eq] at this
    exact ⟨rfl, this.1.1⟩
  have hat : ∀ t b : Nat, (pat L)[t]? = some b → ∃ x, L[t]? = some x := fun t b hb => ⟨_, List.getElem?_eq_getElem (by have := (List.getElem?_eq_some_iff.1 hb).1; rwa [pat_len] at this)⟩
  refine ⟨by rw [pat_len]; exact hl, fun r hr' => by rw [holds_pat]; exact hr r hr', ⟨fun b hb => ?_, fun b c hb hc e => ?_⟩, ?_⟩
  · refine (lvS_bit _ _ hL b _ hb).2 fun t ht => ?_
    obtain ⟨x, hx⟩ := hat t b ht
    have := hok t x hx
    unfold okU at this
    rw [Bool.and_eq_true] at this
    rw [(key t b x ht hx).1]; exact this.2
  · have hi := idx_at (occurs hL (Nat.zero_le _) hb)
    have hj := idx_at (occurs hL (Nat.zero_le _) hc)
    obtain ⟨x, hx⟩ := hat _ _ hi
    obtain ⟨y, hy⟩ := hat _ _ hj
    have e1 := key _ _ _ hi hx
    have e2 := key _ _ _ hj hy
    have := (pat_ker hx hy).2 (by omega)
    rw [hi, hj] at this
    exact Option.some.inj this
  · refine List.ext_getElem? fun t => ?_
    unfold planL
    rw [List.getElem?_map]
    cases hb : (pat L)[t]? with
    | none =>
      rw [List.getElem?_eq_none_iff, pat_len] at hb
      rw [List.getElem?_eq_none hb]; rfl
    | some b =>
      obtain ⟨x, hx⟩ := hat t b hb
      have := key t b x hb hx
      rw [hx]
      show some x = some ((usr L b : Nat) : Int)
      rw [this.1, Int.toNat_of_nonneg this.2]
theorem pat_planL {q : List Nat} (hL : Leg 0 q) {f : Nat → Nat} (hi : ∀ r s, r < blks 0 q → s < blks 0 q → f r = f s → r = s) : pat (planL q f) = q := by
  have hlen : (planL q f).length = q.length := by simp [planL]
  refine leg_uniq (leg_pat0 _) hL (by rw [pat_len, hlen]) fun i j hi' hj' => ?_
  rw [pat_len, hlen] at hi' hj'
  obtain ⟨b, hb⟩ : ∃ b, q[i]? = some b := ⟨_, List.getElem?_eq_getElem hi'⟩
  obtain ⟨c, hc⟩ : ∃ c, q[j]? = some c := ⟨_, List.getElem?_eq_getElem hj'⟩
  rw [pat_ker (y := (f b : Int)) (z := (f c : Int)) (by simp [planL, hb]) (by simp [planL, hc]), hb, hc]
  constructor
  · intro e
    rw [hi b c (lt_blks (List.mem_of_getElem? hb)) (lt_blks (List.mem_of_getElem? hc)) (by omega)]
  · intro e; rw [Option.some.inj e]
theorem plan_of {P : Pb} (hP : chkN P = 0) {q : List Nat} (hq : q.length = P.who.length) (hL : Leg 0 q) (hr : ∀ r ∈ P.rules, holds r (ints q) = true) {f : Nat → Nat} (hf : M.FullM (blks 0 q) (lvS (mayP P) q).1 f) : holP P (planL q f) = true := by
  refine holP_mk hP (by simp [planL, hq]) (fun t x hx => ?_) fun r hr' => by rw [← holds_pat, pat_planL hL hf.inj]; exact hr r hr'
  unfold planL at hx
  rw [List.getElem?_map] at hx
  cases hb : q[t]? with
  | none => rw [hb] at hx; cases hx
  | some b =>
    rw [hb] at hx
    cases hx
    have hlt := (List.getElem?_eq_some_iff.1 hb).1
    have hbb := lt_blks (b := 0) (List.mem_of_getElem? hb)
    have h1 := (lvS_bit _ _ hL b _ hbb).1 (hf.bit b hbb) t hb
    have h2 := may_user hP (by omega) h1
    unfold okU isU
    rw [Int.toNat_natCast, h1, decide_eq_true h2, decide_eq_true (Int.natCast_nonneg (f b))]
    rfl
theorem lx_cmp : ∀ {q m : List Nat}, Lx q m → I.cmpL (ints q) (ints m) < 0
  | [], _, h => by cases h
  | _ :: _, [], h => by cases h
  | x :: l, y :: m, h => by
    show I.cmpL ((x : Int) :: ints l) ((y : Int) :: ints m) < 0
    rw [cmpL_lt]
    rcases h with h | ⟨h1, h2⟩
    · exact .inl (by omega)
    · exact .inr ⟨by omega, lx_cmp h2⟩
theorem idx_first : ∀ (q : List Nat) (k i : Nat), i < q.idxOf k → q[i]? ≠ some k
  | [], _, _, _ => by simp
  | a :: l, k, i, h => by
    by_cases e : a = k
    · subst e; simp at h
    · rw [List.idxOf_cons, show (a == k) = false by simpa using e] at h
      cases i with
      | zero => simpa using e
      | succ i =>
        rw [List.getElem?_cons_succ]
        exact idx_first l k i (by simpa using h)
/-- Ahead of a block's first step stand lesser blocks alone. -/
theorem first_occ {q : List Nat} (hL : Leg 0 q) {k x : Nat} (hx : x ∈ q.take (q.idxOf k)) : x < k := by
  obtain ⟨i, hi⟩ := List.getElem?_of_mem hx
  have hlt := (List.getElem?_eq_some_iff.1 hi).1
  rw [List.length_take] at hlt
  rw [List.getElem?_take_of_lt (by omega)] at hi
  have hne : x ≠ k := fun e => idx_first q k i (by omega) (by rw [hi, e])
  rcases Nat.lt_or_ge x k with h | h
  · exact h
  · have h1 := leg_at hL hi
    have h2 := occurs (leg_take hL i) (Nat.zero_le k) (by omega)
    obtain ⟨j, hj⟩ := List.getElem?_of_mem h2
    have hjl := (List.getElem?_eq_some_iff.1 hj).1
    rw [List.length_take] at hjl
    rw [List.getElem?_take_of_lt (by omega)] at hj
    exact absurd hj (idx_first q k j (by omega))
/-- The first plan, or that there is none. -/
def LsP (P : Pb) : Option (List Int) → Prop
  | none => ∀ L, holP P L = false
  | some l => holP P l = true ∧ ∀ L, holP P L = true → L = l ∨ befB l L = true
theorem LsP.one {P : Pb} : ∀ {a b : Option (List Int)}, LsP P a → LsP P b → a = b
  | none, none, _, _ => rfl
  | none, some l, h1, h2 => by have := h1 l; rw [h2.1] at this; cases this
  | some l, none, h1, h2 => by have := h2 l; rw [h1.1] at this; cases this
  | some l, some m, h1, h2 => by
    rcases h1.2 m h2.1 with e | e
    · rw [e]
    · rcases h2.2 l h1.1 with e2 | e2
      · rw [e2]
      · have := befB_trans e e2
        rw [befB_same] at this; cases this
theorem ls_none {P : Pb} (hn : ∀ q, q.length = P.who.length → Leg 0 q → ¬ Kx (kpS (mayP P) (rsP P) P.who.length) [] q) : LsP P none := fun L => by
  cases h : holP P L with
  | false => rfl
  | true =>
    obtain ⟨h1, h2, h3, _⟩ := plan_pat h
    exact absurd ((kept_iff (holP_of h).1 h1 (leg_pat0 L)).2 ⟨h2, _, h3.bit, h3.inj⟩) (hn _ h1 (leg_pat0 L))
theorem part_first (f g : Nat → Nat) : ∀ k, (∀ i, i < k → f i = g i) ∨ ∃ j, j < k ∧ (∀ i, i < j → f i = g i) ∧ f j ≠ g j
  | 0 => .inl fun _ h => absurd h (Nat.not_lt_zero _)
  | k + 1 => by
    rcases part_first f g k with h | ⟨j, h1, h2, h3⟩
    · by_cases e : f k = g k
      · exact .inl fun i hi => by
          by_cases e2 : i = k
          · rw [e2]; exact e
          · exact h i (by omega)
      · exact .inr ⟨k, by omega, h, e⟩
    · exact .inr ⟨j, by omega, h2, h3⟩
theorem ls_some {P : Pb} (hP : chkN P = 0) {q : List Nat} (hq : q.length = P.who.length) (hL : Leg 0 q) (hk : Kx (kpS (mayP P) (rsP P) P.who.length) [] q) (hmin : ∀ q', q'.length = P.who.length → Leg 0 q' → Kx (kpS (mayP P) (rsP P) P.who.length) [] q' → q' = q ∨ Lx q q') {pl : Nat → Nat} (hx : M.Lex (blks 0 q) (lvS (mayP P) q).1 pl (blks 0 q)) : LsP P (some (planL q pl)) := by
  have hr := ((kept_iff hP hq hL).1 hk).1
  have h12 := (chkN_zero hP).1
  refine ⟨plan_of hP hq hL hr hx.full, fun L hLp => ?_⟩
  obtain ⟨h1, h2, h3, h4⟩ := plan_pat hLp
  have hlen : (planL q pl).length = q.length := by simp [planL]
  have hlL := (holP_of hLp).2.1
  rcases hmin _ h1 (leg_pat0 L) ((kept_iff hP h1 (leg_pat0 L)).2 ⟨h2, _, h3.bit, h3.inj⟩) with e | e
  · rw [e] at h3 h4
    rcases part_first (usr L) pl (blks 0 q) with h | ⟨k, hkb, hlt, hne⟩
    · left
      rw [h4]
      unfold planL
      refine List.map_congr_left fun b hb => ?_
      rw [h b (lt_blks hb)]
    · right
      have hgt : pl k < usr L k := by
        rcases Nat.lt_trichotomy (usr L k) (pl k) with h | h | h
        · exact absurd rfl (hx.least k hkb _ h _ h3 hlt)
        · exact absurd h hne
        · exact h
      have hko := occurs hL (Nat.zero_le _) hkb
      have hat := idx_at hko
      refine (befB_iff _ _).2 ⟨⟨by rw [hlen, hlL, hq], by omega⟩, .inr ⟨by rw [pat_planL hL hx.full.inj, e], ?_⟩⟩
      rw [h4]
      have hc := cmpL_at (la := planL q pl) (lb := planL q (usr L)) (c := q.idxOf k) (x := (pl k : Int)) (y := (usr L k : Int)) (by
        unfold planL
        rw [← List.map_take, ← List.map_take]
        refine List.map_congr_left fun b hb => ?_
        rw [hlt b (first_occ hL hb)]) (by simp [planL, hat]) (by simp [planL, hat]) (by omega)
      rw [hc, cmpI_lt]
      omega
  · exact .inr ((befB_iff _ _).2 ⟨⟨by rw [hlen, hlL, hq], by omega⟩, .inl (by rw [pat_planL hL hx.full.inj]; exact lx_cmp e)⟩)
end Go.Proofs.YtlijlelejobchaaGreatDoor.S
namespace Go.Proofs.YtlijlelejobchaaGreatDoor.S
open Go.RowKit Go.Shelf
theorem nums_few {x U : Nat} (h : ∀ u, x.testBit u = true → u < U) : (M.nums x).length ≤ U := by
  have hnd : ((M.nums x).map (·.val)).Nodup := by
    have h1 : (M.nums x).Nodup := List.Pairwise.filter _ (List.nodup_finRange 64)
    unfold List.Nodup
    rw [List.pairwise_map]
    exact h1.imp fun h e => h (Fin.ext e)
  have h1 := M.pigeon (l := (M.nums x).map (·.val)) (m := List.range U) hnd fun y hy => by
    obtain ⟨i, hi, rfl⟩ := List.mem_map.1 hy
    exact List.mem_range.2 (h _ ((M.mem_nums x i).1 hi))
  simpa using h1
theorem bitsN_few {R : Nat → Nat} {U : Nat} : ∀ k, (∀ b, b < k → ∀ u, (R b).testBit u = true → u < U) → bitsN R k ≤ k * U
  | 0, _ => by simp [bitsN]
  | k + 1, h => by
    have h1 := bitsN_few k fun b hb => h b (by omega)
    have h2 := nums_few (h k (by omega))
    rw [bitsN, Nat.add_mul]
    omega
theorem lv_user {P : Pb} (hP : chkN P = 0) {q : List Nat} (hL : Leg 0 q) (hq : q.length ≤ P.who.length) : ∀ b, b < blks 0 q → ∀ u, ((lvS (mayP P) q).1 b).testBit u = true → u < P.users.toNat := fun b hb u hu => by
  obtain ⟨t, ht⟩ := List.getElem?_of_mem (occurs hL (Nat.zero_le _) hb)
  have h1 := (lvS_bit _ _ hL b u hb).1 hu t ht
  have h2 := may_user hP (by have := (List.getElem?_eq_some_iff.1 ht).1; omega) h1
  omega
theorem zb_of {P : Pb} (hP : chkN P = 0) : ∀ q, Leg 0 q → q.length ≤ P.who.length → bitsN (lvS (mayP P) q).1 (lvS (mayP P) q).2.1 * (lvS (mayP P) q).2.1 ≤ P.who.length * P.users.toNat * P.who.length := fun q hL hq => by
  rw [lvS_blk _ hL]
  have hb := blks_leg hL
  have h1 := bitsN_few _ (lv_user hP hL hq)
  have h2 : blks 0 q ≤ P.who.length := by omega
  exact Nat.mul_le_mul (Nat.le_trans h1 (Nat.mul_le_mul h2 (Nat.le_refl _))) h2
theorem GgAt.kind {W : World} {gw a b c o : Nat} {z : Int} (h : GgAt W gw a b c) : W.cell? ⟨gw, o, none⟩ ≠ some (.int .i64 z) := fun e => by
  unfold GgAt at h
  rcases Nat.lt_or_ge o 3 with ho | ho
  · have := World.rowIs.cell h ho
    rw [this] at e
    simp [ggF] at e
  · obtain ⟨cur, hc, hs, _⟩ := h
    simp only [World.cell?, hc] at e
    simp at e
    rw [Array.getElem?_eq_none (by omega)] at e
    cases e
theorem rowI_frame {V W : World} {v : Value} {L : List Int} {gs a b c : Nat} (h : RowI V v L) (hg : GgAt V gs a b c) (hk : ∀ k, k < V.heap.size → k ≠ gs → W.heap[k]? = V.heap[k]?) : RowI W v L := by
  obtain ⟨oa, cap, e, e0, hc⟩ := h
  refine ⟨oa, cap, e, e0, fun i z hi => ?_⟩
  obtain ⟨g, o, e1, e2⟩ := hc i z hi
  refine ⟨g, o, e1, ?_⟩
  have hne : g ≠ gs := fun q => by rw [q] at e2; exact hg.kind e2
  have h1 := hk g (cell_lt e2) hne
  simp only [World.cell?] at e2 ⊢
  rw [h1]; exact e2
theorem hv_of {V W0 : World} {P : Pb} {wv fv rv : Value} {gs a b c : Nat} {vm : Value} {gr cr : Nat} {L1 : List Nat} {L2 : List Value} {X : List (List (Rl × Value))} (h : Nl V P wv fv rv gs W0 vm (.slice (some ⟨gr, 0, none⟩) P.who.length cr) vm (.slice (some ⟨gr, 0, none⟩) P.who.length cr) L1 L2 X) (hX : X.length = P.who.length ∧ ∀ (t : Nat) (E : List (Rl × Value)), X[t]? = some E → E.map Prod.fst = rulN P.rules (t : Int)) (hP : chkN P = 0) (hg : GgAt V gs a b c) (hm : ∀ r ∈ P.rules, r.steps.length ≤ 1000) : Hv W0 (V.heap.size + 1) P.users.toNat P.who.length gr 0 gs (mayP P) (P.who.length * P.users.toNat * P.who.length) (rsP P) := by
  obtain ⟨h12, hU0, hU, hR, hfx, hwo, hru⟩ := chkN_zero hP
  have hgl := hg.lt
  have hgr : V.heap.size + 2 ≤ gr := own_ge' h.r2 rfl
  refine ⟨fun W hF t ht => ?_, fun t => ⟨?_, fun r hr => hm r (List.mem_filter.1 hr).1⟩, h12, by omega, ?_, zb_of hP⟩
  · obtain ⟨v, hv⟩ : ∃ v, L2[t]? = some v := ⟨_, List.getElem?_eq_getElem (by rw [← h.len, hX.1]; exact ht)⟩
    obtain ⟨E, hE⟩ : ∃ E, X[t]? = some E := ⟨_, List.getElem?_eq_getElem (by rw [hX.1]; exact ht)⟩
    have hr2 := h.r2
    rw [show L2.length = P.who.length by rw [← h.len, hX.1]] at hr2
    have hc := hr2.cellAt t (by omega)
    rw [hv] at hc
    refine ⟨v, ?_, ?_⟩
    · rw [Nat.zero_add]
      have := hF.block gr (cell_lt hc) (by omega) (by omega)
      simp only [World.cell?] at hc ⊢
      rw [this]; exact hc
    · have hT := h.inner t v E hv hE
      have hrow : W.ownsRow (V.heap.size + 2) 44 3 v E.length (cellsR E) := own_same hT.row fun k hk hkv => by
        have := own_ge' hT.row hkv
        exact hF.block k hk (by omega) (by omega)
      have hin : ∀ p ∈ E, RowI W p.2 p.1.steps := fun p hp => rowI_frame (hT.inner p hp) hg fun k hk hne => (hF.block k (Nat.lt_of_lt_of_le hk h.be.size) (by omega) hne).trans (h.be.block k hk)
      have := TwO.rowR (w0 := W) ⟨hrow, hin⟩ (Below.refl _ _)
      rw [hX.2 t E hE] at this
      exact this
  · have : (rsP P t).length ≤ P.rules.length := List.length_filter_le _ _
    omega
  · have h1 : P.who.length * P.users.toNat ≤ 12 * 64 := Nat.mul_le_mul h12 (by omega)
    exact Nat.mul_le_mul h1 h12
theorem ftR_of {V W0 : World} {P : Pb} {wv fv rv : Value} {gs a b c : Nat} {vr : Value} {gm cm : Nat} {L2 : List Value} {X : List (List (Rl × Value))} (h : Nl V P wv fv rv gs W0 (.slice (some ⟨gm, 0, none⟩) P.who.length cm) vr (.slice (some ⟨gm, 0, none⟩) P.who.length cm) vr ((List.range P.who.length).map (mayP P)) L2 X) (hP : chkN P = 0) (hw : ∀ z ∈ P.who, z < 18446744073709551616) (hg : GgAt V gs a b c) (hGs : 1 ≤ gs) (ht : M.Tab V) : FtR W0 (V.heap.size + 1) P.users.toNat gm 0 cm P.who.length vr (fun _ _ => 0) (fun _ => 0) gs a b c (mayP P) := by
  obtain ⟨h12, hU0, hU, hR, hfx, hwo, hru⟩ := chkN_zero hP
  have hgl := hg.lt
  have hgm : V.heap.size + 2 ≤ gm := own_ge' h.r1 rfl
  refine ⟨h.lk, hg.below h.be, by omega, by omega, by omega, by omega, hGs, fun j hj => ?_, mayP_lt hw (fixB_of hfx hU).2, ht.over h.be⟩
  have hr1 := h.r1
  rw [List.length_map, List.length_range] at hr1
  have hc := hr1.cellAt j (by omega)
  rw [Nat.zero_add, hc]
  simp [cellsW, hj]
theorem cntB_few {n : Nat} (h : n ≤ 12) : cntB n 0 ≤ 100000000 := by
  have : ∀ m : Fin 13, cntB m.val 0 ≤ 100000000 := by decide +kernel
  exact this ⟨n, by omega⟩
end Go.Proofs.YtlijlelejobchaaGreatDoor.S
namespace Go.Proofs.YtlijlelejobchaaGreatDoor.S
open Go.RowKit Go.Shelf
set_option maxRecDepth 100000 in
set_option maxHeartbeats 1000000 in
theorem rowsAt (g o b : Nat) (w : World) (hb : b ≤ 12) (cb : w.cell? ⟨g, o + 12, none⟩ = some (.int .i64 (b : Int))) : Calls Tryz.prog 56 #[.pointer (some ⟨g, o, none⟩)] w fun e w' => e = .returned (.slice (some ⟨g, o, none⟩) b 12) ∧ Below w.heap.size w w' := by
  have h0 : ¬ (b : Int) < 0 := by omega
  have h1 : (b : Int) ≤ 12 := by omega
  go_enter Tryz.func56, Tryz.ntmps56
  go_wp2
  go_region
  go_wp2
  go_ret
  exact ⟨rfl, (Below.refl _ _).drew⟩
/-- What a search adds to the gauge at most. -/
def GgB (P : Pb) (e a b c a' b' c' : Nat) : Prop := (a ≤ a' ∧ a' ≤ a + cntB P.who.length 0) ∧ (b ≤ b' ∧ b' ≤ b + cntB P.who.length 0 * P.users.toNat) ∧ (c ≤ c' ∧ c' ≤ c + cntB P.who.length 0 * (P.who.length * P.users.toNat * P.who.length) + e)
/-- The pattern that was found, and its blocks in the look. -/
structure FdQ (P : Pb) (q : List Nat) (gl : Nat) (W : World) : Prop where
  len : q.length = P.who.length
  leg : Leg 0 q
  kept : Kx (kpS (mayP P) (rsP P) P.who.length) [] q
  least : ∀ q', q'.length = P.who.length → Leg 0 q' → Kx (kpS (mayP P) (rsP P) P.who.length) [] q' → q' = q ∨ Lx q q'
  row : ∀ r, r < 12 → W.cell? ⟨gl, 3 + P.who.length * 13 + r, none⟩ = some (.int .u64 ((lvS (mayP P) q).1 r : Int))
  num : W.cell? ⟨gl, 3 + P.who.length * 13 + 12, none⟩ = some (.int .i64 (blks 0 q : Int))
def HuP (V0 w2 : World) (P : Pb) (gs a b c : Nat) (e : Ending) (w3 : World) : Prop :=
  ∃ oa cap found a' b' c', e = .returned (.slice oa found.length cap) ∧ Hid (RRH w3 (.slice oa found.length cap) found) ∧ Hid (M.Fr2 w2 w3 (V0.heap.size + 1) gs) ∧ Hid (GgAt w3 gs a' b' c' ∧ M.Tab w3 ∧ GgB P 0 a b c a' b' c') ∧ ((found = [] ∧ Hid (LsP P none)) ∨ ∃ q, found = [q] ∧ Hid (FdQ P q (V0.heap.size + 1) w3))
theorem lv_cells {W : World} {gl U : Nat} {mv rv : Value} {F : Nat → Nat → Nat} {N : Nat → Nat} {gw : Nat} (h : LkAt W gl U mv rv F N gw) {j : Nat} (hj : j < 13) : (∀ r, r < 12 → W.cell? ⟨gl, 3 + j * 13 + r, none⟩ = some (.int .u64 (F j r : Int))) ∧ W.cell? ⟨gl, 3 + j * 13 + 12, none⟩ = some (.int .i64 (N j : Int)) := by
  have hr := h.range hj
  refine ⟨fun r hr' => ?_, ?_⟩
  · refine hr r _ ?_
    rw [Array.getElem?_toList, lvA_at _ _ r (by omega)]
    simp [lvF, hr']
  · refine hr 12 _ ?_
    rw [Array.getElem?_toList, lvA_at _ _ 12 (by omega)]
    simp [lvF]
theorem kx_nil (K : List Nat → Bool) : Kx K [] [] := fun _ hj => absurd hj (Nat.not_lt_zero _)
theorem own_some {W : World} {B : Nat} {e : TypeId} {size : Nat} {v : Value} {n : Nat} {xs : List Value} (h : W.ownsRow B e size v n xs) (hn : 0 < n) : ∃ g cap, v = .slice (some ⟨g, 0, none⟩) n cap := by
  rcases h.2 with ⟨rfl, h0⟩ | ⟨g, cap, cur, rfl, _⟩
  · omega
  · exact ⟨g, cap, rfl⟩
theorem lsp_of {P : Pb} (h : FsA (kpS (mayP P) (rsP P) P.who.length) [] P.who.length (fun _ => True) []) : LsP P none := by
  rcases h with ⟨_, h⟩ | ⟨q, h, _⟩
  · exact ls_none fun q hq hL hK => h q hq hL hK trivial
  · cases h
set_option maxHeartbeats 1000000 in
theorem huntF {V0 w2 : World} {P : Pb} {wv fv rv : Value} {gs a b c : Nat} {vm vr : Value} {L2 : List Value} {X : List (List (Rl × Value))} (hN : Nl V0 P wv fv rv gs w2 vm vr vm vr ((List.range P.who.length).map (mayP P)) L2 X) (hX : X.length = P.who.length ∧ ∀ (t : Nat) (E : List (Rl × Value)), X[t]? = some E → E.map Prod.fst = rulN P.rules (t : Int)) (hP : chkN P = 0) (hw : ∀ z ∈ P.who, z < 18446744073709551616) (hm : ∀ r ∈ P.rules, r.steps.length ≤ 1000) (hg : GgAt V0 gs a b c) (hGs : 1 ≤ gs) (ht : M.Tab V0) (ha0 : a ≤ 2305843009213693952) (hb0 : b ≤ 2305843009213693952) (hc0 : c ≤ 2305843009213693952) :
    Calls Tryz.prog 54 #[.int .i64 (P.who.length : Int), .int .i64 1, kvS (V0.heap.size + 1)] w2 (HuP V0 w2 P gs a b c) := by
  have h12 := (chkN_zero hP).1
  have hgl := hg.lt
  have hV2 := hN.sz
  have hfirst := hn_first (kpS (mayP P) (rsP P) P.who.length) P.who.length [] ([], []) rfl
  have hasked := hn_len (kpS (mayP P) (rsP P) P.who.length) 1 P.who.length [] ([], [])
  have hkm := cntB_few h12
  simp only [List.length_nil, Nat.zero_add, show blks 0 [] = 0 from rfl] at hasked
  by_cases h0 : P.who.length = 0
  · -- no steps: nothing is asked
    have hgg := hg.below hN.be
    have htt := ht.over hN.be
    have h2 : Calls Tryz.prog 54 #[.int .i64 (P.who.length : Int), .int .i64 1, kvS (V0.heap.size + 1)] w2 _ := searchH (fun _ _ W => M.Fr2 w2 W (V0.heap.size + 1) gs ∧ LkAt W (V0.heap.size + 1) P.users.toNat vm vr (fun _ _ => 0) (fun _ => 0) gs ∧ GgAt W gs a b c ∧ M.Tab W) 55 #[.pointer (some ⟨V0.heap.size + 1, 0, none⟩)] #[] (kpS (mayP P) (rsP P) P.who.length) P.who.length h12 1 (by decide) 1 (by decide) w2
      (fun _ _ W W' h hb => ⟨⟨hb.os.trans h.1.os, hb.tape.trans h.1.tape, hb.output.trans h.1.output, Nat.le_trans h.1.size hb.size, fun k hk e1 e2 => (hb.block k hk).trans (h.1.block k hk e1 e2)⟩, h.2.1.of (hb.block _ (by omega)), h.2.2.1.of (hb.block _ (by omega)), h.2.2.2.below (by have := htt.2; exact this) hb⟩) (fun _ _ _ _ _ h => h) (fun _ _ _ _ h => h) (cntB P.who.length 0) hasked
      (fun W tag ov vs xs s p c' _ _ _ _ hl => absurd hl (by rw [h0]; simp)) ⟨M.Fr2.refl _ _ _, hN.lk, hgg, htt⟩
    refine h2.mono ?_
    rintro e w3 ⟨oa, cap, rfl, hR, hG, _⟩
    obtain ⟨g1, g2, g3, g4⟩ := hG.out
    refine ⟨oa, cap, _, a, b, c, rfl, hR, g1, ⟨g3, g4, ⟨Nat.le_refl _, by omega⟩, ⟨Nat.le_refl _, by omega⟩, ⟨Nat.le_refl _, by omega⟩⟩, .inr ⟨[], ?_, ?_⟩⟩
    · rw [h0]; rfl
    · have hcl := lv_cells g2 (j := P.who.length) (by omega)
      exact ⟨h0.symm, trivial, kx_nil _, fun q' hq _ _ => .inl (List.eq_nil_of_length_eq_zero (by omega)), fun r hr => hcl.1 r hr, hcl.2⟩
  · have hr1 := hN.r1
    rw [List.length_map, List.length_range] at hr1
    have hr2 := hN.r2
    rw [show L2.length = P.who.length by rw [← hN.len, hX.1]] at hr2
    obtain ⟨gm, cm, rfl⟩ := own_some hr1 (by omega)
    obtain ⟨gr, cr, rfl⟩ := own_some hr2 (by omega)
    have hv := hv_of hN hX hP hg hm
    have hft := ftR_of hN hP hw hg hGs ht
    have hgm : gm < w2.heap.size := cell_lt (hft.may 0 (by omega))
    have hGw : 1 ≤ w2.heap.size := Nat.le_trans ht.2 hN.be.size
    have h2 : Calls Tryz.prog 54 #[.int .i64 (P.who.length : Int), .int .i64 1, kvS (V0.heap.size + 1)] w2 _ := searchH (Gs w2 (V0.heap.size + 1) P.users.toNat gm 0 cm P.who.length gr 0 cr gs (mayP P) (P.who.length * P.users.toNat * P.who.length) a b c) 55 #[.pointer (some ⟨V0.heap.size + 1, 0, none⟩)] #[] (kpS (mayP P) (rsP P) P.who.length) P.who.length h12 1 (by decide) 1 (by decide) w2
      (fun p s W W' h hb => by obtain ⟨t, h1, h2⟩ := h; exact ⟨t, h1.over (by omega) (by omega) hgm hGw hb, h2⟩)
      (fun p s W hp hs h => by
        obtain ⟨t, h1, h2⟩ := h
        have e : s.2 = [] := List.eq_nil_of_length_eq_zero (by omega)
        refine ⟨[], by rw [List.append_nil]; exact h1.cuts, fun _ => ?_⟩
        show s.2 ++ [p] = [p ++ []]
        rw [e]; simp)
      (fun p c' s W h => by
        obtain ⟨t, h1, h2⟩ := h
        exact ⟨c' :: t, by simpa using h1, fun q => by simpa using h2 q⟩) (cntB P.who.length 0) hasked
      (keptS hv (by omega) (by omega) hgm hGw hkm ha0 hb0 hc0) ⟨[], ⟨fun _ _ => 0, fun _ => 0, a, b, c, M.Fr2.refl _ _ _, hft, fun _ _ => by simp [lvS], ⟨Nat.le_refl _, by simp⟩, ⟨Nat.le_refl _, by simp⟩, ⟨Nat.le_refl _, by simp⟩⟩, fun q => absurd rfl q⟩
    refine h2.mono ?_
    rintro e w3 ⟨oa, cap, rfl, hR, hG, _⟩
    obtain ⟨t, ⟨F, N, a', b', c', g1, g2, g3, g4, g5, g6⟩, g7⟩ := hG.out
    rw [List.nil_append] at g3 g7
    have hK1 : (hnS (kpS (mayP P) (rsP P) P.who.length) 1 P.who.length [] ([], [])).1.length * P.users.toNat ≤ cntB P.who.length 0 * P.users.toNat := Nat.mul_le_mul hasked (Nat.le_refl _)
    have hK2 : (hnS (kpS (mayP P) (rsP P) P.who.length) 1 P.who.length [] ([], [])).1.length * (P.who.length * P.users.toNat * P.who.length) ≤ cntB P.who.length 0 * (P.who.length * P.users.toNat * P.who.length) := Nat.mul_le_mul hasked (Nat.le_refl _)
    refine ⟨oa, cap, _, a', b', c', rfl, hR, g1, ⟨g2.gg, g2.tab, ⟨g4.1, by omega⟩, ⟨g5.1, by omega⟩, ⟨g6.1, by omega⟩⟩, ?_⟩
    generalize (hnS (kpS (mayP P) (rsP P) P.who.length) 1 P.who.length [] ([], [])).2 = found at *
    rcases hfirst with ⟨e1, e2⟩ | ⟨q, e1, e2, e3, e4, _, e6⟩
    · exact .inl ⟨e1, ls_none fun q hq hL hK => e2 q hq hL hK trivial⟩
    · rw [List.nil_append] at e1
      refine .inr ⟨q, e1, ?_⟩
      have e5 : t = q := by
        have := g7 (by rw [e1]; simp)
        rw [e1] at this
        simpa using this.symm
      subst e5
      have hcl := lv_cells g2.lk (j := P.who.length) (by omega)
      have hF := g3 P.who.length (by omega)
      rw [List.take_of_length_le (by omega)] at hF
      rw [hF.1, hF.2, lvS_blk _ e3] at hcl
      exact ⟨e2, e3, e4, fun q' hq hL hK => e6 q' hq hL hK trivial, hcl.1, hcl.2⟩
end Go.Proofs.YtlijlelejobchaaGreatDoor.S
namespace Go.Proofs.YtlijlelejobchaaGreatDoor.S
open Go.RowKit Go.Shelf
/-- What first answers. -/
def FiP (w : World) (P : Pb) (gs a b c : Nat) (e : Ending) (w' : World) : Prop :=
  (∃ a' b' c', Hid (GgAt w' gs a' b' c') ∧ Hid (GgB P (P.who.length * P.users.toNat * (P.who.length + P.who.length * P.who.length)) a b c a' b' c')) ∧ Hid (M.Fr2 w w' gs gs) ∧ ((e = .returned (.tuple #[.slice none 0 0, .bool false]) ∧ Hid (LsP P none)) ∨ ∃ v l, e = .returned (.tuple #[v, .bool true]) ∧ Hid (LsP P (some l)) ∧ Hid (w'.ownsRow w.heap.size 3 1 v l.length (cellsI l)))
def plA (q : List Nat) (f : Nat → Nat) (j t : Nat) : Int := if t < j then (f (q.getD t 0) : Int) else 0
theorem plA_set (q : List Nat) (f : Nat → Nat) (j : Nat) : (fun t => if t = j then (f (q.getD j 0) : Int) else plA q f j t) = plA q f (j + 1) := by
  funext t
  unfold plA
  by_cases e : t = j
  · subst e; rw [if_pos rfl, if_pos (by omega)]
  · rw [if_neg e]
    by_cases e2 : t < j
    · rw [if_pos e2, if_pos (by omega)]
    · rw [if_neg e2, if_neg (by omega)]
theorem plA_all (q : List Nat) (f : Nat → Nat) : cellsZ (plA q f q.length) q.length = cellsI (planL q f) := by
  unfold cellsZ cellsI planL
  rw [List.map_map]
  refine List.ext_getElem? fun i => ?_
  rw [List.getElem?_map, List.getElem?_map]
  rcases Nat.lt_or_ge i q.length with h | h
  · rw [List.getElem?_range h, List.getElem?_eq_getElem h]
    simp [plA, h]
  · rw [List.getElem?_eq_none (by simpa using h), List.getElem?_eq_none h]; rfl
theorem GgAt.slice {W : World} {gw a b c o : Nat} {x : Option Addr} {n m : Nat} (h : GgAt W gw a b c) : W.cell? ⟨gw, o, none⟩ ≠ some (.slice x n m) := fun e => by
  unfold GgAt at h
  rcases Nat.lt_or_ge o 3 with ho | ho
  · have := World.rowIs.cell h ho
    rw [this] at e
    simp [ggF] at e
  · obtain ⟨cur, hc, hs, _⟩ := h
    simp only [World.cell?, hc] at e
    simp at e
    rw [Array.getElem?_eq_none (by omega)] at e
    cases e
theorem rrh_frame {V W : World} {v : Value} {L : List (List Nat)} {gs a b c : Nat} (h : RRH V v L) (hg : GgAt V gs a b c) (hk : ∀ k, k < V.heap.size → k ≠ gs → W.heap[k]? = V.heap[k]?) : RRH W v L := by
  obtain ⟨oa, cap, e, hc⟩ := h
  refine ⟨oa, cap, e, fun i l hi => ?_⟩
  obtain ⟨g, o, ou, cu, e1, e2, e3⟩ := hc i l hi
  refine ⟨g, o, ou, cu, e1, ?_, rowI_frame e3 hg hk⟩
  have hne : g ≠ gs := fun q => by rw [q] at e2; exact hg.slice e2
  have h1 := hk g (cell_lt e2) hne
  simp only [World.cell?] at e2 ⊢
  rw [h1]; exact e2
theorem fr_one {w w2 w3 : World} {gl gs : Nat} (h : Below w.heap.size w w2) (hf : M.Fr2 w2 w3 gl gs) (hgl : w.heap.size ≤ gl) : M.Fr2 w w3 gs gs :=
  ⟨hf.os.trans h.os, hf.tape.trans h.tape, hf.output.trans h.output, Nat.le_trans h.size hf.size, fun k hk e1 _ => (hf.block k (Nat.lt_of_lt_of_le hk h.size) (by omega) e1).trans (h.block k hk)⟩
theorem fr_then {w w2 w3 : World} {gs : Nat} (h : M.Fr2 w w2 gs gs) (hb : Below w2.heap.size w2 w3) : M.Fr2 w w3 gs gs := h.trans (M.Fr2.below hb)
set_option maxRecDepth 100000 in
set_option maxHeartbeats 8000000 in
theorem firstF (P : Pb) (wv fv rv : Value) (gs a b c : Nat) (w : World) (h : PbV w P wv fv rv) (hP : chkN P = 0) (hw : ∀ z ∈ P.who, z < 18446744073709551616) (hm : ∀ r ∈ P.rules, r.steps.length ≤ 1000) (hg : GgAt w gs a b c) (hGs : 1 ≤ gs) (ht : M.Tab w) (ha0 : a ≤ 2305843009213693952) (hb0 : b ≤ 2305843009213693952) (hc0 : c ≤ 2305843009213693952) :
    Calls Tryz.prog 25 #[.pointer (some ⟨gs, 0, none⟩), pbV P wv fv rv] w (FiP w P gs a b c) := by
  obtain ⟨h12, hU0, hU, hR, hfx, hwo, hru⟩ := chkN_zero hP
  obtain ⟨hfl, hx⟩ := fixB_of hfx hU
  have hU64 : P.users.toNat ≤ 64 := by omega
  obtain ⟨i0, hi, hz0, hz1, hz2⟩ := info_parts info3
  have hs := h.shape
  have hgsl := hg.lt
  obtain ⟨V0, hV0⟩ : ∃ V, V = (w.alloc (.cells #[.int .i64 P.users, wv, fv, rv] 26)).drew := ⟨_, rfl⟩
  have hsz0 : V0.heap.size = w.heap.size + 1 := by rw [hV0]; simp [World.drew]
  have hbV : Below w.heap.size w V0 := by rw [hV0]; exact ((Below.refl _ w).alloc (Nat.le_refl _) _).drew
  have hpV : PbB V0 w.heap.size P wv fv rv := by rw [hV0]; exact heap_new w _
  have hgV := hg.below hbV
  have htV := ht.over hbV
  have KN : Hid (Calls Tryz.prog 53 #[pbV P wv fv rv, .pointer (some ⟨gs, 0, none⟩)] (w.alloc (.cells #[.int .i64 P.users, wv, fv, rv] 26)).drew fun e w' => e = .returned (.pointer (some ⟨w.heap.size + 1 + 1, 0, none⟩)) ∧ ∃ vm vr L2 X, Hid (Nl V0 P wv fv rv gs w' vm vr vm vr ((List.range P.who.length).map (mayP P)) L2 X) ∧ Hid (X.length = P.who.length ∧ ∀ (t : Nat) (E : List (Rl × Value)), X[t]? = some E → E.map Prod.fst = rulN P.rules (t : Int))) := by
    rw [← hV0]
    have := newLookF P wv fv rv gs V0 (h.below hbV) h12 hfl hx hU0 (by omega) hm
    rw [hsz0] at this
    exact this
  have KS : Hid (∀ (w2 : World) (vm vr : Value) (L2 : List Value) (X : List (List (Rl × Value))), Nl V0 P wv fv rv gs w2 vm vr vm vr ((List.range P.who.length).map (mayP P)) L2 X → (X.length = P.who.length ∧ ∀ (t : Nat) (E : List (Rl × Value)), X[t]? = some E → E.map Prod.fst = rulN P.rules (t : Int)) → Calls Tryz.prog 54 #[.int .i64 (P.who.length : Int), .int .i64 1, .func (.func 55) #[.pointer (some ⟨w.heap.size + 1 + 1, 0, none⟩)] #[]] w2 (HuP V0 w2 P gs a b c)) := fun w2 vm vr L2 X hN hX => by
    have := huntF hN hX hP hw hm hgV hGs htV ha0 hb0 hc0
    unfold kvS at this
    rw [hsz0] at this
    exact this
  have hwd : Hid (∀ q r, (lvS (mayP P) q).1 r < 18446744073709551616) := fun q => lvS_word (mayP_lt hw hx) q
  have hkp : Hid (∀ q, q.length = P.who.length → Leg 0 q → Kx (kpS (mayP P) (rsP P) P.who.length) [] q → M.Ind (lvS (mayP P) q).1 (fun r => r < blks 0 q)) := fun q h1 h2 h3 => ((kept_iff hP h1 h2).1 h3).2
  have hft : Hid (∀ q, Leg 0 q → q.length = P.who.length → bitsN (lvS (mayP P) q).1 (blks 0 q) ≤ P.who.length * P.users.toNat ∧ blks 0 q ≤ P.who.length) := fun q h1 h2 => by
    have hb := blks_leg h1
    have h3 : blks 0 q ≤ P.who.length := by omega
    exact ⟨Nat.le_trans (bitsN_few _ (lv_user hP h1 (by omega))) (Nat.mul_le_mul h3 (Nat.le_refl _)), h3⟩
  have hend : Hid (∀ q, FdQ P q (w.heap.size + 1 + 1) V0 → True) := fun _ _ => trivial
  have hls : Hid (∀ (q : List Nat) (gl : Nat) (W : World) (pl : Nat → Nat), FdQ P q gl W → M.Lex (blks 0 q) (lvS (mayP P) q).1 pl (blks 0 q) → LsP P (some (planL q pl))) := fun q gl W pl hq hl => ls_some hP hq.len hq.leg hq.kept hq.least hl
  have hB0 : Hid (Below w.heap.size w V0 ∧ PbB V0 w.heap.size P wv fv rv) := ⟨hbV, hpV⟩
  have hS0 : Hid ((w.alloc (.cells #[.int .i64 P.users, wv, fv, rv] 26)).drew.cell? ⟨w.heap.size, 0, none⟩ = some (.int .i64 P.users) ∧ (w.alloc (.cells #[.int .i64 P.users, wv, fv, rv] 26)).drew.cell? ⟨w.heap.size, 1, none⟩ = some wv ∧ (w.alloc (.cells #[.int .i64 P.users, wv, fv, rv] 26)).drew.cell? ⟨w.heap.size, 2, none⟩ = some fv ∧ (w.alloc (.cells #[.int .i64 P.users, wv, fv, rv] 26)).drew.cell? ⟨w.heap.size, 3, none⟩ = some rv) := by
    have := hpV.all
    rw [hV0] at this
    exact this
  have hV0' := hide' hV0
  have hg' := hide' hg
  obtain ⟨ow, cw, of, cf, or, cr, rfl, rfl, rfl⟩ := hs
  unfold pbV at KN ⊢
  clear h hP hw hm hg ht hU0 hU hR hfx hwo hru hfl hx hbV hpV hgV htV hV0 hend
  go_enter Tryz.func25, Tryz.ntmps25
  go_wp2
  go_region_held3 (fun V => V.cell? ⟨w.heap.size, 0, none⟩ = some (.int .i64 P.users) ∧ V.cell? ⟨w.heap.size, 1, none⟩ = some (.slice ow P.who.length cw) ∧ V.cell? ⟨w.heap.size, 2, none⟩ = some (.slice of P.fixed.length cf) ∧ V.cell? ⟨w.heap.size, 3, none⟩ = some (.slice or P.rules.length cr)) (first | (exact hS0.out) | (exact hp2.out.all)) (first | (go_at_call 53; refine KN.out.mono ?_; rintro e w2 ⟨rfl, vm, vr, L2, X, hN, hX⟩; have hp2 := hide' (hB0.out.2.below hN.out.be)))
  have q1 := hp2.out.c1
  have KS2 := hide' (KS.out w2 vm vr L2 X hN.out hX.out)
  have hw2 : Hid (Below w.heap.size w w2) := hB0.out.1.trans (hN.out.be.mono hB0.out.1.size)
  have hsz2 : w.heap.size + 3 ≤ w2.heap.size := by have := hN.out.sz; omega
  clear KN KS hN hX hB0 hS0
  go_wp2_with fail
  refine KS2.out.mono ?_
  rintro e w3 ⟨oa, cap, found, a', b', c', rfl, hRR, hF, hG, hcs⟩
  rw [hsz0] at hF hcs
  have hp3 : Hid (PbB w3 w.heap.size P (.slice ow P.who.length cw) (.slice of P.fixed.length cf) (.slice or P.rules.length cr)) := (hF.out.block w.heap.size (by omega) (by omega) (by omega)).trans hp2.out
  have hf3 : Hid (M.Fr2 w w3 gs gs) := fr_one hw2.out hF.out (by omega)
  clear KS2 hp2 hw2 hF q1
  rcases hcs with ⟨rfl, hno⟩ | ⟨q, rfl, hq⟩
  · go_wp2
    refine bodyPost_ret (v := .tuple #[.slice none 0 0, .bool false]) (by simp [results, Tryz.results25, go_sem]) rfl ?_
    refine ⟨⟨a', b', c', hG.out.1, ?_⟩, hf3, .inl ⟨rfl, hno⟩⟩
    obtain ⟨h1, h2, h3, h4⟩ := hG.out.2.2
    exact ⟨h1, h2, h3, by omega⟩
  · have q1 := hp3.out.c1
    have hsz3 := hf3.out.size
    have hbq := hft.out q hq.out.leg hq.out.len
    have hbk : blks 0 q ≤ 12 := by omega
    have hnn := hq.out.num
    have KR : Hid (∀ V, Below w3.heap.size w3 V → Calls Tryz.prog 56 #[.pointer (some ⟨w.heap.size + 1 + 1, 3 + P.who.length * 13, none⟩)] V fun e w' => e = .returned (.slice (some ⟨w.heap.size + 1 + 1, 3 + P.who.length * 13, none⟩) (blks 0 q) 12) ∧ Below V.heap.size V w') := fun V hV => rowsAt _ _ _ V hbk (M.cell_over hq.out.num hV)
    have hS3 : Hid (∀ V, Below w3.heap.size w3 V → V.cell? ⟨w.heap.size, 1, none⟩ = some (.slice ow P.who.length cw)) := fun V hV => M.cell_over hp3.out.c1 hV
    have hn13 : (P.who.length : Int) < 13 := by omega
    have hn0 : ¬ (P.who.length : Int) < 0 := by omega
    clear hnn hft
    go_wp2
    go_region_held3 (fun V => V.cell? ⟨w.heap.size, 1, none⟩ = some (.slice ow P.who.length cw)) (first | (exact hS3.out _ (Below.refl _ w3).drew) | (exact hS3.out _ hb4)) (first | (go_at_call 56; refine (KR.out _ (Below.refl _ w3).drew).mono ?_; rintro e w4 ⟨rfl, hb4'⟩; have hb4 : Below w3.heap.size w3 w4 := Below.trans (Below.refl _ w3).drew hb4'))
    have hA4 : Hid (M.RwA w4 (.slice (some ⟨w.heap.size + 1 + 1, 3 + P.who.length * 13, none⟩) (blks 0 q) 12) (blks 0 q) (lvS (mayP P) q).1) := ⟨⟨_, _, rfl, fun r hr => ⟨_, _, rfl, M.cell_over (hq.out.row r (by omega)) hb4⟩⟩, hG.out.2.1.over hb4, hwd.out q⟩
    have KL := hide' (M.leastF hA4.out)
    have hI := hide' (hkp.out q hq.out.len hq.out.leg hq.out.kept)
    have hb4h := hide' hb4
    clear KR hS3 hb4 hb4' hwd hkp
    go_wp2_with fail
    refine KL.out.mono ?_
    rintro e w5 ⟨hb5, ⟨_, pl, vu, rfl, hLx, hou⟩ | ⟨rfl, hno⟩⟩
    · have hls5 := hide' (hls.out q _ w3 pl hq.out hLx.out)
      have hb35 : Hid (Below w3.heap.size w3 w5) := hb4h.out.trans (hb5.out.mono hb4h.out.size)
      have hg5 := hide' (hG.out.1.below hb35.out)
      have hA5 := hide' (hA4.out.over hb5.out)
      have hq9 := hq.out.len
      have hf5 := hide' (fr_then hf3.out hb35.out)
      have hR5 := hide' (hRR.out.below hb35.out (Nat.le_refl _))
      have hbits := hbq.1
      have hin : Hid (∀ (j x : Nat), q[j]? = some x → x < blks 0 q) := fun j x hx => lt_blks (List.mem_of_getElem? hx)
      generalize hB : blks 0 q = B at *
      generalize hRw : (lvS (mayP P) q).1 = Rw at *
      have hBB : B * B ≤ 144 := Nat.mul_le_mul hbk hbk
      obtain ⟨bb, hbb⟩ : ∃ x, x = B * B := ⟨_, rfl⟩
      obtain ⟨kk, hkk⟩ : ∃ x, x = B + bb := ⟨_, rfl⟩
      have hwm : IntKind.i64.wrap ((B : Int) * (B : Int)) = (bb : Int) := by rw [show ((B : Int) * (B : Int)) = ((B * B : Nat) : Int) by simp, ← hbb, IntKind.wrap_i64]; omega
      have hwa : IntKind.i64.wrap ((B : Int) + (bb : Int)) = (kk : Int) := by rw [IntKind.wrap_i64]; omega
      have KE : Hid (∀ V, Below w5.heap.size w5 V → Calls Tryz.prog 58 #[.slice (some ⟨w.heap.size + 1 + 1, 3 + P.who.length * 13, none⟩) B 12, .int .i64 (kk : Int)] V fun e w' => e = .returned (.int .u64 ((bitsN Rw B * kk : Nat) : Int)) ∧ w' = V) := fun V hV => edgesF (hA5.out.over hV) hbk kk (by omega)
      have hEd : Hid (bitsN Rw B * kk ≤ P.who.length * P.users.toNat * (P.who.length + P.who.length * P.who.length)) := by
        show _ ≤ _
        rw [hkk, hbb]
        exact Nat.mul_le_mul hbits (Nat.add_le_add hbq.2 (Nat.mul_le_mul hbq.2 hbq.2))
      have hEd2 : bitsN Rw B * kk ≤ 768 * 156 := Nat.mul_le_mul (by have := bitsN_le Rw B; omega) (by omega)
      have hcc := hG.out.2.2.2.2
      have hcn : c' ≤ 4611686018427387904 := by
        have h1 : cntB P.who.length 0 * (P.who.length * P.users.toNat * P.who.length) ≤ 100000000 * (12 * 64 * 12) := Nat.mul_le_mul (cntB_few h12) (Nat.mul_le_mul (Nat.mul_le_mul h12 hU64) h12)
        have h2 := hcc.2
        omega
      generalize hEE : bitsN Rw B * kk = ee at *
      obtain ⟨ce, hce⟩ : ∃ x, x = c' + ee := ⟨_, rfl⟩
      have hwc : IntKind.u64.wrap ((c' : Int) + (ee : Int)) = (ce : Int) := by rw [IntKind.wrap_u64]; omega
      have hgb : Hid (GgB P (P.who.length * P.users.toNat * (P.who.length + P.who.length * P.who.length)) a b c a' b' ce) := by
        obtain ⟨h1, h2, h3, h4⟩ := hG.out.2.2
        have h5 := hEd.out
        exact ⟨h1, h2, by omega, by omega⟩
      have hdr : Hid (Below (w5.setCell ⟨gs, 2, none⟩ (.int .u64 (ce : Int))).heap.size (w5.setCell ⟨gs, 2, none⟩ (.int .u64 (ce : Int))) (w5.setCell ⟨gs, 2, none⟩ (.int .u64 (ce : Int))).drew) := (Below.refl _ _).drew
      have hg6 := hide' ((hg5.out.s2 ce).below hdr.out)
      have hgc := hg5.out.c2
      have hgf := hg5.out.frz 2
      have hf6 : Hid (M.Fr2 w (w5.setCell ⟨gs, 2, none⟩ (.int .u64 (ce : Int))).drew gs gs) := fr_then (hf5.out.trans (M.Fr2.setA _ gs gs 2 _)) hdr.out
      have hR6 : Hid (RRH (w5.setCell ⟨gs, 2, none⟩ (.int .u64 (ce : Int))).drew (.slice oa [q].length cap) [q]) := (rrh_frame hR5.out hg5.out fun k hk hne => Below.heap_setCell _ _ _ _ hne).below hdr.out (Nat.le_refl _)
      have hou6 : Hid ((w5.setCell ⟨gs, 2, none⟩ (.int .u64 (ce : Int))).drew.ownsRow w4.heap.size 3 1 vu B (I.cellsI (M.plL pl B))) := own_below (own_same hou.out fun k _ hk => Below.heap_setCell _ _ _ _ (by have := own_ge' hou.out hk; have := hb4h.out.size; show k ≠ gs; omega)) hdr.out (Nat.le_refl _)
      have hp6 : Hid (PbB (w5.setCell ⟨gs, 2, none⟩ (.int .u64 (ce : Int))).drew w.heap.size P (.slice ow P.who.length cw) (.slice of P.fixed.length cf) (.slice or P.rules.length cr)) := PbB.below ((Below.heap_setCell _ _ _ _ (by show w.heap.size ≠ gs; omega)).trans (hp3.out.below hb35.out)) hdr.out
      have hsz6 : w4.heap.size ≤ w5.heap.size := hb5.out.size
      clear KL hb5 hce hdr hEd hG hou hRR hR5 hf5 hf3 hp3 hA4 hb4h hcc hEd2 hbb hkk hEE
      go_upto_region 7 with fail
      refine wp_region_held_drew (S := (fun _ => True)) (by kernel_rfl) ?_ (fun hHeld => ?_)
      · trivial
      refine wpAnyH_take (i := 0) (oi := { dst := some 41, op := Op.move (Operand.tmp 0), type := 28, pos := "solver.go:48", after := #[], guard := none }) (v := ?_) rfl (by kernel_rfl) (by kernel_rfl) (by kernel_rfl) (fun _ _ _ h => h) (Or.inl ⟨by rfl, ?_⟩) (by assumption) ?_
      rotate_left
      · intro w hSw; (try dsimp only at hSw); go_simp <;> with_reducible rfl
      simp only [Act.put, List.setIfInBounds_toArray, List.set_cons_zero, List.set_cons_succ]
      refine wpAnyH_take (i := 1) (oi := { dst := some 42, op := Op.nilCheck (Operand.tmp 41), type := 0, pos := "solver.go:48", after := #[{ on := 0, ground := Ground.data }], guard := none }) (v := ?_) rfl (by kernel_rfl) (by kernel_rfl) (by kernel_rfl) (fun _ _ _ h => h) (Or.inl ⟨by rfl, ?_⟩) (by assumption) ?_
      rotate_left
      · intro w hSw; (try dsimp only at hSw); go_simp <;> with_reducible rfl
      simp only [Act.put, List.setIfInBounds_toArray, List.set_cons_zero, List.set_cons_succ]
      refine wpAnyH_take (i := 2) (oi := { dst := some 43, op := Op.fieldAddr 65 (Operand.tmp 42) 0, type := 0, pos := "solver.go:48", after := #[{ on := 1, ground := Ground.data }], guard := none }) (v := ?_) rfl (by kernel_rfl) (by kernel_rfl) (by kernel_rfl) (fun _ _ _ h => h) (Or.inl ⟨by rfl, ?_⟩) (by assumption) ?_
      rotate_left
      · intro w hSw; (try dsimp only at hSw); go_simp <;> with_reducible rfl
      simp only [Act.put, List.setIfInBounds_toArray, List.set_cons_zero, List.set_cons_succ]
      refine wpAnyH_take (i := 3) (oi := { dst := some 44, op := Op.fieldAddr 63 (Operand.tmp 43) 2, type := 0, pos := "solver.go:48", after := #[{ on := 2, ground := Ground.data }], guard := none }) (v := ?_) rfl (by kernel_rfl) (by kernel_rfl) (by kernel_rfl) (fun _ _ _ h => h) (Or.inl ⟨by rfl, ?_⟩) (by assumption) ?_
      rotate_left
      · intro w hSw; (try dsimp only at hSw); go_simp <;> with_reducible rfl
      simp only [Act.put, List.setIfInBounds_toArray, List.set_cons_zero, List.set_cons_succ]
      refine wpAnyH_take (i := 5) (oi := { dst := some 46, op := Op.move (Operand.tmp 8), type := 22, pos := "solver.go:48", after := #[], guard := none }) (v := ?_) rfl (by kernel_rfl) (by kernel_rfl) (by kernel_rfl) (fun _ _ _ h => h) (Or.inl ⟨by rfl, ?_⟩) (by assumption) ?_
      rotate_left
      · intro w hSw; (try dsimp only at hSw); go_simp <;> with_reducible rfl
      simp only [Act.put, List.setIfInBounds_toArray, List.set_cons_zero, List.set_cons_succ]
      refine wpAnyH_take (i := 6) (oi := { dst := some 47, op := Op.move (Operand.tmp 8), type := 22, pos := "solver.go:48", after := #[], guard := none }) (v := ?_) rfl (by kernel_rfl) (by kernel_rfl) (by kernel_rfl) (fun _ _ _ h => h) (Or.inl ⟨by rfl, ?_⟩) (by assumption) ?_
      rotate_left
      · intro w hSw; (try dsimp only at hSw); go_simp <;> with_reducible rfl
      simp only [Act.put, List.setIfInBounds_toArray, List.set_cons_zero, List.set_cons_succ]
      refine wpAnyH_take (i := 7) (oi := { dst := some 48, op := Op.call { callee := Callee.builtin Builtin.len, args := #[Operand.tmp 47], argTypes := #[22] }, type := 3, pos := "solver.go:48", after := #[{ on := 6, ground := Ground.data }], guard := none }) (v := ?_) rfl (by kernel_rfl) (by kernel_rfl) (by kernel_rfl) (fun _ _ _ h => h) (Or.inl ⟨by rfl, ?_⟩) (by assumption) ?_
      rotate_left
      · intro w hSw; (try dsimp only at hSw); go_simp <;> with_reducible rfl
      simp only [Act.put, List.setIfInBounds_toArray, List.set_cons_zero, List.set_cons_succ]
      refine wpAnyH_take (i := 8) (oi := { dst := some 49, op := Op.move (Operand.tmp 8), type := 22, pos := "solver.go:48", after := #[], guard := none }) (v := ?_) rfl (by kernel_rfl) (by kernel_rfl) (by kernel_rfl) (fun _ _ _ h => h) (Or.inl ⟨by rfl, ?_⟩) (by assumption) ?_
      rotate_left
      · intro w hSw; (try dsimp only at hSw); go_simp <;> with_reducible rfl
      simp only [Act.put, List.setIfInBounds_toArray, List.set_cons_zero, List.set_cons_succ]
      refine wpAnyH_take (i := 9) (oi := { dst := some 50, op := Op.call { callee := Callee.builtin Builtin.len, args := #[Operand.tmp 49], argTypes := #[22] }, type := 3, pos := "solver.go:48", after := #[{ on := 8, ground := Ground.data }], guard := none }) (v := ?_) rfl (by kernel_rfl) (by kernel_rfl) (by kernel_rfl) (fun _ _ _ h => h) (Or.inl ⟨by rfl, ?_⟩) (by assumption) ?_
      rotate_left
      · intro w hSw; (try dsimp only at hSw); go_simp <;> with_reducible rfl
      simp only [Act.put, List.setIfInBounds_toArray, List.set_cons_zero, List.set_cons_succ]
      refine wpAnyH_take (i := 10) (oi := { dst := some 51, op := Op.move (Operand.tmp 8), type := 22, pos := "solver.go:48", after := #[], guard := none }) (v := ?_) rfl (by kernel_rfl) (by kernel_rfl) (by kernel_rfl) (fun _ _ _ h => h) (Or.inl ⟨by rfl, ?_⟩) (by assumption) ?_
      rotate_left
      · intro w hSw; (try dsimp only at hSw); go_simp <;> with_reducible rfl
      simp only [Act.put, List.setIfInBounds_toArray, List.set_cons_zero, List.set_cons_succ]
      refine wpAnyH_take (i := 11) (oi := { dst := some 52, op := Op.call { callee := Callee.builtin Builtin.len, args := #[Operand.tmp 51], argTypes := #[22] }, type := 3, pos := "solver.go:48", after := #[{ on := 10, ground := Ground.data }], guard := none }) (v := ?_) rfl (by kernel_rfl) (by kernel_rfl) (by kernel_rfl) (fun _ _ _ h => h) (Or.inl ⟨by rfl, ?_⟩) (by assumption) ?_
      rotate_left
      · intro w hSw; (try dsimp only at hSw); go_simp <;> with_reducible rfl
      simp only [Act.put, List.setIfInBounds_toArray, List.set_cons_zero, List.set_cons_succ]
      refine wpAnyH_take (i := 12) (oi := { dst := some 53, op := Op.binOp BinOp.mul 3 (Operand.tmp 50) (Operand.tmp 52) 3, type := 3, pos := "solver.go:48", after := #[{ on := 9, ground := Ground.data }, { on := 11, ground := Ground.data }], guard := none }) (v := ?_) rfl (by kernel_rfl) (by kernel_rfl) (by kernel_rfl) (fun _ _ _ h => h) (Or.inl ⟨by rfl, ?_⟩) (by assumption) ?_
      rotate_left
      · intro w hSw; (try dsimp only at hSw); go_simp <;> with_reducible rfl
      simp only [Act.put, List.setIfInBounds_toArray, List.set_cons_zero, List.set_cons_succ]
      refine wpAnyH_take (i := 13) (oi := { dst := some 54, op := Op.binOp BinOp.add 3 (Operand.tmp 48) (Operand.tmp 53) 3, type := 3, pos := "solver.go:48", after := #[{ on := 7, ground := Ground.data }, { on := 12, ground := Ground.data }], guard := none }) (v := ?_) rfl (by kernel_rfl) (by kernel_rfl) (by kernel_rfl) (fun _ _ _ h => h) (Or.inl ⟨by rfl, ?_⟩) (by assumption) ?_
      rotate_left
      · intro w hSw; (try dsimp only at hSw); go_simp <;> with_reducible rfl
      simp only [Act.put, List.setIfInBounds_toArray, List.set_cons_zero, List.set_cons_succ]
      refine wpAnyH_ready (rs := [4, 14]) (by kernel_rfl) (by simp) ?_
      refine AllReadyH.cons (o := { dst := some 45, op := Op.load 55 (Operand.tmp 44), type := 55, pos := "solver.go:48", after := #[{ on := 3, ground := Ground.data }], guard := none }) rfl (fun K hK => ?_) ?_
      · skip
        go_simp
        refine hK.out _ _ ?_ (fun hHeld => ?_)
        · trivial
        clear hK K
        try simp only [Act.put, List.setIfInBounds_toArray, List.set_cons_zero, List.set_cons_succ]
        refine wpAnyH_ready (rs := [14]) (by kernel_rfl) (by simp) ?_
        refine AllReadyH.cons (o := { dst := some 55, op := Op.call { callee := Callee.value (Operand.func 58), args := #[Operand.tmp 46, Operand.tmp 54], argTypes := #[22, 3] }, type := 55, pos := "solver.go:48", after := #[{ on := 5, ground := Ground.data }, { on := 13, ground := Ground.data }], guard := none }) rfl (fun K hK => ?_) AllReadyH.nil
        go_simp
        go_at_call 58; refine (KE.out _ (Below.refl _ w5).drew).mono ?_; rintro e w6 ⟨rfl, rfl⟩; (try dsimp only)
        refine hK.out _ _ ?_ (fun hHeld => ?_)
        · trivial
        clear hK K
        try simp only [Act.put, List.setIfInBounds_toArray, List.set_cons_zero, List.set_cons_succ]
        refine wpAnyH_take (i := 15) (oi := { dst := some 56, op := Op.binOp BinOp.add 55 (Operand.tmp 45) (Operand.tmp 55) 55, type := 55, pos := "solver.go:48", after := #[{ on := 4, ground := Ground.data }, { on := 14, ground := Ground.data }], guard := none }) (v := ?_) rfl (by kernel_rfl) (by kernel_rfl) (by kernel_rfl) (fun _ _ _ h => h) (Or.inl ⟨by rfl, ?_⟩) (by assumption) ?_
        rotate_left
        · intro w hSw; (try dsimp only at hSw); go_simp <;> with_reducible rfl
        simp only [Act.put, List.setIfInBounds_toArray, List.set_cons_zero, List.set_cons_succ]
        refine wpAnyH_take (i := 16) (oi := { dst := some 57, op := Op.nilCheck (Operand.tmp 41), type := 0, pos := "solver.go:48", after := #[{ on := 0, ground := Ground.data }, { on := 0, ground := Ground.phase }, { on := 1, ground := Ground.phase }, { on := 2, ground := Ground.phase }, { on := 3, ground := Ground.phase }, { on := 4, ground := Ground.phase }, { on := 5, ground := Ground.phase }, { on := 6, ground := Ground.phase }, { on := 7, ground := Ground.phase }, { on := 8, ground := Ground.phase }, { on := 9, ground := Ground.phase }, { on := 10, ground := Ground.phase }, { on := 11, ground := Ground.phase }, { on := 12, ground := Ground.phase }, { on := 13, ground := Ground.phase }, { on := 14, ground := Ground.phase }, { on := 15, ground := Ground.phase }], guard := none }) (v := ?_) rfl (by kernel_rfl) (by kernel_rfl) (by kernel_rfl) (fun _ _ _ h => h) (Or.inl ⟨by rfl, ?_⟩) (by assumption) ?_
        rotate_left
        · intro w hSw; (try dsimp only at hSw); go_simp <;> with_reducible rfl
        simp only [Act.put, List.setIfInBounds_toArray, List.set_cons_zero, List.set_cons_succ]
        refine wpAnyH_take (i := 17) (oi := { dst := some 58, op := Op.fieldAddr 65 (Operand.tmp 57) 0, type := 0, pos := "solver.go:48", after := #[{ on := 16, ground := Ground.data }, { on := 0, ground := Ground.phase }, { on := 1, ground := Ground.phase }, { on := 2, ground := Ground.phase }, { on := 3, ground := Ground.phase }, { on := 4, ground := Ground.phase }, { on := 5, ground := Ground.phase }, { on := 6, ground := Ground.phase }, { on := 7, ground := Ground.phase }, { on := 8, ground := Ground.phase }, { on := 9, ground := Ground.phase }, { on := 10, ground := Ground.phase }, { on := 11, ground := Ground.phase }, { on := 12, ground := Ground.phase }, { on := 13, ground := Ground.phase }, { on := 14, ground := Ground.phase }, { on := 15, ground := Ground.phase }], guard := none }) (v := ?_) rfl (by kernel_rfl) (by kernel_rfl) (by kernel_rfl) (fun _ _ _ h => h) (Or.inl ⟨by rfl, ?_⟩) (by assumption) ?_
        rotate_left
        · intro w hSw; (try dsimp only at hSw); go_simp <;> with_reducible rfl
        simp only [Act.put, List.setIfInBounds_toArray, List.set_cons_zero, List.set_cons_succ]
        refine wpAnyH_take (i := 18) (oi := { dst := some 59, op := Op.fieldAddr 63 (Operand.tmp 58) 2, type := 0, pos := "solver.go:48", after := #[{ on := 17, ground := Ground.data }, { on := 0, ground := Ground.phase }, { on := 1, ground := Ground.phase }, { on := 2, ground := Ground.phase }, { on := 3, ground := Ground.phase }, { on := 4, ground := Ground.phase }, { on := 5, ground := Ground.phase }, { on := 6, ground := Ground.phase }, { on := 7, ground := Ground.phase }, { on := 8, ground := Ground.phase }, { on := 9, ground := Ground.phase }, { on := 10, ground := Ground.phase }, { on := 11, ground := Ground.phase }, { on := 12, ground := Ground.phase }, { on := 13, ground := Ground.phase }, { on := 14, ground := Ground.phase }, { on := 15, ground := Ground.phase }], guard := none }) (v := ?_) rfl (by kernel_rfl) (by kernel_rfl) (by kernel_rfl) (fun _ _ _ h => h) (Or.inl ⟨by rfl, ?_⟩) (by assumption) ?_
        rotate_left
        · intro w hSw; (try dsimp only at hSw); go_simp <;> with_reducible rfl
        simp only [Act.put, List.setIfInBounds_toArray, List.set_cons_zero, List.set_cons_succ]
        refine wpAnyH_ready (rs := [19]) (by kernel_rfl) (by simp) ?_
        refine AllReadyH.cons (o := { dst := none, op := Op.store 55 (Operand.tmp 59) (Operand.tmp 56), type := 0, pos := "solver.go:48", after := #[{ on := 18, ground := Ground.data }, { on := 15, ground := Ground.data }, { on := 14, ground := Ground.chain }, { on := 0, ground := Ground.phase }, { on := 1, ground := Ground.phase }, { on := 2, ground := Ground.phase }, { on := 3, ground := Ground.phase }, { on := 4, ground := Ground.phase }, { on := 5, ground := Ground.phase }, { on := 6, ground := Ground.phase }, { on := 7, ground := Ground.phase }, { on := 8, ground := Ground.phase }, { on := 9, ground := Ground.phase }, { on := 10, ground := Ground.phase }, { on := 11, ground := Ground.phase }, { on := 12, ground := Ground.phase }, { on := 13, ground := Ground.phase }, { on := 14, ground := Ground.phase }, { on := 15, ground := Ground.phase }], guard := none }) rfl (fun K hK => ?_) AllReadyH.nil
        go_simp
        refine hK.out _ _ ?_ (fun hHeld => ?_)
        · trivial
        clear hK K
        try simp only [Act.put, List.setIfInBounds_toArray, List.set_cons_zero, List.set_cons_succ]
        refine wpAnyH_done (by kernel_rfl) ?_ _
        skip
        generalize (w5.setCell ⟨gs, 2, none⟩ (.int .u64 (ce : Int))).drew = w6 at *
        have q6 := hp6.out.c1
        obtain ⟨g7, o7, ou, cu, rfl, hq7, hr7⟩ : ∃ g o ou cu, oa = some ⟨g, o, none⟩ ∧ w6.cell? ⟨g, o, none⟩ = some (.slice ou q.length cu) ∧ RowI w6 (.slice ou q.length cu) (ints q) := by
          obtain ⟨oa', cap', e, hc⟩ := hR6.out
          cases e
          exact hc 0 q rfl
        have hr7' := hide' hr7
        have hq9' := hide' hq9
        have hql : q.length ≤ 12 := by omega
        clear hr7 hq9 hR6 hp6 hwc hgc hgf hwm hwa KE
        go_wp2_with (at_make; refine wpList_make_full _ rfl _ _ 23 rfl w6.heap.size 3 i0 (.int .i64 0) 1 Tryz.underlying23 hi hz0 hz1 .i64 .i64 _ _ P.who.length rfl rfl rfl rfl (by rw [hz2]; omega) (by unfold maxLen; omega) (by simp) ?_; intro w8 hrow hgrow; have hB8 : Below w6.heap.size w6 w8 := (Below.refl _ w6).grown hgrow (Nat.le_refl _) (fun j ej => by cases ej); have hq8 := M.cell_over hq7 hB8)
        have hr0 : Hid (w8.ownsRow w6.heap.size 3 1 (.slice (some ⟨w6.heap.size, 0, none⟩) P.who.length P.who.length) P.who.length (cellsZ (plA q pl 0) P.who.length)) := by
          have h := hrow
          rw [show (Value.int .i64 0).cells = #[.int .i64 0] from rfl, toList_madeCells_one, Nat.mul_one, cellsZ_zero] at h
          have e : plA q pl 0 = fun _ => 0 := by funext a; simp [plA]
          rw [e]
          exact h
        have hB8' := hide' hB8
        clear hrow hgrow hq7 hq8 hB8 q6
        go_loopw [12, 13, 68] (fun _ _ p wr => ∃ (j : Nat), j ≤ q.length ∧ p = .int .i64 (j : Int) ∧ Hid (wr.ownsRow w6.heap.size 3 1 (.slice (some ⟨w6.heap.size, 0, none⟩) P.who.length P.who.length) P.who.length (cellsZ (plA q pl j) P.who.length)) ∧ Hid (Below w6.heap.size w6 wr)) (fun _ _ p _ => ((q.length : Int) - intOf p).toNat)
        case atStart => exact ⟨0, Nat.zero_le _, rfl, hr0, hB8'⟩
        case round =>
          clear hr0 hB8'
          obtain ⟨j, hj, rfl, hO, hBr⟩ := hrel
          by_cases hlt : j < q.length
          · have hlt' : (j : Int) < (q.length : Int) := by omega
            obtain ⟨x, hx⟩ : ∃ x, q[j]? = some x := ⟨_, List.getElem?_eq_getElem hlt⟩
            have hxB := hin.out j x hx
            obtain ⟨oa8, cap8, e8, _, hc8⟩ := hr7'.out
            injection e8 with e8a e8b e8c
            subst e8a
            obtain ⟨g8, o8, rfl, hc9⟩ := hc8 j (x : Int) (by simp [ints, hx])
            have cx := M.cell_over hc9 hBr.out
            obtain ⟨gu, cu8, rfl⟩ := own_some hou6.out (by omega)
            have hxB' : (x : Int) < (B : Int) := by omega
            have hx0 : ¬ (x : Int) < 0 := by omega
            have cu9 : wr.cell? ⟨gu, x, none⟩ = some (.int .i64 (pl x : Int)) := by
              have h1 := hou6.out.cellAt x (by omega)
              have h2 : (I.cellsI (M.plL pl B))[x]? = some (.int .i64 (pl x : Int)) := by simp [I.cellsI, M.plL, hxB]
              rw [h2] at h1
              exact M.cell_over h1 hBr.out
            have hjn : j < P.who.length := by rw [← hq9'.out]; exact hlt
            have hjn' : (j : Int) < (P.who.length : Int) := by omega
            have c0 : wr.cell? ⟨w6.heap.size, j, none⟩ = some (.int .i64 (plA q pl j j)) := by rw [hO.out.cellAt j (by omega)]; exact cellsZ_at _ hjn
            have fz0 := hO.out.frozenAt j
            have hS0 : Hid ((wr.setCell ⟨w6.heap.size, j, none⟩ (.int .i64 (pl x : Int))).ownsRow w6.heap.size 3 1 (.slice (some ⟨w6.heap.size, 0, none⟩) P.who.length P.who.length) P.who.length (cellsZ (plA q pl (j + 1)) P.who.length)) := by
              have h1 := (hO.out.stored j (.int .i64 (pl x : Int))).1
              rw [cellsZ_set, show (pl x : Int) = (pl (q.getD j 0) : Int) by simp [hx], plA_set] at h1
              have e9 : q.getD j 0 = x := by simp [hx]
              rw [e9] at h1
              exact h1
            have hB1 : Hid (Below w6.heap.size w6 (wr.setCell ⟨w6.heap.size, j, none⟩ (.int .i64 (pl x : Int)))) := hBr.out.setCell (p := ⟨w6.heap.size, j, none⟩) (Nat.le_refl _) _
            clear hO hBr hr7' hou6 hx hc8 hc9 e8b
            generalize plA q pl j j = z0 at *
            go_wp2
            exact ⟨⟨j + 1, by omega, by go_num, hS0, hB1⟩, by simp [intOf]; omega⟩
          · obtain rfl : j = q.length := by omega
            have hown : Hid (wr.ownsRow w.heap.size 3 1 (.slice (some ⟨w6.heap.size, 0, none⟩) P.who.length P.who.length) (planL q pl).length (cellsI (planL q pl))) := by
              have h1 := hO.out
              rw [← hq9'.out, plA_all, hq9'.out] at h1
              have e : (planL q pl).length = P.who.length := by simp [planL, hq9'.out]
              rw [e]
              exact owns_lowS h1 hf6.out.size
            go_wp2
            refine bodyPost_ret (v := .tuple #[.slice (some ⟨w6.heap.size, 0, none⟩) P.who.length P.who.length, .bool true]) (by simp [results, Tryz.results25, go_sem]) rfl ?_
            exact ⟨⟨a', b', ce, hg6.out.below hBr.out, hgb⟩, fr_then hf6.out hBr.out, .inr ⟨_, _, rfl, hls5, hown⟩⟩
      refine AllReadyH.cons (o := { dst := some 55, op := Op.call { callee := Callee.value (Operand.func 58), args := #[Operand.tmp 46, Operand.tmp 54], argTypes := #[22, 3] }, type := 55, pos := "solver.go:48", after := #[{ on := 5, ground := Ground.data }, { on := 13, ground := Ground.data }], guard := none }) rfl (fun K hK => ?_) AllReadyH.nil
      go_simp
      go_at_call 58; refine (KE.out _ (Below.refl _ w5).drew).mono ?_; rintro e w6 ⟨rfl, rfl⟩; (try dsimp only)
      refine hK.out _ _ ?_ (fun hHeld => ?_)
      · trivial
      clear hK K
      try simp only [Act.put, List.setIfInBounds_toArray, List.set_cons_zero, List.set_cons_succ]
      refine wpAnyH_ready (rs := [4]) (by kernel_rfl) (by simp) ?_
      refine AllReadyH.cons (o := { dst := some 45, op := Op.load 55 (Operand.tmp 44), type := 55, pos := "solver.go:48", after := #[{ on := 3, ground := Ground.data }], guard := none }) rfl (fun K hK => ?_) AllReadyH.nil
      go_simp
      refine hK.out _ _ ?_ (fun hHeld => ?_)
      · trivial
      clear hK K
      try simp only [Act.put, List.setIfInBounds_toArray, List.set_cons_zero, List.set_cons_succ]
      refine wpAnyH_take (i := 15) (oi := { dst := some 56, op := Op.binOp BinOp.add 55 (Operand.tmp 45) (Operand.tmp 55) 55, type := 55, pos := "solver.go:48", after := #[{ on := 4, ground := Ground.data }, { on := 14, ground := Ground.data }], guard := none }) (v := ?_) rfl (by kernel_rfl) (by kernel_rfl) (by kernel_rfl) (fun _ _ _ h => h) (Or.inl ⟨by rfl, ?_⟩) (by assumption) ?_
      rotate_left
      · intro w hSw; (try dsimp only at hSw); go_simp <;> with_reducible rfl
      simp only [Act.put, List.setIfInBounds_toArray, List.set_cons_zero, List.set_cons_succ]
      refine wpAnyH_take (i := 16) (oi := { dst := some 57, op := Op.nilCheck (Operand.tmp 41), type := 0, pos := "solver.go:48", after := #[{ on := 0, ground := Ground.data }, { on := 0, ground := Ground.phase }, { on := 1, ground := Ground.phase }, { on := 2, ground := Ground.phase }, { on := 3, ground := Ground.phase }, { on := 4, ground := Ground.phase }, { on := 5, ground := Ground.phase }, { on := 6, ground := Ground.phase }, { on := 7, ground := Ground.phase }, { on := 8, ground := Ground.phase }, { on := 9, ground := Ground.phase }, { on := 10, ground := Ground.phase }, { on := 11, ground := Ground.phase }, { on := 12, ground := Ground.phase }, { on := 13, ground := Ground.phase }, { on := 14, ground := Ground.phase }, { on := 15, ground := Ground.phase }], guard := none }) (v := ?_) rfl (by kernel_rfl) (by kernel_rfl) (by kernel_rfl) (fun _ _ _ h => h) (Or.inl ⟨by rfl, ?_⟩) (by assumption) ?_
      rotate_left
      · intro w hSw; (try dsimp only at hSw); go_simp <;> with_reducible rfl
      simp only [Act.put, List.setIfInBounds_toArray, List.set_cons_zero, List.set_cons_succ]
      refine wpAnyH_take (i := 17) (oi := { dst := some 58, op := Op.fieldAddr 65 (Operand.tmp 57) 0, type := 0, pos := "solver.go:48", after := #[{ on := 16, ground := Ground.data }, { on := 0, ground := Ground.phase }, { on := 1, ground := Ground.phase }, { on := 2, ground := Ground.phase }, { on := 3, ground := Ground.phase }, { on := 4, ground := Ground.phase }, { on := 5, ground := Ground.phase }, { on := 6, ground := Ground.phase }, { on := 7, ground := Ground.phase }, { on := 8, ground := Ground.phase }, { on := 9, ground := Ground.phase }, { on := 10, ground := Ground.phase }, { on := 11, ground := Ground.phase }, { on := 12, ground := Ground.phase }, { on := 13, ground := Ground.phase }, { on := 14, ground := Ground.phase }, { on := 15, ground := Ground.phase }], guard := none }) (v := ?_) rfl (by kernel_rfl) (by kernel_rfl) (by kernel_rfl) (fun _ _ _ h => h) (Or.inl ⟨by rfl, ?_⟩) (by assumption) ?_
      rotate_left
      · intro w hSw; (try dsimp only at hSw); go_simp <;> with_reducible rfl
      simp only [Act.put, List.setIfInBounds_toArray, List.set_cons_zero, List.set_cons_succ]
      refine wpAnyH_take (i := 18) (oi := { dst := some 59, op := Op.fieldAddr 63 (Operand.tmp 58) 2, type := 0, pos := "solver.go:48", after := #[{ on := 17, ground := Ground.data }, { on := 0, ground := Ground.phase }, { on := 1, ground := Ground.phase }, { on := 2, ground := Ground.phase }, { on := 3, ground := Ground.phase }, { on := 4, ground := Ground.phase }, { on := 5, ground := Ground.phase }, { on := 6, ground := Ground.phase }, { on := 7, ground := Ground.phase }, { on := 8, ground := Ground.phase }, { on := 9, ground := Ground.phase }, { on := 10, ground := Ground.phase }, { on := 11, ground := Ground.phase }, { on := 12, ground := Ground.phase }, { on := 13, ground := Ground.phase }, { on := 14, ground := Ground.phase }, { on := 15, ground := Ground.phase }], guard := none }) (v := ?_) rfl (by kernel_rfl) (by kernel_rfl) (by kernel_rfl) (fun _ _ _ h => h) (Or.inl ⟨by rfl, ?_⟩) (by assumption) ?_
      rotate_left
      · intro w hSw; (try dsimp only at hSw); go_simp <;> with_reducible rfl
      simp only [Act.put, List.setIfInBounds_toArray, List.set_cons_zero, List.set_cons_succ]
      refine wpAnyH_ready (rs := [19]) (by kernel_rfl) (by simp) ?_
      refine AllReadyH.cons (o := { dst := none, op := Op.store 55 (Operand.tmp 59) (Operand.tmp 56), type := 0, pos := "solver.go:48", after := #[{ on := 18, ground := Ground.data }, { on := 15, ground := Ground.data }, { on := 14, ground := Ground.chain }, { on := 0, ground := Ground.phase }, { on := 1, ground := Ground.phase }, { on := 2, ground := Ground.phase }, { on := 3, ground := Ground.phase }, { on := 4, ground := Ground.phase }, { on := 5, ground := Ground.phase }, { on := 6, ground := Ground.phase }, { on := 7, ground := Ground.phase }, { on := 8, ground := Ground.phase }, { on := 9, ground := Ground.phase }, { on := 10, ground := Ground.phase }, { on := 11, ground := Ground.phase }, { on := 12, ground := Ground.phase }, { on := 13, ground := Ground.phase }, { on := 14, ground := Ground.phase }, { on := 15, ground := Ground.phase }], guard := none }) rfl (fun K hK => ?_) AllReadyH.nil
      go_simp
      refine hK.out _ _ ?_ (fun hHeld => ?_)
      · trivial
      clear hK K
      try simp only [Act.put, List.setIfInBounds_toArray, List.set_cons_zero, List.set_cons_succ]
      refine wpAnyH_done (by kernel_rfl) ?_ _
      skip
      generalize (w5.setCell ⟨gs, 2, none⟩ (.int .u64 (ce : Int))).drew = w6 at *
      have q6 := hp6.out.c1
      obtain ⟨g7, o7, ou, cu, rfl, hq7, hr7⟩ : ∃ g o ou cu, oa = some ⟨g, o, none⟩ ∧ w6.cell? ⟨g, o, none⟩ = some (.slice ou q.length cu) ∧ RowI w6 (.slice ou q.length cu) (ints q) := by
        obtain ⟨oa', cap', e, hc⟩ := hR6.out
        cases e
        exact hc 0 q rfl
      have hr7' := hide' hr7
      have hq9' := hide' hq9
      have hql : q.length ≤ 12 := by omega
      clear hr7 hq9 hR6 hp6 hwc hgc hgf hwm hwa KE
      go_wp2_with (at_make; refine wpList_make_full _ rfl _ _ 23 rfl w6.heap.size 3 i0 (.int .i64 0) 1 Tryz.underlying23 hi hz0 hz1 .i64 .i64 _ _ P.who.length rfl rfl rfl rfl (by rw [hz2]; omega) (by unfold maxLen; omega) (by simp) ?_; intro w8 hrow hgrow; have hB8 : Below w6.heap.size w6 w8 := (Below.refl _ w6).grown hgrow (Nat.le_refl _) (fun j ej => by cases ej); have hq8 := M.cell_over hq7 hB8)
      have hr0 : Hid (w8.ownsRow w6.heap.size 3 1 (.slice (some ⟨w6.heap.size, 0, none⟩) P.who.length P.who.length) P.who.length (cellsZ (plA q pl 0) P.who.length)) := by
        have h := hrow
        rw [show (Value.int .i64 0).cells = #[.int .i64 0] from rfl, toList_madeCells_one, Nat.mul_one, cellsZ_zero] at h
        have e : plA q pl 0 = fun _ => 0 := by funext a; simp [plA]
        rw [e]
        exact h
      have hB8' := hide' hB8
      clear hrow hgrow hq7 hq8 hB8 q6
      go_loopw [12, 13, 68] (fun _ _ p wr => ∃ (j : Nat), j ≤ q.length ∧ p = .int .i64 (j : Int) ∧ Hid (wr.ownsRow w6.heap.size 3 1 (.slice (some ⟨w6.heap.size, 0, none⟩) P.who.length P.who.length) P.who.length (cellsZ (plA q pl j) P.who.length)) ∧ Hid (Below w6.heap.size w6 wr)) (fun _ _ p _ => ((q.length : Int) - intOf p).toNat)
      case atStart => exact ⟨0, Nat.zero_le _, rfl, hr0, hB8'⟩
      case round =>
        clear hr0 hB8'
        obtain ⟨j, hj, rfl, hO, hBr⟩ := hrel
        by_cases hlt : j < q.length
        · have hlt' : (j : Int) < (q.length : Int) := by omega
          obtain ⟨x, hx⟩ : ∃ x, q[j]? = some x := ⟨_, List.getElem?_eq_getElem hlt⟩
          have hxB := hin.out j x hx
          obtain ⟨oa8, cap8, e8, _, hc8⟩ := hr7'.out
          injection e8 with e8a e8b e8c
          subst e8a
          obtain ⟨g8, o8, rfl, hc9⟩ := hc8 j (x : Int) (by simp [ints, hx])
          have cx := M.cell_over hc9 hBr.out
          obtain ⟨gu, cu8, rfl⟩ := own_some hou6.out (by omega)
          have hxB' : (x : Int) < (B : Int) := by omega
          have hx0 : ¬ (x : Int) < 0 := by omega
          have cu9 : wr.cell? ⟨gu, x, none⟩ = some (.int .i64 (pl x : Int)) := by
            have h1 := hou6.out.cellAt x (by omega)
            have h2 : (I.cellsI (M.plL pl B))[x]? = some (.int .i64 (pl x : Int)) := by simp [I.cellsI, M.plL, hxB]
            rw [h2] at h1
            exact M.cell_over h1 hBr.out
          have hjn : j < P.who.length := by rw [← hq9'.out]; exact hlt
          have hjn' : (j : Int) < (P.who.length : Int) := by omega
          have c0 : wr.cell? ⟨w6.heap.size, j, none⟩ = some (.int .i64 (plA q pl j j)) := by rw [hO.out.cellAt j (by omega)]; exact cellsZ_at _ hjn
          have fz0 := hO.out.frozenAt j
          have hS0 : Hid ((wr.setCell ⟨w6.heap.size, j, none⟩ (.int .i64 (pl x : Int))).ownsRow w6.heap.size 3 1 (.slice (some ⟨w6.heap.size, 0, none⟩) P.who.length P.who.length) P.who.length (cellsZ (plA q pl (j + 1)) P.who.length)) := by
            have h1 := (hO.out.stored j (.int .i64 (pl x : Int))).1
            rw [cellsZ_set, show (pl x : Int) = (pl (q.getD j 0) : Int) by simp [hx], plA_set] at h1
            have e9 : q.getD j 0 = x := by simp [hx]
            rw [e9] at h1
            exact h1
          have hB1 : Hid (Below w6.heap.size w6 (wr.setCell ⟨w6.heap.size, j, none⟩ (.int .i64 (pl x : Int)))) := hBr.out.setCell (p := ⟨w6.heap.size, j, none⟩) (Nat.le_refl _) _
          clear hO hBr hr7' hou6 hx hc8 hc9 e8b
          generalize plA q pl j j = z0 at *
          go_wp2
          exact ⟨⟨j + 1, by omega, by go_num, hS0, hB1⟩, by simp [intOf]; omega⟩
        · obtain rfl : j = q.length := by omega
          have hown : Hid (wr.ownsRow w.heap.size 3 1 (.slice (some ⟨w6.heap.size, 0, none⟩) P.who.length P.who.length) (planL q pl).length (cellsI (planL q pl))) := by
            have h1 := hO.out
            rw [← hq9'.out, plA_all, hq9'.out] at h1
            have e : (planL q pl).length = P.who.length := by simp [planL, hq9'.out]
            rw [e]
            exact owns_lowS h1 hf6.out.size
          go_wp2
          refine bodyPost_ret (v := .tuple #[.slice (some ⟨w6.heap.size, 0, none⟩) P.who.length P.who.length, .bool true]) (by simp [results, Tryz.results25, go_sem]) rfl ?_
          exact ⟨⟨a', b', ce, hg6.out.below hBr.out, hgb⟩, fr_then hf6.out hBr.out, .inr ⟨_, _, rfl, hls5, hown⟩⟩
    · exact absurd hI.out (hno.out hbk)
end Go.Proofs.YtlijlelejobchaaGreatDoor.S
namespace Go.Proofs.YtlijlelejobchaaGreatDoor.S
theorem perm_nodup {l m : List Nat} (hl : l.Nodup) (hm : m.Nodup) (h : ∀ x, x ∈ l ↔ x ∈ m) : l.Perm m := by
  rw [List.perm_iff_count]
  intro a
  have h1 := List.nodup_iff_count.1 hl a
  have h2 := List.nodup_iff_count.1 hm a
  have h3 : 0 < l.count a ↔ 0 < m.count a := by rw [List.count_pos_iff, List.count_pos_iff]; exact h a
  omega
theorem unl_cons (x : Int) (P : List Int) : unl (x :: P) = unl P + if x ∈ P then 0 else 1 := by
  induction P using snoc_ind with
  | h0 => rfl
  | h1 l y ih =>
    rw [show x :: (l ++ [y]) = (x :: l) ++ [y] from rfl, unl_snoc, unl_snoc, ih]
    by_cases e : y = x
    · subst e
      by_cases h : y ∈ l <;> simp [h]
    · have e' : ¬ x = y := fun q => e q.symm
      by_cases h : x ∈ l <;> by_cases h2 : y ∈ l <;> simp [h, h2, e, e']
theorem unl_perm {P Q : List Int} (h : P.Perm Q) : unl P = unl Q := by
  induction h with
  | nil => rfl
  | cons x h ih => rw [unl_cons, unl_cons, ih]; simp only [h.mem_iff]
  | swap x y l =>
    rw [unl_cons, unl_cons, unl_cons, unl_cons]
    by_cases e : x = y
    · subst e; rfl
    · have e' : ¬ y = x := fun q => e q.symm
      by_cases h : x ∈ l <;> by_cases h2 : y ∈ l <;> simp [h, h2, e, e']
  | trans _ _ i1 i2 => exact i1.trans i2
theorem mst_perm {P Q : List Int} (h : P.Perm Q) : mst P = mst Q := by
  refine Nat.le_antisymm ?_ ?_
  · rw [mst_le]; intro x; rw [h.count_eq]; exact (mst_le Q _).1 (Nat.le_refl _) x
  · rw [mst_le]; intro x; rw [← h.count_eq]; exact (mst_le P _).1 (Nat.le_refl _) x
theorem means_perm {kind k : Int} {P Q : List Int} (h : P.Perm Q) (left : Nat) : means kind k P left = means kind k Q left := by
  unfold means
  rw [unl_perm h, mst_perm h]
def reP (P : Pb) (O : List Nat) : Pb := ⟨P.users, reW P O, reF P O, P.rules.map (reR O)⟩
/-- Steps in another order, as plain places. -/
theorem mov_eq (S : List Int) (O : List Nat) : movN S (ints O) = ints ((List.range O.length).filter fun i => decide (((O.getD i 0 : Nat) : Int) ∈ S)) := by
  unfold movN movJ ints
  rw [List.length_map]
  congr 1
  refine List.filter_congr fun i hi => ?_
  have hlt := List.mem_range.1 hi
  rw [List.getD_eq_getElem?_getD, List.getD_eq_getElem?_getD, List.getElem?_map, List.getElem?_eq_getElem hlt]
  rfl
theorem range_map {α : Type} (O : List Nat) (f : Nat → α) : (List.range O.length).map (fun i => f (O.getD i 0)) = O.map f := by
  refine List.ext_getElem? fun i => ?_
  rw [List.getElem?_map, List.getElem?_map]
  rcases Nat.lt_or_ge i O.length with h | h
  · rw [List.getElem?_range h, List.getElem?_eq_getElem h]
    simp [h]
  · rw [List.getElem?_eq_none (by simpa using h), List.getElem?_eq_none h]; rfl
theorem filt_map (O : List Nat) (p : Nat → Bool) : ∀ k, k ≤ O.length → (((List.range k).filter fun i => p (O.getD i 0)).map fun i => O.getD i 0) = (O.take k).filter p := by
  intro k
  induction k with
  | zero => intro _; simp
  | succ k ih =>
    intro hk
    rw [List.range_succ, List.filter_append, List.map_append, ih (by omega), take_step (by omega), List.filter_append]
    congr 1
    have e : O.getD k 0 = O[k] := by rw [List.getD_eq_getElem?_getD, List.getElem?_eq_getElem (by omega)]; rfl
    simp only [List.filter_cons, List.filter_nil, e]
    cases p O[k]
    · rfl
    · show [O.getD k 0] = [O[k]]
      rw [e]
/-- The steps of a rule, as they stand in the order. -/
theorem steps_perm {S : List Int} {O : List Nat} {n : Nat} (hS : ris (n : Int) 0 S = true) (hO : O.Perm (List.range n)) : (O.filter fun t : Nat => decide ((t : Int) ∈ S)).Perm (S.map Int.toNat) := by
  have h1 : (O.filter fun t : Nat => decide ((t : Int) ∈ S)).Perm ((List.range n).filter fun t : Nat => decide ((t : Int) ∈ S)) := hO.filter _
  refine h1.trans (perm_nodup (List.Pairwise.filter _ List.nodup_range) ?_ fun x => ?_)
  · have hp := ris_pw hS
    unfold List.Nodup
    rw [List.pairwise_map]
    refine hp.imp_of_mem fun ha hb hab e => ?_
    have h1 := ris_mem hS _ ha
    have h2 := ris_mem hS _ hb
    omega
  · rw [List.mem_filter, List.mem_range, decide_eq_true_eq, List.mem_map]
    constructor
    · rintro ⟨_, h⟩; exact ⟨_, h, by simp⟩
    · rintro ⟨s, hs, rfl⟩
      have h1 := ris_mem hS s hs
      rw [Int.toNat_of_nonneg h1.1]
      exact ⟨by omega, hs⟩
theorem mov_len {S : List Int} {O : List Nat} {n : Nat} (hS : ris (n : Int) 0 S = true) (hO : O.Perm (List.range n)) : (movN S (ints O)).length = S.length := by
  have h1 := (steps_perm hS hO).length_eq
  rw [List.length_map] at h1
  rw [mov_eq, ints_len, ← h1]
  have h2 := congrArg List.length (filt_map O (fun t : Nat => decide ((t : Int) ∈ S)) O.length (Nat.le_refl _))
  rw [List.length_map, List.take_length] at h2
  exact h2
theorem mov_ris {S : List Int} {O : List Nat} {n : Nat} (hn : O.length = n) : ris (n : Int) 0 (movN S (ints O)) = true := by
  rw [mov_eq, hn]
  have : ∀ (l : List Nat) (lo : Nat), l.Pairwise (· < ·) → (∀ x ∈ l, lo ≤ x ∧ x < n) → ris (n : Int) (lo : Int) (ints l) = true := by
    intro l
    induction l with
    | nil => intro lo _ _; rfl
    | cons a l ih =>
      intro lo hp hx
      obtain ⟨h1, h2⟩ := List.pairwise_cons.1 hp
      have ha := hx a List.mem_cons_self
      show (decide ((lo : Int) ≤ (a : Int)) && decide ((a : Int) < (n : Int)) && ris (n : Int) ((a : Int) + 1) (ints l)) = true
      rw [decide_eq_true (by omega), decide_eq_true (by omega), Bool.true_and, Bool.true_and]
      exact ih (a + 1) h2 fun x hxl => ⟨h1 x hxl, (hx x (List.mem_cons_of_mem _ hxl)).2⟩
  exact this _ 0 (List.Pairwise.filter _ List.pairwise_lt_range) fun x hx => ⟨Nat.zero_le _, List.mem_range.1 (List.mem_filter.1 hx).1⟩
theorem chk_re {r : Rl} {O : List Nat} {n : Nat} (hc : chk (n : Int) r = true) (hO : O.Perm (List.range n)) : chk (n : Int) (reR O r) = true := by
  have hn : O.length = n := by have := hO.length_eq; simpa using this
  have h1 := mov_ris (S := r.steps) hn
  have h2 := mov_len (chk_ris hc) hO
  unfold chk at hc ⊢
  simp only [Bool.and_eq_true] at hc ⊢
  refine ⟨⟨hc.1.1, h1⟩, ?_⟩
  show numF r.kind r.k (movN r.steps (ints O)).length = true
  rw [h2]; exact hc.2
theorem labs_all {L S : List Int} (h : ∀ s ∈ S, 0 ≤ s ∧ s.toNat < L.length) : labs L S = S.map fun s => L.getD s.toNat 0 := by
  unfold labs
  induction S with
  | nil => rfl
  | cons s S ih =>
    have h1 := h s List.mem_cons_self
    rw [List.filterMap_cons, List.getElem?_eq_getElem h1.2, List.map_cons, ih fun x hx => h x (List.mem_cons_of_mem _ hx)]
    simp [h1.2]
theorem labs_re {L S : List Int} {O : List Nat} {n : Nat} (hS : ris (n : Int) 0 S = true) (hO : O.Perm (List.range n)) (hL : L.length = n) : (labs (O.map fun t => L.getD t 0) (movN S (ints O))).Perm (labs L S) := by
  have hn : O.length = n := by have := hO.length_eq; simpa using this
  have h1 : labs L S = (S.map Int.toNat).map fun t => L.getD t 0 := by
    rw [labs_all fun s hs => by have := ris_mem hS s hs; omega, List.map_map]; rfl
  have h2 : labs (O.map fun t => L.getD t 0) (movN S (ints O)) = (O.filter fun t : Nat => decide ((t : Int) ∈ S)).map fun t => L.getD t 0 := by
    have h3 := filt_map O (fun t : Nat => decide ((t : Int) ∈ S)) O.length (Nat.le_refl _)
    rw [List.take_length] at h3
    rw [labs_all, mov_eq, ← h3]
    · unfold ints
      rw [List.map_map, List.map_map]
      refine List.map_congr_left fun i hi => ?_
      have hlt := List.mem_range.1 (List.mem_filter.1 hi).1
      simp [hlt]
    · intro s hs
      have := ris_mem (mov_ris (S := S) hn) s hs
      rw [List.length_map]
      omega
  rw [h1, h2]
  exact (steps_perm hS hO).map _
theorem holds_re {r : Rl} {L : List Int} {O : List Nat} {n : Nat} (hc : chk (n : Int) r = true) (hO : O.Perm (List.range n)) (hL : L.length = n) : holds (reR O r) (O.map fun t => L.getD t 0) = holds r L := by
  have hn : O.length = n := by have := hO.length_eq; simpa using this
  have hp := labs_re (L := L) (chk_ris hc) hO hL
  have hl : (O.map fun t => L.getD t 0).length = n := by rw [List.length_map]; exact hn
  unfold holds early
  rw [hl, hL, hc, chk_re hc hO]
  congr 1
  show means r.kind r.k (labs (O.map fun t => L.getD t 0) (movN r.steps (ints O))) ((movN r.steps (ints O)).length - (labs (O.map fun t => L.getD t 0) (movN r.steps (ints O))).length) = _
  rw [mov_len (chk_ris hc) hO, hp.length_eq]
  exact means_perm hp _
section
variable {P : Pb} {O : List Nat}
theorem re_len (hO : O.Perm (List.range P.who.length)) : O.length = P.who.length := by have := hO.length_eq; simpa using this
theorem re_mem (hO : O.Perm (List.range P.who.length)) {t : Nat} : t ∈ O ↔ t < P.who.length := by rw [hO.mem_iff, List.mem_range]
theorem chk_reP (hP : chkN P = 0) (hO : O.Perm (List.range P.who.length)) : chkN (reP P O) = 0 := by
  obtain ⟨h12, hU0, hU, hR, hfx, hwo, hru⟩ := chkN_zero hP
  have hfl := (fixB_of hfx hU).1
  have hlw : (reP P O).who.length = P.who.length := by show (reW P O).length = _; unfold reW; rw [List.length_map]; exact re_len hO
  have hlf : (reP P O).fixed.length = P.who.length := by show (reF P O).length = _; unfold reF; rw [List.length_map]; exact re_len hO
  refine chkN_ok ?_ ?_
  · rw [hlw]
    show ¬ (_ ∨ 64 < P.users ∨ 32 < (P.rules.map (reR O)).length)
    rw [List.length_map]
    omega
  · rintro (h | h | h | h)
    · have : P.users < 0 := h
      omega
    · refine absurd h ?_
      rw [Bool.not_eq_false]
      unfold fixB
      rw [hlw, hlf, decide_eq_true rfl, Bool.and_true, List.all_eq_true]
      intro x hx
      obtain ⟨t, ht, rfl⟩ := List.mem_map.1 (show x ∈ O.map _ from hx)
      have hlt : t < P.fixed.length := by rw [hfl]; exact (re_mem hO).1 ht
      unfold fixB at hfx
      rw [Bool.and_eq_true, List.all_eq_true] at hfx
      have := hfx.1 (P.fixed.getD t 0) (by rw [List.getD_eq_getElem?_getD, List.getElem?_eq_getElem hlt]; exact List.getElem_mem hlt)
      exact this
    · refine absurd h ?_
      rw [Bool.not_eq_false]
      unfold whoB
      rw [List.all_eq_true]
      intro x hx
      obtain ⟨t, ht, rfl⟩ := List.mem_map.1 (show x ∈ O.map _ from hx)
      have hlt := (re_mem hO).1 ht
      unfold whoB at hwo
      rw [List.all_eq_true] at hwo
      exact hwo (P.who.getD t 0) (by rw [List.getD_eq_getElem?_getD, List.getElem?_eq_getElem hlt]; exact List.getElem_mem hlt)
    · refine absurd h ?_
      rw [Bool.not_eq_false]
      unfold rulB
      rw [List.all_eq_true, hlw]
      intro r hr
      obtain ⟨r', hr', rfl⟩ := List.mem_map.1 (show r ∈ P.rules.map _ from hr)
      unfold rulB at hru
      rw [List.all_eq_true] at hru
      exact chk_re (hru r' hr') hO
theorem may_re (hP : chkN P = 0) (hO : O.Perm (List.range P.who.length)) {i t : Nat} (ht : O[i]? = some t) : mayP (reP P O) i = mayP P t := by
  obtain ⟨h12, hU0, hU, hR, hfx, hwo, hru⟩ := chkN_zero hP
  have hfl := (fixB_of hfx hU).1
  have hlt := (re_mem hO).1 (List.mem_of_getElem? ht)
  obtain ⟨x, hx⟩ : ∃ x, P.fixed[t]? = some x := ⟨_, List.getElem?_eq_getElem (by omega)⟩
  have e1 : (reP P O).fixed[i]? = some x := by
    show (O.map fun t => P.fixed.getD t 0)[i]? = some x
    rw [List.getElem?_map, ht]
    simp [hx]
  have e2 : (reP P O).who[i]? = some (P.who.getD t 0) := by
    show (O.map fun t => P.who.getD t 0)[i]? = _
    rw [List.getElem?_map, ht]; rfl
  unfold mayP
  simp only [List.getD_eq_getElem?_getD, e1, e2, hx, Option.getD_some]
theorem okU_re (hP : chkN P = 0) (hO : O.Perm (List.range P.who.length)) {i t : Nat} (ht : O[i]? = some t) (x : Int) : okU (reP P O) i x = okU P t x := by
  unfold okU
  rw [may_re hP hO ht]; rfl
theorem hol_re (hP : chkN P = 0) (hO : O.Perm (List.range P.who.length)) {L : List Int} (hL : L.length = P.who.length) : holP (reP P O) (O.map fun t => L.getD t 0) = true ↔ holP P L = true := by
  have hru := (chkN_zero hP).2.2.2.2.2.2
  unfold rulB at hru
  rw [List.all_eq_true] at hru
  have hlw : (reP P O).who.length = P.who.length := by show (reW P O).length = _; unfold reW; rw [List.length_map]; exact re_len hO
  constructor
  · intro h
    obtain ⟨_, h2, h3, h4⟩ := holP_of h
    refine holP_mk hP hL (fun t x hx => ?_) fun r hr => ?_
    · have hlt := (List.getElem?_eq_some_iff.1 hx).1
      obtain ⟨i, hi⟩ := List.getElem?_of_mem ((re_mem hO).2 (by omega : t < P.who.length))
      rw [← okU_re hP hO hi]
      exact h3 i x (by rw [List.getElem?_map, hi]; simp [hx])
    · rw [← holds_re (hru r hr) hO hL]
      exact h4 _ (List.mem_map.2 ⟨r, hr, rfl⟩)
  · intro h
    obtain ⟨_, h2, h3, h4⟩ := holP_of h
    refine holP_mk (chk_reP hP hO) (by rw [List.length_map, hlw]; exact re_len hO) (fun i x hx => ?_) fun r hr => ?_
    · rw [List.getElem?_map] at hx
      cases ht : O[i]? with
      | none => rw [ht] at hx; cases hx
      | some t =>
        rw [ht] at hx
        cases hx
        rw [okU_re hP hO ht]
        have hlt := (re_mem hO).1 (List.mem_of_getElem? ht)
        refine h3 t _ ?_
        show L[t]? = some (L.getD t 0)
        rw [List.getD_eq_getElem?_getD, List.getElem?_eq_getElem (by omega)]; rfl
    · obtain ⟨r', hr', rfl⟩ := List.mem_map.1 (show r ∈ P.rules.map _ from hr)
      rw [holds_re (hru r' hr') hO hL]
      exact h4 r' hr'
/-- Another order of the steps: there is a plan just if there was. -/
theorem can_re (hP : chkN P = 0) (hO : O.Perm (List.range P.who.length)) : (∃ L, holP (reP P O) L = true) ↔ ∃ L, holP P L = true := by
  have hlw : (reP P O).who.length = P.who.length := by show (reW P O).length = _; unfold reW; rw [List.length_map]; exact re_len hO
  constructor
  · rintro ⟨L', h⟩
    have hl := (holP_of h).2.1
    rw [hlw] at hl
    refine ⟨(List.range P.who.length).map fun t => L'.getD (O.idxOf t) 0, (hol_re hP hO (by simp)).1 ?_⟩
    have e : (O.map fun t => ((List.range P.who.length).map fun t => L'.getD (O.idxOf t) 0).getD t 0) = L' := by
      refine List.ext_getElem? fun i => ?_
      rw [List.getElem?_map]
      rcases Nat.lt_or_ge i O.length with h | h
      · have hn : O.Nodup := hO.nodup_iff.2 List.nodup_range
        have hlt := (re_mem hO).1 (List.getElem_mem h)
        have hi : O.idxOf O[i] = i := by
          have h1 := idx_at (List.getElem_mem h)
          have h2 := idx_first O O[i] i
          rcases Nat.lt_trichotomy (O.idxOf O[i]) i with q | q | q
          · have hp := List.pairwise_iff_getElem.1 hn
            obtain ⟨a, b⟩ := List.getElem?_eq_some_iff.1 h1
            exact absurd b (hp _ _ a h q)
          · exact q
          · exact absurd (List.getElem?_eq_getElem h) (h2 q)
        rw [List.getElem?_eq_getElem h]
        have h4 : i < L'.length := by rw [hl, ← re_len hO]; exact h
        simp [hlt, hi, h4]
      · rw [List.getElem?_eq_none h, List.getElem?_eq_none (by rw [hl, ← re_len hO]; exact h)]; rfl
    rw [e]; exact h
  · rintro ⟨L, h⟩
    exact ⟨_, (hol_re hP hO (holP_of h).2.1).2 h⟩
end
end Go.Proofs.YtlijlelejobchaaGreatDoor.S
namespace Go.Proofs.YtlijlelejobchaaGreatDoor.S
open Go.RowKit Go.Shelf
theorem owns_zeroW (w : World) (cs : List Value) (h : cs = []) : (w.alloc (.cells #[] 55)).ownsRow w.heap.size 55 1 (.slice (some ⟨w.heap.size, 0, none⟩) 0 0) 0 cs := by
  subst h
  exact ⟨rfl, .inr ⟨_, 0, #[], rfl, Nat.le_refl _, heap_new w _, Nat.le_refl _, by unfold maxLen; omega, rfl, rfl⟩⟩
theorem one_cellsW (l : List Nat) : ∀ u ∈ cellsW l, u.oneCell' = true := fun u hu => by
  unfold cellsW at hu
  obtain ⟨z, _, rfl⟩ := List.mem_map.1 hu
  rfl
theorem cellsW_atC {l : List Nat} {j : Nat} {u : Value} (h : (cellsW l)[j]? = some u) : ∃ z, l[j]? = some z ∧ u = .int .u64 (z : Int) := by
  unfold cellsW at h
  rw [List.getElem?_map] at h
  cases hq : l[j]? with
  | none => rw [hq] at h; cases h
  | some z => rw [hq] at h; cases h; exact ⟨z, rfl, rfl⟩
theorem eq_nilW (w : World) : (binOp .eql 22 (.slice none 0 0) (.slice none 0 0)).run Tryz.prog w = .ok (.bool true) w := by kernel_rfl
theorem ne_nilW (ad : Addr) (n cap : Nat) (w : World) : (binOp .eql 22 (.slice (some ad) n cap) (.slice none 0 0)).run Tryz.prog w = .ok (.bool false) w := by kernel_rfl
set_option maxRecDepth 100000 in
set_option maxHeartbeats 1000000 in
theorem cloneW (l : List Nat) (v : Value) (w : World) (hr : RowW w v l) (hn : l.length ≤ 1000) :
    Calls Tryz.prog 37 #[v] w fun e w' => ∃ v', e = .returned v' ∧ w'.ownsRow w.heap.size 55 1 v' l.length (cellsW l) ∧ Below w.heap.size w w' := by
  obtain ⟨oa, cap, rfl, hcap, hc⟩ := hr
  obtain ⟨i0, hi, hz0, hz1, hz2⟩ := info_parts infoW
  have hc' := hide' hc
  clear hc
  go_enter Tryz.func37, Tryz.ntmps37
  cases oa with
  | none =>
    obtain ⟨h1, h2⟩ := hcap
    have := h2 rfl
    subst this
    have : l = [] := List.eq_nil_of_length_eq_zero (by omega)
    subst this
    have hq := eq_nilW w
    go_wp2
    go_ret
    exact ⟨_, rfl, World.ownsRow_nil w _ _ _, Below.refl _ _⟩
  | some ad =>
    have hq := ne_nilW ad l.length cap w
    have hnews : ∀ j u, (cellsW l)[j]? = some u → w.cell? (ad.add j) = some u := fun j u hu => by
      obtain ⟨z, hz, rfl⟩ := cellsW_atC hu
      obtain ⟨g, o, e, hcell⟩ := hc'.out j z hz
      cases e
      rw [Addr.add_lit]; exact hcell
    go_wp2_with (at_builtin; refine wpList_append_own _ rfl _ _ 22 rfl w.heap.size 55 i0 (.int .u64 0) 1 8 Tryz.underlying22 hi hz0 hz1 hz2 rfl (by decide) _ 0 (cellsW []) rfl (owns_zeroW w _ rfl) ad l.length cap (cellsW l) rfl (by simp [cellsW]) (fun j u hu => cell_new (hnews j u hu)) (one_cellsW _) (by unfold maxLen; omega) (by omega) (by simp) ?_; intro v1 w1 hown1 hgrow1 hnil)
    go_ret
    rw [Nat.zero_add] at hown1
    have hown : w1.ownsRow w.heap.size 55 1 v1 l.length (cellsW l) := hown1
    exact ⟨_, rfl, hown, ((Below.refl _ w).alloc (Nat.le_refl _) _).grown hgrow1 (by simp) (fun j ej => by cases ej; exact Nat.le_refl _)⟩
end Go.Proofs.YtlijlelejobchaaGreatDoor.S
namespace Go.Proofs.YtlijlelejobchaaGreatDoor.S
open Go.RowKit Go.Shelf
structure Fq (w : World) (P : Pb) (wv fv rv : Value) (gq : Nat) (W : World) (u : Int) (a b c va vb vc : Value) (L1 : List Nat) (L2 : List Int) (E : List (Rl × Value)) : Prop where
  pb : PbB W w.heap.size P wv fv rv
  z : QAt W (w.heap.size + 1) 0 (.slice none 0 0) (.slice none 0 0) (.slice none 0 0)
  qb : QAt W gq u a b c
  r1 : W.ownsRow (w.heap.size + 2) 55 1 va L1.length (cellsW L1)
  r2 : W.ownsRow (w.heap.size + 2) 3 1 vb L2.length (cellsI L2)
  r3 : TwS (w.heap.size + 2) W vc E
  dj : ∀ p ∈ E, ∀ g, vb.ownBlock = some g → p.2.ownBlock ≠ some g
  ge : w.heap.size + 2 ≤ gq
  be : Below w.heap.size w W
theorem own_ne_q {W : World} {B e sz : Nat} {v : Value} {n : Nat} {xs : List Value} {gq : Nat} {u : Int} {a b c : Value} (h : W.ownsRow B e sz v n xs) (hq : QAt W gq u a b c) (he : e ≠ 26) {g : Nat} (hg : v.ownBlock = some g) : g ≠ gq := fun q => by
  subst q
  obtain ⟨c1, f1, h1⟩ := Go.Lib.ownsRow_kind h g hg
  obtain ⟨c2, h2, _⟩ := hq
  rw [h1] at h2
  injection h2 with h2
  injection h2 with _ h2
  exact he h2
section
variable {w : World} {P : Pb} {wv fv rv : Value} {gq : Nat} {W W' : World} {u : Int} {a b c a' b' c' va vb vc : Value} {L1 : List Nat} {L2 : List Int} {E : List (Rl × Value)}
theorem Fq.sz (h : Fq w P wv fv rv gq W u a b c va vb vc L1 L2 E) : w.heap.size + 2 ≤ W.heap.size := by have := h.qb.lt; have := h.ge; omega
theorem Fq.over (h : Fq w P wv fv rv gq W u a b c va vb vc L1 L2 E) (hb : Below W.heap.size W W') : Fq w P wv fv rv gq W' u a b c va vb vc L1 L2 E :=
  ⟨h.pb.below hb, h.z.of (hb.block _ h.z.lt), h.qb.of (hb.block _ h.qb.lt), own_below h.r1 hb (Nat.le_refl _), own_below h.r2 hb (Nat.le_refl _), h.r3.below hb (Nat.le_refl _), h.dj, h.ge, h.be.trans (hb.mono h.be.size)⟩
theorem Fq.cells (h : Fq w P wv fv rv gq W u a b c va vb vc L1 L2 E) : W.cell? ⟨w.heap.size, 0, none⟩ = some (.int .i64 P.users) ∧ W.cell? ⟨w.heap.size, 1, none⟩ = some wv ∧ W.cell? ⟨w.heap.size, 2, none⟩ = some fv := ⟨h.pb.c0, h.pb.c1, h.pb.c2⟩
/-- The box written. -/
theorem Fq.put (h : Fq w P wv fv rv gq W u a b c va vb vc L1 L2 E) {o : Nat} {x : Value} (hq : QAt (W.setCell ⟨gq, o, none⟩ x) gq u a' b' c') : Fq w P wv fv rv gq (W.setCell ⟨gq, o, none⟩ x) u a' b' c' va vb vc L1 L2 E := by
  have hge := h.ge
  have hb : Below gq W (W.setCell ⟨gq, o, none⟩ x) := (Below.refl _ W).setCell (p := ⟨gq, o, none⟩) (Nat.le_refl _) _
  have hs : ∀ {B e sz : Nat} {v : Value} {n : Nat} {xs : List Value}, W.ownsRow B e sz v n xs → e ≠ 26 → (W.setCell ⟨gq, o, none⟩ x).ownsRow B e sz v n xs := fun ho he => own_same ho fun g _ e => Below.heap_setCell _ _ _ _ (own_ne_q ho h.qb he e)
  exact ⟨(hb.block _ (by omega)).trans h.pb, h.z.of (hb.block _ (by omega)), hq, hs h.r1 (by decide), hs h.r2 (by decide), ⟨hs h.r3.row (by decide), fun p hp => hs (h.r3.inner p hp) (by decide)⟩, h.dj, h.ge, h.be.trans (hb.mono (by omega))⟩
/-- A rule more. -/
theorem Fq.wapp3 {o : Oper} {ac : Act} {Q : Exit → Act → World → Prop} {K : Act → World → Prop} (s x : Operand) (h : Fq w P wv fv rv gq W u a b c va vb vc L1 L2 E) (p : Rl × Value) (hp : W.ownsRow (w.heap.size + 2) 3 1 p.2 p.1.steps.length (cellsI p.1.steps)) (hn2 : ∀ g, vb.ownBlock = some g → p.2.ownBlock ≠ some g) (ho : o.op = .call { callee := .builtin .append, args := #[s, x], argTypes := #[24, 24] })
    (es : ac.eval s = vc) (ex : ac.eval x = .slice (some ⟨W.heap.size, 0, none⟩) 1 1) (hn : E.length ≤ 1000000)
    (hK : ∀ o5 n5 c5 w2, Fq w P wv fv rv gq w2 u a b c va vb (.slice o5 n5 c5) L1 L2 (E ++ [p]) → K (ac.put o.dst (.slice o5 n5 c5)) w2) : o.wp Tryz.prog ac (W.alloc (.cells #[.int .i64 p.1.kind, .int .i64 p.1.k, p.2] 44)) K Q := by
  obtain ⟨i0, hi, hz0, hz1, hz2⟩ := info_parts infoR
  have hs := h.sz
  have hT1 : TwS (w.heap.size + 2) (W.alloc (.cells #[.int .i64 p.1.kind, .int .i64 p.1.k, p.2] 44)) vc E := ⟨h.r3.row.alloc _, fun q hq => (h.r3.inner q hq).alloc _⟩
  have hne : ∀ g, vc.ownBlock = some g → p.2.ownBlock ≠ some g := fun g e1 e2 => by
    obtain ⟨c1, f1, h1⟩ := Go.Lib.ownsRow_kind h.r3.row g e1
    obtain ⟨c2, f2, h2⟩ := Go.Lib.ownsRow_kind hp g e2
    rw [h1] at h2
    simp at h2
  refine wp_append_own _ s x 24 ho (w.heap.size + 2) 44 i0 (.agg #[.int .i64 0, .int .i64 0, .slice none 0 0]) 3 40 Tryz.underlying24 hi hz0 hz1 hz2 rfl (by decide) vc E.length (cellsR E) es hT1.row ⟨W.heap.size, 0, none⟩ 1 1 (rcells p) ex rfl (World.news_of_block (cs := #[.int .i64 p.1.kind, .int .i64 p.1.k, p.2]) (heap_new _ _)) (rcells_one p (own_one hp)) (by unfold maxLen; omega) (by omega) (by simp; omega) ?_
  intro v2 w2 hown hgrow _
  have hb : Below (w.heap.size + 2) W w2 := ((Below.refl _ W).alloc hs _).grown hgrow (by simp; omega) (fun j ej => own_ge' h.r3.row ej)
  have hTw := hT1.push p (hp.alloc _) hne hown hgrow
  obtain ⟨o5, c5, rfl⟩ := own_shp hown
  have hqb : QAt w2 gq u a b c := by
    have h1 : QAt (W.alloc (.cells #[.int .i64 p.1.kind, .int .i64 p.1.k, p.2] 44)) gq u a b c := h.qb.of (((Below.refl W.heap.size W).alloc (Nat.le_refl _) _).block _ h.qb.lt)
    exact h1.of (hgrow.block gq h1.lt fun e => own_ne_q hT1.row h1 (by decide) e.symm rfl)
  refine hK _ _ _ _ ⟨(hb.block _ (by omega)).trans h.pb, h.z.of (hb.block _ (by omega)), hqb, kept_kind (h.r1.alloc _) hT1.row (by decide) hgrow, kept_kind (h.r2.alloc _) hT1.row (by decide) hgrow, hTw, fun q hq => ?_, h.ge, h.be.trans (hb.mono (by omega))⟩
  rcases List.mem_append.1 hq with e | e
  · exact h.dj q e
  · rw [List.mem_singleton] at e
    subst e
    exact hn2
theorem cellsW_setQ (L : List Nat) (k z : Nat) : (cellsW L).set k (.int .u64 (z : Int)) = cellsW (L.set k z) := by unfold cellsW; rw [List.map_set]
/-- One of Who written over. -/
theorem Fq.setW {gw cw : Nat} {a0 : Value} (h : Fq w P wv fv rv gq W u a0 b c (.slice (some ⟨gw, 0, none⟩) L1.length cw) vb vc L1 L2 E) (k z : Nat) : Fq w P wv fv rv gq (W.setCell ⟨gw, k, none⟩ (.int .u64 (z : Int))) u a0 b c (.slice (some ⟨gw, 0, none⟩) L1.length cw) vb vc (L1.set k z) L2 E := by
  have hge : w.heap.size + 2 ≤ gw := own_ge' h.r1 rfl
  have hb : Below (w.heap.size + 2) W (W.setCell ⟨gw, k, none⟩ (.int .u64 (z : Int))) := (Below.refl _ W).setCell (p := ⟨gw, k, none⟩) hge _
  have hs := h.r1.stored k (.int .u64 (z : Int))
  have hne : gw ≠ gq := own_ne_q h.r1 h.qb (by decide) rfl
  refine ⟨(hb.block _ (by omega)).trans h.pb, h.z.of (hb.block _ (by omega)), h.qb.of (Below.heap_setCell _ _ _ _ (fun e => hne e.symm)), ?_, kept_kind h.r2 h.r1 (by decide) hs.2, ⟨kept_kind h.r3.row h.r1 (by decide) hs.2, fun p hp => kept_kind (h.r3.inner p hp) h.r1 (by decide) hs.2⟩, h.dj, h.ge, h.be.trans (hb.mono (by omega))⟩
  have := hs.1
  rw [cellsW_setQ] at this
  rw [List.length_set]
  exact this
theorem cellsI_set (L : List Int) (k : Nat) (z : Int) : (cellsI L).set k (.int .i64 z) = cellsI (L.set k z) := by unfold cellsI; rw [List.map_set]
/-- One of Fixed written over. -/
theorem Fq.setF {gf cf : Nat} {b0 : Value} (h : Fq w P wv fv rv gq W u a b0 c va (.slice (some ⟨gf, 0, none⟩) L2.length cf) vc L1 L2 E) (k : Nat) (z : Int) : Fq w P wv fv rv gq (W.setCell ⟨gf, k, none⟩ (.int .i64 z)) u a b0 c va (.slice (some ⟨gf, 0, none⟩) L2.length cf) vc L1 (L2.set k z) E := by
  have hge : w.heap.size + 2 ≤ gf := own_ge' h.r2 rfl
  have hb : Below (w.heap.size + 2) W (W.setCell ⟨gf, k, none⟩ (.int .i64 z)) := (Below.refl _ W).setCell (p := ⟨gf, k, none⟩) hge _
  have hs := h.r2.stored k (.int .i64 z)
  have hne : gf ≠ gq := own_ne_q h.r2 h.qb (by decide) rfl
  refine ⟨(hb.block _ (by omega)).trans h.pb, h.z.of (hb.block _ (by omega)), h.qb.of (Below.heap_setCell _ _ _ _ (fun e => hne e.symm)), kept_kind h.r1 h.r2 (by decide) hs.2, ?_, ⟨kept_kind h.r3.row h.r2 (by decide) hs.2, fun p hp => own_same (h.r3.inner p hp) fun g _ e => Below.heap_setCell _ _ _ _ fun q => ?_⟩, h.dj, h.ge, h.be.trans (hb.mono (by omega))⟩
  · have := hs.1
    rw [cellsI_set] at this
    rw [List.length_set]
    exact this
  · subst q
    exact h.dj p hp g rfl e
end
end Go.Proofs.YtlijlelejobchaaGreatDoor.S

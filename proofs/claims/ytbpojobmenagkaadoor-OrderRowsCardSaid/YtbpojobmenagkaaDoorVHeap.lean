/- order's turns: a row of pairs; Less, Swap: what they answer. -/
import Derived.Test.YtbpojobmenagkaaDoorGMath
import Derived.WalkKit
import Derived.WalkSpells
import Derived.WalkLawsBesides
import Derived.BigRegion
import Derived.OwnWalk
import Derived.Deep.AppendLies
import Derived.Deep.RegionHeld3
import Derived.Lib.OwnKind
import Derived.Test.YtbpojobmenagkaaDoorOFn
namespace Go.Proofs.YtbpojobmenagkaaDoor
open Go.RowKit
theorem ret_boolV {a b : Bool} (h : a = b) : Ending.returned (.bool a) = .returned (.bool b) := by rw [h]
theorem ret_intV {k : IntKind} {a b : Int} (h : a = b) : Ending.returned (.int k a) = .returned (.int k b) := by rw [h]
/-- What stands in the cells of a row of pairs. -/
def valE (f : Nat → Ent) (c : Nat) : Int := if c % 2 = 0 then (f (c / 2)).tm else (f (c / 2)).turn
def prs (f : Nat → Ent) (n : Nat) : List Value := (List.range (2 * n)).map fun c => .int .i64 (valE f c)
theorem prs_len (f : Nat → Ent) (n : Nat) : (prs f n).length = 2 * n := by simp [prs]
theorem prs_cell (f : Nat → Ent) {n c : Nat} (h : c < 2 * n) : (prs f n)[c]? = some (.int .i64 (valE f c)) := by simp [prs, h]
theorem prs_none (f : Nat → Ent) {n c : Nat} (h : ¬ c < 2 * n) : (prs f n)[c]? = none := List.getElem?_eq_none (by rw [prs_len]; omega)
theorem val_tm (f : Nat → Ent) (k : Nat) : valE f (k * 2) = (f k).tm := by unfold valE; rw [if_pos (by omega), show k * 2 / 2 = k by omega]
theorem val_turn (f : Nat → Ent) (k : Nat) : valE f (k * 2 + 1) = (f k).turn := by unfold valE; rw [if_neg (by omega), show (k * 2 + 1) / 2 = k by omega]
theorem prs_tm (f : Nat → Ent) {n k : Nat} (h : k < n) : (prs f n)[k * 2]? = some (.int .i64 (f k).tm) := by rw [prs_cell f (by omega), val_tm]
theorem prs_turn (f : Nat → Ent) {n k : Nat} (h : k < n) : (prs f n)[k * 2 + 1]? = some (.int .i64 (f k).turn) := by rw [prs_cell f (by omega), val_turn]
theorem prs_swap (f : Nat → Ent) {n i j : Nat} (hi : i < n) (hj : j < n) :
    ((((prs f n).set (i * 2) (.int .i64 (f j).tm)).set (i * 2 + 1) (.int .i64 (f j).turn)).set (j * 2) (.int .i64 (f i).tm)).set (j * 2 + 1) (.int .i64 (f i).turn) = prs (swF f i j) n := by
  refine List.ext_getElem? fun c => ?_
  simp only [List.getElem?_set, List.length_set, prs_len]
  by_cases hc : c < 2 * n
  · rw [prs_cell _ hc, prs_cell _ hc]
    by_cases e1 : j * 2 + 1 = c
    · subst e1; rw [if_pos rfl, if_pos hc, val_turn, swF_j]
    · rw [if_neg e1]
      by_cases e2 : j * 2 = c
      · subst e2; rw [if_pos rfl, if_pos hc, val_tm, swF_j]
      · rw [if_neg e2]
        by_cases e3 : i * 2 + 1 = c
        · subst e3; rw [if_pos rfl, if_pos hc, val_turn, swF_i]
        · rw [if_neg e3]
          by_cases e4 : i * 2 = c
          · subst e4; rw [if_pos rfl, if_pos hc, val_tm, swF_i]
          · rw [if_neg e4]
            congr 2
            unfold valE
            rw [swF_o f (by omega) (by omega)]
  · rw [prs_none _ hc, prs_none _ hc]
    split <;> (try split) <;> (try split) <;> (try split) <;> (try split) <;> first | rfl | (exfalso; omega)
/-- The same ones in another order. -/
def SameE (n : Nat) (f g : Nat → Ent) : Prop := ∃ σ τ : Nat → Nat, (∀ k, k < n → σ k < n ∧ g k = f (σ k) ∧ τ (σ k) = k) ∧ ∀ k, k < n → τ k < n ∧ σ (τ k) = k
theorem SameE.refl (n : Nat) (f : Nat → Ent) : SameE n f f := ⟨id, id, fun _ hk => ⟨hk, rfl, rfl⟩, fun _ hk => ⟨hk, rfl⟩⟩
theorem SameE.trans {n : Nat} {f g h : Nat → Ent} (a : SameE n f g) (b : SameE n g h) : SameE n f h := by
  obtain ⟨s, t, h1, h2⟩ := a
  obtain ⟨s', t', h3, h4⟩ := b
  refine ⟨fun k => s (s' k), fun k => t' (t k), fun k hk => ?_, fun k hk => ?_⟩
  · obtain ⟨a1, a2, a3⟩ := h3 k hk
    obtain ⟨b1, b2, b3⟩ := h1 (s' k) a1
    exact ⟨b1, by rw [a2, b2], by show t' (t (s (s' k))) = k; rw [b3, a3]⟩
  · obtain ⟨a1, a2⟩ := h2 k hk
    obtain ⟨b1, b2⟩ := h4 (t k) a1
    exact ⟨b1, by show s (s' (t' (t k))) = k; rw [b2, a2]⟩
theorem SameE.sw {n : Nat} (f : Nat → Ent) {i j : Nat} (hi : i < n) (hj : j < n) : SameE n f (swF f i j) := by
  refine ⟨fun k => if k = i then j else if k = j then i else k, fun k => if k = i then j else if k = j then i else k, fun k hk => ⟨?_, ?_, ?_⟩, fun k hk => ⟨?_, ?_⟩⟩
  · show (if k = i then j else if k = j then i else k) < n
    split <;> (try split) <;> omega
  · unfold swF
    by_cases e1 : k = i
    · simp [e1]
    · by_cases e2 : k = j
      · simp [e2]; split <;> simp_all
      · simp [e1, e2]
  · show (if (if k = i then j else if k = j then i else k) = i then j else if (if k = i then j else if k = j then i else k) = j then i else (if k = i then j else if k = j then i else k)) = k
    by_cases e1 : k = i
    · simp [e1]
    · by_cases e2 : k = j
      · simp [e2]
      · simp [e1, e2]
  · show (if k = i then j else if k = j then i else k) < n
    split <;> (try split) <;> omega
  · show (if (if k = i then j else if k = j then i else k) = i then j else if (if k = i then j else if k = j then i else k) = j then i else (if k = i then j else if k = j then i else k)) = k
    by_cases e1 : k = i
    · simp [e1]
    · by_cases e2 : k = j
      · simp [e2]
      · simp [e1, e2]
/-- A row of pairs. -/
def TH (w : World) (n : Nat) (f : Nat → Ent) (rowv : Value) : Prop := w.ownsRow 0 60 2 rowv n (prs f n)
def cmpI (a b : Int) : Int := if a < b then -1 else if b < a then 1 else 0
def orI (p q : Int) : Int := if p = 0 then q else p
theorem cmp_lt (x y : Ent) : orI (cmpI x.tm y.tm) (cmpI x.turn y.turn) < 0 ↔ ltE x y := by
  unfold orI cmpI ltE
  by_cases h1 : x.tm < y.tm
  · simp [h1]
  · by_cases h2 : y.tm < x.tm
    · simp [h1, h2]; omega
    · have e : x.tm = y.tm := by omega
      by_cases h3 : x.turn < y.turn
      · simp [h3, e]
      · by_cases h4 : y.turn < x.turn
        · simp [h1, h2, h3, h4]
        · simp [h1, h2, h3, h4]
set_option maxHeartbeats 1000000 in
theorem compareI (a b : Int) (w : World) : Calls Tryd.prog 79 #[.int .i64 a, .int .i64 b] w fun e w' => e = .returned (.int .i64 (cmpI a b)) ∧ w' = w := by
  by_cases h1 : a < b
  · have hr : Hid (cmpI a b = -1) := if_pos h1
    go_enter Tryd.func79, Tryd.ntmps79
    go_wp2
    go_ret
    exact ⟨ret_intV hr.out.symm, rfl⟩
  · by_cases h2 : b < a
    · have hr : Hid (cmpI a b = 1) := by show _ = _; unfold cmpI; rw [if_neg h1, if_pos h2]
      go_enter Tryd.func79, Tryd.ntmps79
      go_wp2
      go_ret
      exact ⟨ret_intV hr.out.symm, rfl⟩
    · have hr : Hid (cmpI a b = 0) := by show _ = _; unfold cmpI; rw [if_neg h1, if_neg h2]
      go_enter Tryd.func79, Tryd.ntmps79
      go_wp2
      go_ret
      exact ⟨ret_intV hr.out.symm, rfl⟩
set_option maxRecDepth 100000 in
set_option maxHeartbeats 1000000 in
theorem orT (p q : Int) (g : Nat) (w : World) (c0 : w.cell? ⟨g, 0, none⟩ = some (.int .i64 p)) (c1 : w.cell? ⟨g, 1, none⟩ = some (.int .i64 q)) :
    Calls Tryd.prog 78 #[.slice (some ⟨g, 0, none⟩) 2 2] w fun e w' => e = .returned (.int .i64 (orI p q)) ∧ w' = w := by
  by_cases hp : p = 0
  · subst hp
    have hr : Hid (orI 0 q = q) := if_pos rfl
    by_cases hq : q = 0
    · subst hq
      go_enter Tryd.func78, Tryd.ntmps78
      go_wp2
      go_loop [8] (fun k => k = .int .i64 0 ∨ k = .int .i64 1 ∨ k = .int .i64 2) (fun k => (2 - intOf k).toNat)
      case atStart => exact .inl rfl
      case round =>
        rcases hrel with rfl | rfl | rfl
        · go_wp2
          exact ⟨.inr (.inl (by go_num)), by simp [intOf]⟩
        · go_wp2
          exact ⟨.inr (.inr (by go_num)), by simp [intOf]⟩
        · go_wp2
          go_ret
          exact ⟨ret_intV hr.out.symm, rfl⟩
    · have hqb : (q != 0) = true := by simpa using hq
      go_enter Tryd.func78, Tryd.ntmps78
      go_wp2
      go_loop [8] (fun k => k = .int .i64 0 ∨ k = .int .i64 1) (fun k => (2 - intOf k).toNat)
      case atStart => exact .inl rfl
      case round =>
        rcases hrel with rfl | rfl
        · go_wp2
          exact ⟨.inr (by go_num), by simp [intOf]⟩
        · go_wp2
          go_ret
          exact ⟨ret_intV hr.out.symm, rfl⟩
  · have hr : Hid (orI p q = p) := if_neg hp
    have hpb : (p != 0) = true := by simpa using hp
    go_enter Tryd.func78, Tryd.ntmps78
    go_wp2
    go_loop [8] (fun k => k = .int .i64 0) (fun _ => 0)
    case atStart => rfl
    case round =>
      obtain rfl := hrel
      go_wp2
      go_ret
      exact ⟨ret_intV hr.out.symm, rfl⟩
set_option maxRecDepth 100000 in
set_option maxHeartbeats 4000000 in
theorem swapT (n : Nat) (f : Nat → Ent) (i j : Nat) (hi : i < n) (hj : j < n) (_ : n ≤ 1000) (g cap : Nat) (w : World) (H : TH w n f (.slice (some ⟨g, 0, none⟩) n cap)) :
    Calls Tryd.prog 77 #[.slice (some ⟨g, 0, none⟩) n cap, .int .i64 i, .int .i64 j] w fun e w' => e = .returned (.tuple #[]) ∧ Hid (TH w' n (swF f i j) (.slice (some ⟨g, 0, none⟩) n cap)) ∧ w.grownBy w' (some g) := by
  have ci : w.cell? ⟨g, i * 2, none⟩ = some (.int .i64 (f i).tm) := by rw [H.cellAt (i * 2) (by omega)]; exact prs_tm f hi
  have ci' : w.cell? ⟨g, i * 2 + 1, none⟩ = some (.int .i64 (f i).turn) := by rw [H.cellAt (i * 2 + 1) (by omega)]; exact prs_turn f hi
  have cj : w.cell? ⟨g, j * 2, none⟩ = some (.int .i64 (f j).tm) := by rw [H.cellAt (j * 2) (by omega)]; exact prs_tm f hj
  have cj' : w.cell? ⟨g, j * 2 + 1, none⟩ = some (.int .i64 (f j).turn) := by rw [H.cellAt (j * 2 + 1) (by omega)]; exact prs_turn f hj
  have fi := H.frozenAt (i * 2)
  have fi' := H.frozenAt (i * 2 + 1)
  have fj := H.frozenAt (j * 2)
  have fj' := H.frozenAt (j * 2 + 1)
  have H' := hide' H
  clear H
  have hfin : Hid (∀ w', ((((w.setCell ⟨g, i * 2, none⟩ (.int .i64 (f j).tm)).setCell ⟨g, i * 2 + 1, none⟩ (.int .i64 (f j).turn)).setCell ⟨g, j * 2, none⟩ (.int .i64 (f i).tm)).setCell ⟨g, j * 2 + 1, none⟩ (.int .i64 (f i).turn)).drew = w' → TH w' n (swF f i j) (.slice (some ⟨g, 0, none⟩) n cap) ∧ w.grownBy w' (some g)) := fun w' e => by
    subst e
    have h4 := ((((H'.out.stored (i * 2) (.int .i64 (f j).tm)).1.stored (i * 2 + 1) (.int .i64 (f j).turn)).1.stored (j * 2) (.int .i64 (f i).tm)).1.stored (j * 2 + 1) (.int .i64 (f i).turn)).1
    rw [prs_swap f hi hj] at h4
    refine ⟨h4.drew, ⟨rfl, rfl, rfl, by simp [World.setCell, World.drew], fun k hk hne => ?_⟩⟩
    have hkg : ¬ k = g := fun e => hne (by rw [e])
    show ((((w.setCell ⟨g, i * 2, none⟩ (.int .i64 (f j).tm)).setCell ⟨g, i * 2 + 1, none⟩ (.int .i64 (f j).turn)).setCell ⟨g, j * 2, none⟩ (.int .i64 (f i).tm)).setCell ⟨g, j * 2 + 1, none⟩ (.int .i64 (f i).turn)).heap[k]? = w.heap[k]?
    rw [Below.heap_setCell _ _ _ _ hkg, Below.heap_setCell _ _ _ _ hkg, Below.heap_setCell _ _ _ _ hkg, Below.heap_setCell _ _ _ _ hkg]
  by_cases hij : i = j
  · subst hij
    go_enter Tryd.func77, Tryd.ntmps77
    go_wp2
    go_region
    first | go_end0 | refine bodyPost_ret (results_none rfl _ _ _) rfl ?_
    exact ⟨rfl, hfin.out _ rfl⟩
  · have h1 : ¬ i * 2 = j * 2 := by omega
    have h2 : ¬ j * 2 = i * 2 := by omega
    have h3 : ¬ i * 2 + 1 = j * 2 := by omega
    have h4 : ¬ j * 2 = i * 2 + 1 := by omega
    have h5 : ¬ i * 2 = j * 2 + 1 := by omega
    have h6 : ¬ j * 2 + 1 = i * 2 := by omega
    have h7 : ¬ i * 2 + 1 = j * 2 + 1 := by omega
    have h8 : ¬ j * 2 + 1 = i * 2 + 1 := by omega
    have h9 : ¬ j = i := by omega
    go_enter Tryd.func77, Tryd.ntmps77
    go_wp2
    go_region
    first | go_end0 | refine bodyPost_ret (results_none rfl _ _ _) rfl ?_
    exact ⟨rfl, hfin.out _ rfl⟩
theorem keepV4 {W0 W w1 : World} {b o1 o2 o3 o4 : Nat} {u1 u2 u3 u4 : Value} (h : W.cell? ⟨b, o1, none⟩ = some u1 ∧ W.cell? ⟨b, o2, none⟩ = some u2 ∧ W.cell? ⟨b, o3, none⟩ = some u3 ∧ W.cell? ⟨b, o4, none⟩ = some u4 ∧ Below W0.heap.size W0 W) (hb : Below W.heap.size W w1) :
    w1.cell? ⟨b, o1, none⟩ = some u1 ∧ w1.cell? ⟨b, o2, none⟩ = some u2 ∧ w1.cell? ⟨b, o3, none⟩ = some u3 ∧ w1.cell? ⟨b, o4, none⟩ = some u4 ∧ Below W0.heap.size W0 w1 :=
  ⟨cell_over h.1 hb, cell_over h.2.1 hb, cell_over h.2.2.1 hb, cell_over h.2.2.2.1 hb, h.2.2.2.2.trans (hb.mono h.2.2.2.2.size)⟩
set_option maxRecDepth 100000 in
set_option maxHeartbeats 4000000 in
theorem lessT (n : Nat) (f : Nat → Ent) (i j : Nat) (hi : i < n) (hj : j < n) (_ : n ≤ 1000) (g cap : Nat) (w : World) (H : TH w n f (.slice (some ⟨g, 0, none⟩) n cap)) :
    Calls Tryd.prog 74 #[.slice (some ⟨g, 0, none⟩) n cap, .int .i64 i, .int .i64 j] w fun e w' => (∃ b, e = .returned (.bool b) ∧ (b = true ↔ ltE (f i) (f j))) ∧ Below w.heap.size w w' := by
  have ci : w.cell? ⟨g, i * 2, none⟩ = some (.int .i64 (f i).tm) := by rw [H.cellAt (i * 2) (by omega)]; exact prs_tm f hi
  have ci' : w.cell? ⟨g, i * 2 + 1, none⟩ = some (.int .i64 (f i).turn) := by rw [H.cellAt (i * 2 + 1) (by omega)]; exact prs_turn f hi
  have cj : w.cell? ⟨g, j * 2, none⟩ = some (.int .i64 (f j).tm) := by rw [H.cellAt (j * 2) (by omega)]; exact prs_tm f hj
  have cj' : w.cell? ⟨g, j * 2 + 1, none⟩ = some (.int .i64 (f j).turn) := by rw [H.cellAt (j * 2 + 1) (by omega)]; exact prs_turn f hj
  have K1 : Hid (∀ W, Calls Tryd.prog 79 #[.int .i64 (f i).tm, .int .i64 (f j).tm] W fun e w' => e = .returned (.int .i64 (cmpI (f i).tm (f j).tm)) ∧ Below W.heap.size W w') := fun W => (compareI _ _ W).mono fun e w' ⟨h, hw⟩ => ⟨h, by rw [hw]; exact Below.refl _ _⟩
  have K2 : Hid (∀ W, Calls Tryd.prog 79 #[.int .i64 (f i).turn, .int .i64 (f j).turn] W fun e w' => e = .returned (.int .i64 (cmpI (f i).turn (f j).turn)) ∧ Below W.heap.size W w') := fun W => (compareI _ _ W).mono fun e w' ⟨h, hw⟩ => ⟨h, by rw [hw]; exact Below.refl _ _⟩
  have hlt := hide' (cmp_lt (f i) (f j))
  generalize cmpI (f i).tm (f j).tm = c1 at *
  generalize cmpI (f i).turn (f j).turn = c2 at *
  generalize (f i).tm = xt at *
  generalize (f j).tm = yt at *
  generalize (f i).turn = xn at *
  generalize (f j).turn = yn at *
  have KO : Hid (∀ W : World, Calls Tryd.prog 78 #[.slice (some ⟨W.heap.size, 0, none⟩) 2 2] (W.alloc (.cells #[.int .i64 c1, .int .i64 c2] 3)) fun e w' => e = .returned (.int .i64 (orI c1 c2)) ∧ Below (W.alloc (.cells #[.int .i64 c1, .int .i64 c2] 3)).heap.size (W.alloc (.cells #[.int .i64 c1, .int .i64 c2] 3)) w') := fun W => (orT c1 c2 W.heap.size _ (by simp) (by simp)).mono fun e w' ⟨h, hw⟩ => ⟨h, by rw [hw]; exact Below.refl _ _⟩
  have hi0 : Hid (w.drew.cell? ⟨g, i * 2, none⟩ = some (.int .i64 xt) ∧ w.drew.cell? ⟨g, j * 2, none⟩ = some (.int .i64 yt) ∧ w.drew.cell? ⟨g, i * 2 + 1, none⟩ = some (.int .i64 xn) ∧ w.drew.cell? ⟨g, j * 2 + 1, none⟩ = some (.int .i64 yn) ∧ Below w.heap.size w w.drew) := ⟨ci, cj, ci', cj', (Below.refl _ _).drew⟩
  clear H
  go_enter Tryd.func74, Tryd.ntmps74
  go_wp2
  go_region_held3 (fun V => V.cell? ⟨g, i * 2, none⟩ = some (.int .i64 xt) ∧ V.cell? ⟨g, j * 2, none⟩ = some (.int .i64 yt) ∧ V.cell? ⟨g, i * 2 + 1, none⟩ = some (.int .i64 xn) ∧ V.cell? ⟨g, j * 2 + 1, none⟩ = some (.int .i64 yn) ∧ Below w.heap.size w V) (first | (exact keepV4 (by assumption) hb) | (exact keepV4 hi0.out hb) | (exact keepV4 (by assumption) ((Below.refl _ _).alloc (Nat.le_refl _) _)) | (exact hi0.out)) (first | (go_at_call_of 79 (Value.int IntKind.i64 xt); refine (K1.out _).mono ?_; rintro e w1 ⟨rfl, hb⟩) | (go_at_call_of 79 (Value.int IntKind.i64 xn); refine (K2.out _).mono ?_; clear hb; rintro e w2 ⟨rfl, hb⟩) | (go_at_call 78; refine (KO.out _).mono ?_; clear hb; rintro e w3 ⟨rfl, hb⟩))
  go_wp2
  go_ret
  exact ⟨⟨_, rfl, by simp only [decide_eq_true_eq]; exact hlt.out⟩, ‹_ ∧ _ ∧ _ ∧ _ ∧ Below w.heap.size w w3›.2.2.2.2⟩
end Go.Proofs.YtbpojobmenagkaaDoor

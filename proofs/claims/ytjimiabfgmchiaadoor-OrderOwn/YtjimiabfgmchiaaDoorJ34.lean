/- container/heap's up over turns: what it answers. -/
import Derived.Test.YtjimiabfgmchiaaDoorOFn
import Derived.Test.YtjimiabfgmchiaaDoorGMath
import Derived.WalkKit
import Derived.WalkSpells
import Derived.WalkLawsBesides
import Derived.BigRegion
import Derived.OwnWalk
import Derived.Deep.AppendLies
import Derived.Deep.RegionHeld3
import Derived.Lib.OwnKind
namespace Go.Proofs.YtjimiabfgmchiaaDoor
open Go.RowKit
theorem ret_boolV {a b : Bool} (h : a = b) : Ending.returned (.bool a) = .returned (.bool b) := by rw [h]
theorem ret_intV {k : IntKind} {a b : Int} (h : a = b) : Ending.returned (.int k a) = .returned (.int k b) := by rw [h]
/-- What stands in the cells of a row of pairs. -/
def valE (f : Nat → Ent) (c : Nat) : Int := if c % 2 = 0 then (f (c / 2)).tm else (f (c / 2)).turn
def prs (f : Nat → Ent) (n : Nat) : List Value := (List.range (2 * n)).map fun c => .int .i64 (valE f c)
theorem prs_len (f : Nat → Ent) (n : Nat) : (prs f n).length = 2 * n := by simp [prs]
theorem prs_cell (f : Nat → Ent) {n c : Nat} (h : c < 2 * n) : (prs f n)[c]? = some (.int .i64 (valE f c)) := by simp [prs, h]
theorem prs_none (f : Nat → Ent) {n c : Nat} (h : ¬ c < 2 * n) : (prs f n)[c]? = none := List.getElem?_eq_none (by rw [prs_len]; omega)
theorem val_tm (f : Nat → Ent) (k : Nat) : valE f (k * 2) = (f k).tm := by unfold valE; rw [if_pos (by omega), show k * 2 / 2 = k by omega]
theorem val_turn (f : Nat → Ent) (k : Nat) : valE f (k * 2 + 1) = (f k).turn := by unfold valE; rw [if_neg (by omega), show (k * 2 + 1) / 2 = k by omega]
theorem prs_tm (f : Nat → Ent) {n k : Nat} (h : k < n) : (prs f n)[k * 2]? = some (.int .i64 (f k).tm) := by rw [prs_cell f (by omega), val_tm]
theorem prs_turn (f : Nat → Ent) {n k : Nat} (h : k < n) : (prs f n)[k * 2 + 1]? = some (.int .i64 (f k).turn) := by rw [prs_cell f (by omega), val_turn]
theorem prs_swap (f : Nat → Ent) {n i j : Nat} (hi : i < n) (hj : j < n) :
    ((((prs f n).set (i * 2) (.int .i64 (f j).tm)).set (i * 2 + 1) (.int .i64 (f j).turn)).set (j * 2) (.int .i64 (f i).tm)).set (j * 2 + 1) (.int .i64 (f i).turn) = prs (swF f i j) n := by
  refine List.ext_getElem? fun c => ?_
  simp only [List.getElem?_set, List.length_set, prs_len]
  by_cases hc : c < 2 * n
  · rw [prs_cell _ hc, prs_cell _ hc]
    by_cases e1 : j * 2 + 1 = c
    · subst e1; rw [if_pos rfl, if_pos hc, val_turn, swF_j]
    · rw [if_neg e1]
      by_cases e2 : j * 2 = c
      · subst e2; rw [if_pos rfl, if_pos hc, val_tm, swF_j]
      · rw [if_neg e2]
        by_cases e3 : i * 2 + 1 = c
        · subst e3; rw [if_pos rfl, if_pos hc, val_turn, swF_i]
        · rw [if_neg e3]
          by_cases e4 : i * 2 = c
          · subst e4; rw [if_pos rfl, if_pos hc, val_tm, swF_i]
          · rw [if_neg e4]
            congr 2
            unfold valE
            rw [swF_o f (by omega) (by omega)]
  · rw [prs_none _ hc, prs_none _ hc]
    split <;> (try split) <;> (try split) <;> (try split) <;> (try split) <;> first | rfl | (exfalso; omega)
/-- The same ones in another order. -/
def SameE (n : Nat) (f g : Nat → Ent) : Prop := ∃ σ τ : Nat → Nat, (∀ k, k < n → σ k < n ∧ g k = f (σ k) ∧ τ (σ k) = k) ∧ ∀ k, k < n → τ k < n ∧ σ (τ k) = k
theorem SameE.refl (n : Nat) (f : Nat → Ent) : SameE n f f := ⟨id, id, fun _ hk => ⟨hk, rfl, rfl⟩, fun _ hk => ⟨hk, rfl⟩⟩
theorem SameE.trans {n : Nat} {f g h : Nat → Ent} (a : SameE n f g) (b : SameE n g h) : SameE n f h := by
  obtain ⟨s, t, h1, h2⟩ := a
  obtain ⟨s', t', h3, h4⟩ := b
  refine ⟨fun k => s (s' k), fun k => t' (t k), fun k hk => ?_, fun k hk => ?_⟩
  · obtain ⟨a1, a2, a3⟩ := h3 k hk
    obtain ⟨b1, b2, b3⟩ := h1 (s' k) a1
    exact ⟨b1, by rw [a2, b2], by show t' (t (s (s' k))) = k; rw [b3, a3]⟩
  · obtain ⟨a1, a2⟩ := h2 k hk
    obtain ⟨b1, b2⟩ := h4 (t k) a1
    exact ⟨b1, by show s (s' (t' (t k))) = k; rw [b2, a2]⟩
theorem SameE.sw {n : Nat} (f : Nat → Ent) {i j : Nat} (hi : i < n) (hj : j < n) : SameE n f (swF f i j) := by
  refine ⟨fun k => if k = i then j else if k = j then i else k, fun k => if k = i then j else if k = j then i else k, fun k hk => ⟨?_, ?_, ?_⟩, fun k hk => ⟨?_, ?_⟩⟩
  · show (if k = i then j else if k = j then i else k) < n
    split <;> (try split) <;> omega
  · unfold swF
    by_cases e1 : k = i
    · simp [e1]
    · by_cases e2 : k = j
      · simp [e2]; split <;> simp_all
      · simp [e1, e2]
  · show (if (if k = i then j else if k = j then i else k) = i then j else if (if k = i then j else if k = j then i else k) = j then i else (if k = i then j else if k = j then i else k)) = k
    by_cases e1 : k = i
    · simp [e1]
    · by_cases e2 : k = j
      · simp [e2]
      · simp [e1, e2]
  · show (if k = i then j else if k = j then i else k) < n
    split <;> (try split) <;> omega
  · show (if (if k = i then j else if k = j then i else k) = i then j else if (if k = i then j else if k = j then i else k) = j then i else (if k = i then j else if k = j then i else k)) = k
    by_cases e1 : k = i
    · simp [e1]
    · by_cases e2 : k = j
      · simp [e2]
      · simp [e1, e2]
/-- A row of pairs. -/
def TH (w : World) (n : Nat) (f : Nat → Ent) (rowv : Value) : Prop := w.ownsRow 0 84 2 rowv n (prs f n)
def cmpI (a b : Int) : Int := if a < b then -1 else if b < a then 1 else 0
def orI (p q : Int) : Int := if p = 0 then q else p
theorem cmp_lt (x y : Ent) : orI (cmpI x.tm y.tm) (cmpI x.turn y.turn) < 0 ↔ ltE x y := by
  unfold orI cmpI ltE
  by_cases h1 : x.tm < y.tm
  · simp [h1]
  · by_cases h2 : y.tm < x.tm
    · simp [h1, h2]; omega
    · have e : x.tm = y.tm := by omega
      by_cases h3 : x.turn < y.turn
      · simp [h3, e]
      · by_cases h4 : y.turn < x.turn
        · simp [h1, h2, h3, h4]
        · simp [h1, h2, h3, h4]
set_option maxHeartbeats 1000000 in
theorem compareI (a b : Int) (w : World) : Calls Tryd.prog 93 #[.int .i64 a, .int .i64 b] w fun e w' => e = .returned (.int .i64 (cmpI a b)) ∧ w' = w := by
  by_cases h1 : a < b
  · have hr : Hid (cmpI a b = -1) := if_pos h1
    go_enter Tryd.func93, Tryd.ntmps93
    go_wp2
    go_ret
    exact ⟨ret_intV hr.out.symm, rfl⟩
  · by_cases h2 : b < a
    · have hr : Hid (cmpI a b = 1) := by show _ = _; unfold cmpI; rw [if_neg h1, if_pos h2]
      go_enter Tryd.func93, Tryd.ntmps93
      go_wp2
      go_ret
      exact ⟨ret_intV hr.out.symm, rfl⟩
    · have hr : Hid (cmpI a b = 0) := by show _ = _; unfold cmpI; rw [if_neg h1, if_neg h2]
      go_enter Tryd.func93, Tryd.ntmps93
      go_wp2
      go_ret
      exact ⟨ret_intV hr.out.symm, rfl⟩
set_option maxRecDepth 100000 in
set_option maxHeartbeats 1000000 in
theorem orT (p q : Int) (g : Nat) (w : World) (c0 : w.cell? ⟨g, 0, none⟩ = some (.int .i64 p)) (c1 : w.cell? ⟨g, 1, none⟩ = some (.int .i64 q)) :
    Calls Tryd.prog 92 #[.slice (some ⟨g, 0, none⟩) 2 2] w fun e w' => e = .returned (.int .i64 (orI p q)) ∧ w' = w := by
  by_cases hp : p = 0
  · subst hp
    have hr : Hid (orI 0 q = q) := if_pos rfl
    by_cases hq : q = 0
    · subst hq
      go_enter Tryd.func92, Tryd.ntmps92
      go_wp2
      go_loop [8] (fun k => k = .int .i64 0 ∨ k = .int .i64 1 ∨ k = .int .i64 2) (fun k => (2 - intOf k).toNat)
      case atStart => exact .inl rfl
      case round =>
        rcases hrel with rfl | rfl | rfl
        · go_wp2
          exact ⟨.inr (.inl (by go_num)), by simp [intOf]⟩
        · go_wp2
          exact ⟨.inr (.inr (by go_num)), by simp [intOf]⟩
        · go_wp2
          go_ret
          exact ⟨ret_intV hr.out.symm, rfl⟩
    · have hqb : (q != 0) = true := by simpa using hq
      go_enter Tryd.func92, Tryd.ntmps92
      go_wp2
      go_loop [8] (fun k => k = .int .i64 0 ∨ k = .int .i64 1) (fun k => (2 - intOf k).toNat)
      case atStart => exact .inl rfl
      case round =>
        rcases hrel with rfl | rfl
        · go_wp2
          exact ⟨.inr (by go_num), by simp [intOf]⟩
        · go_wp2
          go_ret
          exact ⟨ret_intV hr.out.symm, rfl⟩
  · have hr : Hid (orI p q = p) := if_neg hp
    have hpb : (p != 0) = true := by simpa using hp
    go_enter Tryd.func92, Tryd.ntmps92
    go_wp2
    go_loop [8] (fun k => k = .int .i64 0) (fun _ => 0)
    case atStart => rfl
    case round =>
      obtain rfl := hrel
      go_wp2
      go_ret
      exact ⟨ret_intV hr.out.symm, rfl⟩
set_option maxRecDepth 100000 in
set_option maxHeartbeats 4000000 in
theorem swapT (n : Nat) (f : Nat → Ent) (i j : Nat) (hi : i < n) (hj : j < n) (_ : n ≤ 1000) (g cap : Nat) (w : World) (H : TH w n f (.slice (some ⟨g, 0, none⟩) n cap)) :
    Calls Tryd.prog 91 #[.slice (some ⟨g, 0, none⟩) n cap, .int .i64 i, .int .i64 j] w fun e w' => e = .returned (.tuple #[]) ∧ Hid (TH w' n (swF f i j) (.slice (some ⟨g, 0, none⟩) n cap)) ∧ w.grownBy w' (some g) := by
  have ci : w.cell? ⟨g, i * 2, none⟩ = some (.int .i64 (f i).tm) := by rw [H.cellAt (i * 2) (by omega)]; exact prs_tm f hi
  have ci' : w.cell? ⟨g, i * 2 + 1, none⟩ = some (.int .i64 (f i).turn) := by rw [H.cellAt (i * 2 + 1) (by omega)]; exact prs_turn f hi
  have cj : w.cell? ⟨g, j * 2, none⟩ = some (.int .i64 (f j).tm) := by rw [H.cellAt (j * 2) (by omega)]; exact prs_tm f hj
  have cj' : w.cell? ⟨g, j * 2 + 1, none⟩ = some (.int .i64 (f j).turn) := by rw [H.cellAt (j * 2 + 1) (by omega)]; exact prs_turn f hj
  have fi := H.frozenAt (i * 2)
  have fi' := H.frozenAt (i * 2 + 1)
  have fj := H.frozenAt (j * 2)
  have fj' := H.frozenAt (j * 2 + 1)
  have H' := hide' H
  clear H
  have hfin : Hid (∀ w', ((((w.setCell ⟨g, i * 2, none⟩ (.int .i64 (f j).tm)).setCell ⟨g, i * 2 + 1, none⟩ (.int .i64 (f j).turn)).setCell ⟨g, j * 2, none⟩ (.int .i64 (f i).tm)).setCell ⟨g, j * 2 + 1, none⟩ (.int .i64 (f i).turn)).drew = w' → TH w' n (swF f i j) (.slice (some ⟨g, 0, none⟩) n cap) ∧ w.grownBy w' (some g)) := fun w' e => by
    subst e
    have h4 := ((((H'.out.stored (i * 2) (.int .i64 (f j).tm)).1.stored (i * 2 + 1) (.int .i64 (f j).turn)).1.stored (j * 2) (.int .i64 (f i).tm)).1.stored (j * 2 + 1) (.int .i64 (f i).turn)).1
    rw [prs_swap f hi hj] at h4
    refine ⟨h4.drew, ⟨rfl, rfl, rfl, by simp [World.setCell, World.drew], fun k hk hne => ?_⟩⟩
    have hkg : ¬ k = g := fun e => hne (by rw [e])
    show ((((w.setCell ⟨g, i * 2, none⟩ (.int .i64 (f j).tm)).setCell ⟨g, i * 2 + 1, none⟩ (.int .i64 (f j).turn)).setCell ⟨g, j * 2, none⟩ (.int .i64 (f i).tm)).setCell ⟨g, j * 2 + 1, none⟩ (.int .i64 (f i).turn)).heap[k]? = w.heap[k]?
    rw [Below.heap_setCell _ _ _ _ hkg, Below.heap_setCell _ _ _ _ hkg, Below.heap_setCell _ _ _ _ hkg, Below.heap_setCell _ _ _ _ hkg]
  by_cases hij : i = j
  · subst hij
    go_enter Tryd.func91, Tryd.ntmps91
    go_wp2
    go_region
    first | go_end0 | refine bodyPost_ret (results_none rfl _ _ _) rfl ?_
    exact ⟨rfl, hfin.out _ rfl⟩
  · have h1 : ¬ i * 2 = j * 2 := by omega
    have h2 : ¬ j * 2 = i * 2 := by omega
    have h3 : ¬ i * 2 + 1 = j * 2 := by omega
    have h4 : ¬ j * 2 = i * 2 + 1 := by omega
    have h5 : ¬ i * 2 = j * 2 + 1 := by omega
    have h6 : ¬ j * 2 + 1 = i * 2 := by omega
    have h7 : ¬ i * 2 + 1 = j * 2 + 1 := by omega
    have h8 : ¬ j * 2 + 1 = i * 2 + 1 := by omega
    have h9 : ¬ j = i := by omega
    go_enter Tryd.func91, Tryd.ntmps91
    go_wp2
    go_region
    first | go_end0 | refine bodyPost_ret (results_none rfl _ _ _) rfl ?_
    exact ⟨rfl, hfin.out _ rfl⟩
theorem keepV4 {W0 W w1 : World} {b o1 o2 o3 o4 : Nat} {u1 u2 u3 u4 : Value} (h : W.cell? ⟨b, o1, none⟩ = some u1 ∧ W.cell? ⟨b, o2, none⟩ = some u2 ∧ W.cell? ⟨b, o3, none⟩ = some u3 ∧ W.cell? ⟨b, o4, none⟩ = some u4 ∧ Below W0.heap.size W0 W) (hb : Below W.heap.size W w1) :
    w1.cell? ⟨b, o1, none⟩ = some u1 ∧ w1.cell? ⟨b, o2, none⟩ = some u2 ∧ w1.cell? ⟨b, o3, none⟩ = some u3 ∧ w1.cell? ⟨b, o4, none⟩ = some u4 ∧ Below W0.heap.size W0 w1 :=
  ⟨cell_over h.1 hb, cell_over h.2.1 hb, cell_over h.2.2.1 hb, cell_over h.2.2.2.1 hb, h.2.2.2.2.trans (hb.mono h.2.2.2.2.size)⟩
set_option maxRecDepth 100000 in
set_option maxHeartbeats 4000000 in
theorem lessT (n : Nat) (f : Nat → Ent) (i j : Nat) (hi : i < n) (hj : j < n) (_ : n ≤ 1000) (g cap : Nat) (w : World) (H : TH w n f (.slice (some ⟨g, 0, none⟩) n cap)) :
    Calls Tryd.prog 88 #[.slice (some ⟨g, 0, none⟩) n cap, .int .i64 i, .int .i64 j] w fun e w' => (∃ b, e = .returned (.bool b) ∧ (b = true ↔ ltE (f i) (f j))) ∧ Below w.heap.size w w' := by
  have ci : w.cell? ⟨g, i * 2, none⟩ = some (.int .i64 (f i).tm) := by rw [H.cellAt (i * 2) (by omega)]; exact prs_tm f hi
  have ci' : w.cell? ⟨g, i * 2 + 1, none⟩ = some (.int .i64 (f i).turn) := by rw [H.cellAt (i * 2 + 1) (by omega)]; exact prs_turn f hi
  have cj : w.cell? ⟨g, j * 2, none⟩ = some (.int .i64 (f j).tm) := by rw [H.cellAt (j * 2) (by omega)]; exact prs_tm f hj
  have cj' : w.cell? ⟨g, j * 2 + 1, none⟩ = some (.int .i64 (f j).turn) := by rw [H.cellAt (j * 2 + 1) (by omega)]; exact prs_turn f hj
  have K1 : Hid (∀ W, Calls Tryd.prog 93 #[.int .i64 (f i).tm, .int .i64 (f j).tm] W fun e w' => e = .returned (.int .i64 (cmpI (f i).tm (f j).tm)) ∧ Below W.heap.size W w') := fun W => (compareI _ _ W).mono fun e w' ⟨h, hw⟩ => ⟨h, by rw [hw]; exact Below.refl _ _⟩
  have K2 : Hid (∀ W, Calls Tryd.prog 93 #[.int .i64 (f i).turn, .int .i64 (f j).turn] W fun e w' => e = .returned (.int .i64 (cmpI (f i).turn (f j).turn)) ∧ Below W.heap.size W w') := fun W => (compareI _ _ W).mono fun e w' ⟨h, hw⟩ => ⟨h, by rw [hw]; exact Below.refl _ _⟩
  have hlt := hide' (cmp_lt (f i) (f j))
  generalize cmpI (f i).tm (f j).tm = c1 at *
  generalize cmpI (f i).turn (f j).turn = c2 at *
  generalize (f i).tm = xt at *
  generalize (f j).tm = yt at *
  generalize (f i).turn = xn at *
  generalize (f j).turn = yn at *
  have KO : Hid (∀ W : World, Calls Tryd.prog 92 #[.slice (some ⟨W.heap.size, 0, none⟩) 2 2] (W.alloc (.cells #[.int .i64 c1, .int .i64 c2] 3)) fun e w' => e = .returned (.int .i64 (orI c1 c2)) ∧ Below (W.alloc (.cells #[.int .i64 c1, .int .i64 c2] 3)).heap.size (W.alloc (.cells #[.int .i64 c1, .int .i64 c2] 3)) w') := fun W => (orT c1 c2 W.heap.size _ (by simp) (by simp)).mono fun e w' ⟨h, hw⟩ => ⟨h, by rw [hw]; exact Below.refl _ _⟩
  have hi0 : Hid (w.drew.cell? ⟨g, i * 2, none⟩ = some (.int .i64 xt) ∧ w.drew.cell? ⟨g, j * 2, none⟩ = some (.int .i64 yt) ∧ w.drew.cell? ⟨g, i * 2 + 1, none⟩ = some (.int .i64 xn) ∧ w.drew.cell? ⟨g, j * 2 + 1, none⟩ = some (.int .i64 yn) ∧ Below w.heap.size w w.drew) := ⟨ci, cj, ci', cj', (Below.refl _ _).drew⟩
  clear H
  go_enter Tryd.func88, Tryd.ntmps88
  go_wp2
  go_region_held3 (fun V => V.cell? ⟨g, i * 2, none⟩ = some (.int .i64 xt) ∧ V.cell? ⟨g, j * 2, none⟩ = some (.int .i64 yt) ∧ V.cell? ⟨g, i * 2 + 1, none⟩ = some (.int .i64 xn) ∧ V.cell? ⟨g, j * 2 + 1, none⟩ = some (.int .i64 yn) ∧ Below w.heap.size w V) (first | (exact keepV4 (by assumption) hb) | (exact keepV4 hi0.out hb) | (exact keepV4 (by assumption) ((Below.refl _ _).alloc (Nat.le_refl _) _)) | (exact hi0.out)) (first | (go_at_call_of 93 (Value.int IntKind.i64 xt); refine (K1.out _).mono ?_; rintro e w1 ⟨rfl, hb⟩) | (go_at_call_of 93 (Value.int IntKind.i64 xn); refine (K2.out _).mono ?_; clear hb; rintro e w2 ⟨rfl, hb⟩) | (go_at_call 92; refine (KO.out _).mono ?_; clear hb; rintro e w3 ⟨rfl, hb⟩))
  go_wp2
  go_ret
  exact ⟨⟨_, rfl, by simp only [decide_eq_true_eq]; exact hlt.out⟩, ‹_ ∧ _ ∧ _ ∧ _ ∧ Below w.heap.size w w3›.2.2.2.2⟩
end Go.Proofs.YtjimiabfgmchiaaDoor
namespace Go.Proofs.YtjimiabfgmchiaaDoor
open Go.RowKit
theorem metQ (nm : String) (f : FuncId) (p : Bool) (h : (Tryd.prog.info? 79).map (fun i => (i.methods.find? (·.name == nm)).map (fun m => (m.path.toList, m.func))) = some (some ([], some (f, p)))) :
    ∃ i m, Tryd.prog.info? 79 = some i ∧ i.methods.find? (·.name == nm) = some m ∧ m.path.toList = [] ∧ m.func = some (f, p) ∧ m.path = #[] := by
  cases hi : Tryd.prog.info? 79 with
  | none => rw [hi] at h; simp at h
  | some i =>
    rw [hi] at h
    simp only [Option.map_some, Option.some.injEq] at h
    cases hm : i.methods.find? (·.name == nm) with
    | none => rw [hm] at h; simp at h
    | some m =>
      rw [hm] at h
      simp only [Option.map_some, Option.some.injEq, Prod.mk.injEq] at h
      refine ⟨i, m, rfl, hm, h.1, h.2, ?_⟩
      apply Array.ext'
      rw [h.1]
theorem wrapNil (ad : Addr) (s : String) (w : World) : (Builtin.ssaWrapNilChk_ #[79] 79 #[.pointer (some ad), strVal "", strVal s]).run Tryd.prog w = .ok (.pointer (some ad)) w := by kernel_rfl
theorem mVal (nm : String) (f : FuncId) (h : (Tryd.prog.info? 79).map (fun i => (i.methods.find? (·.name == nm)).map (fun m => (m.path.toList, m.func))) = some (some ([], some (f, false)))) (F a : Nat) (o : Option Addr) (n cap : Nat) (w : World) (hc : w.cell? ⟨a, 0, none⟩ = some (.slice o n cap)) : (method (F + 1) 79 (.pointer (some ⟨a, 0, none⟩)) nm).run Tryd.prog w = .ok (f, .slice o n cap) w := by
  obtain ⟨i, m, hi, hm, _, h2, h3⟩ := metQ nm f false h
  simp [method, typeInfo, hi, hm, h2, h3, follow, receiverAt, Place.get, wrapNil, go_sem, hc]
theorem mPtr (nm : String) (f : FuncId) (h : (Tryd.prog.info? 79).map (fun i => (i.methods.find? (·.name == nm)).map (fun m => (m.path.toList, m.func))) = some (some ([], some (f, true)))) (F : Nat) (v : Value) (w : World) : (method (F + 1) 79 v nm).run Tryd.prog w = .ok (f, v) w := by
  obtain ⟨i, m, hi, hm, h1, h2, _⟩ := metQ nm f true h
  simp [method, typeInfo, hi, hm, h1, h2, follow, receiverAt, Place.get, go_sem]
theorem mLess (F a : Nat) (o : Option Addr) (n cap : Nat) (w : World) (hc : w.cell? ⟨a, 0, none⟩ = some (.slice o n cap)) : (method (F + 1) 79 (.pointer (some ⟨a, 0, none⟩)) "Less").run Tryd.prog w = .ok (88, .slice o n cap) w := mVal "Less" _ (by kernel_rfl) F a o n cap w hc
theorem mSwap (F a : Nat) (o : Option Addr) (n cap : Nat) (w : World) (hc : w.cell? ⟨a, 0, none⟩ = some (.slice o n cap)) : (method (F + 1) 79 (.pointer (some ⟨a, 0, none⟩)) "Swap").run Tryd.prog w = .ok (91, .slice o n cap) w := mVal "Swap" _ (by kernel_rfl) F a o n cap w hc
theorem mLen (F a : Nat) (o : Option Addr) (n cap : Nat) (w : World) (hc : w.cell? ⟨a, 0, none⟩ = some (.slice o n cap)) : (method (F + 1) 79 (.pointer (some ⟨a, 0, none⟩)) "Len").run Tryd.prog w = .ok (35, .slice o n cap) w := mVal "Len" _ (by kernel_rfl) F a o n cap w hc
theorem mPush (F : Nat) (v : Value) (w : World) : (method (F + 1) 79 v "Push").run Tryd.prog w = .ok (90, v) w := mPtr "Push" _ (by kernel_rfl) F v w
theorem mPop (F : Nat) (v : Value) (w : World) : (method (F + 1) 79 v "Pop").run Tryd.prog w = .ok (89, v) w := mPtr "Pop" _ (by kernel_rfl) F v w
end Go.Proofs.YtjimiabfgmchiaaDoor
namespace Go.Proofs.YtjimiabfgmchiaaDoor
open Go.RowKit
theorem TH.below {w w' : World} {n : Nat} {f : Nat → Ent} {v : Value} (h : TH w n f v) (hb : Below w.heap.size w w') : TH w' n f v := by
  unfold TH at *
  refine ⟨h.1, ?_⟩
  rcases h.2 with hn | ⟨g, cap, cur, rfl, hb0, hgg, rest⟩
  · exact .inl hn
  · refine .inr ⟨g, cap, cur, rfl, hb0, ?_, rest⟩
    rw [hb.block g (Array.getElem?_eq_some_iff.1 hgg).1]
    exact hgg
theorem grown_belowV {w w' : World} (h : Below w.heap.size w w') (row : Option Nat) : w.grownBy w' row := ⟨h.os, h.tape, h.output, h.size, fun k hk _ => h.block k hk⟩
theorem grown_cellV {w w' : World} {a o g : Nat} {v : Value} (h : w.grownBy w' (some g)) (hc : w.cell? ⟨a, o, none⟩ = some v) (ha : a ≠ g) : w'.cell? ⟨a, o, none⟩ = some v := by
  have e := h.block a (cell_lt hc) (fun e => ha (by cases e; rfl))
  unfold World.cell? at hc ⊢
  simp only [e]
  exact hc
set_option maxRecDepth 100000 in
set_option maxHeartbeats 4000000 in
theorem upH (a N n j : Nat) (g cap : Nat) (h : Nat → Ent) (hj : j < n) (hnN : n ≤ N) (hn : N ≤ 1000) (w : World) (H : TH w N h (.slice (some ⟨g, 0, none⟩) N cap)) (hU : UpAt h n j) (ca : w.cell? ⟨a, 0, none⟩ = some (.slice (some ⟨g, 0, none⟩) N cap)) (hfa : a ≠ g) :
    Calls Tryd.prog 57 #[.iface 79 (.pointer (some ⟨a, 0, none⟩)), .int .i64 j] w fun e w' => e = .returned (.tuple #[]) ∧ ∃ h', TH w' N h' (.slice (some ⟨g, 0, none⟩) N cap) ∧ IsHeap h' n ∧ SameE N h h' ∧ (∀ k, n ≤ k → h' k = h k) ∧ w.grownBy w' (some g) := by
  have H' := hide' H
  have hU' := hide' hU
  clear H hU
  go_enter Tryd.func57, Tryd.ntmps57
  go_wp2
  go_loopw [1] (fun k wr => ∃ (c : Nat) (h' : Nat → Ent), c < n ∧ k = .int .i64 c ∧ TH wr N h' (.slice (some ⟨g, 0, none⟩) N cap) ∧ Hid (UpAt h' n c) ∧ Hid (SameE N h h') ∧ Hid (∀ k, n ≤ k → h' k = h k) ∧ wr.cell? ⟨a, 0, none⟩ = some (.slice (some ⟨g, 0, none⟩) N cap) ∧ w.grownBy wr (some g)) (fun k _ => (intOf k).toNat)
  case atStart => exact ⟨j, h, hj, rfl, H'.out, hU', SameE.refl _ _, fun _ _ => rfl, ca, World.grownBy.refl _ _⟩
  case round =>
    clear H' hU' ca
    obtain ⟨c, h', hc, rfl, H, hU, hS, hT, ca, hM⟩ := hrel
    by_cases h0 : c = 0
    · subst h0
      have H' := hide' H
      have hM' := hide' hM
      clear H hM
      go_wp2
      first | go_end0 | refine bodyPost_ret (results_none rfl _ _ _) rfl ?_
      exact ⟨rfl, h', H'.out, up_done hU.out (.inl rfl), hS.out, hT.out, hM'.out⟩
    · have hp := par_lt (k := c) (by omega)
      have hq : Hid (((c : Int) - 1).tdiv 2 = ((par c : Nat) : Int)) := by show _ = _; unfold par; rw [Int.tdiv_eq_ediv_of_nonneg (by omega)]; omega
      have hbe : (((par c : Nat) : Int) == (c : Int)) = false := by rw [beq_eq_false_iff_ne]; omega
      have K0 := lessT N h' c (par c) (by omega) (by omega) (by omega) g cap wr H
      by_cases hl : ltE (h' c) (h' (par c))
      · have KL : Hid (Calls Tryd.prog 88 #[.slice (some ⟨g, 0, none⟩) N cap, .int .i64 c, .int .i64 (par c : Nat)] wr fun e w' => e = .returned (.bool true) ∧ Below wr.heap.size wr w') := K0.mono fun e w' ⟨⟨b, he, hb⟩, hw⟩ => ⟨by rw [he, hb.2 hl], hw⟩
        have KS : Hid (∀ W, Below wr.heap.size wr W → Calls Tryd.prog 91 #[.slice (some ⟨g, 0, none⟩) N cap, .int .i64 (par c : Nat), .int .i64 c] W fun e w' => e = .returned (.tuple #[]) ∧ TH w' N (swF h' (par c) c) (.slice (some ⟨g, 0, none⟩) N cap) ∧ W.grownBy w' (some g)) := fun W hW => swapT N h' (par c) c (by omega) (by omega) (by omega) g cap W (TH.below H hW)
        have hU2 : Hid (UpAt ((swF h' (par c) c)) n (par c)) := by exact up_step hU.out (by omega) hc hl
        have hS2 : Hid (SameE N h (swF h' (par c) c)) := hS.out.trans (SameE.sw h' (by omega) (by omega))
        have hT2 : Hid (∀ k, n ≤ k → swF h' (par c) c k = h k) := fun k hk => by rw [swF_o h' (by omega) (by omega)]; exact hT.out k hk
        have hM' := hide' hM
        generalize hh2 : swF h' (par c) c = h2 at *
        generalize par c = i at *
        clear hh2 K0 H hM hl
        have hq' := hq.out
        have e1 : (method 228 79 (.pointer (some ⟨a, 0, none⟩)) "Less").run Tryd.prog wr = .ok (88, .slice (some ⟨g, 0, none⟩) N cap) wr := mLess (228 - 1) a _ N cap wr ca
        go_wp2_with (first | (go_at_call 88; refine KL.out.mono ?_; rintro e w1 ⟨rfl, hb⟩; have hb' := hide' hb; have ca1 := cell_over ca hb; have e2 : (method 228 79 (.pointer (some ⟨a, 0, none⟩)) "Swap").run Tryd.prog w1 = .ok (91, .slice (some ⟨g, 0, none⟩) N cap) w1 := mSwap (228 - 1) a _ N cap w1 ca1; clear hb) | (go_at_call 91; refine (KS.out _ hb'.out).mono ?_; rintro e w2 ⟨rfl, H2, hM2⟩; have H2' := hide' H2; have hM2' := hide' hM2; clear H2 hM2))
        have hMx : w.grownBy w2 (some g) := (hM'.out.trans (grown_belowV hb'.out _)).trans hM2'.out
        exact ⟨⟨i, h2, by omega, rfl, H2'.out, hU2, hS2, hT2, grown_cellV hM2'.out ca1 hfa, hMx⟩, by simp [intOf]; omega⟩
      · have KL : Hid (Calls Tryd.prog 88 #[.slice (some ⟨g, 0, none⟩) N cap, .int .i64 c, .int .i64 (par c : Nat)] wr fun e w' => e = .returned (.bool false) ∧ Below wr.heap.size wr w') := K0.mono fun e w' ⟨⟨b, he, hb⟩, hw⟩ => ⟨by
          cases b with
          | true => exact absurd (hb.1 rfl) hl
          | false => exact he, hw⟩
        have hHeap := hide' (up_done hU.out (.inr hl))
        have H' := hide' H
        have hM' := hide' hM
        generalize par c = i at *
        clear K0 H hM hl hU
        have hq' := hq.out
        have e1 : (method 228 79 (.pointer (some ⟨a, 0, none⟩)) "Less").run Tryd.prog wr = .ok (88, .slice (some ⟨g, 0, none⟩) N cap) wr := mLess (228 - 1) a _ N cap wr ca
        go_wp2_with (go_at_call 88; refine KL.out.mono ?_; rintro e w1 ⟨rfl, hb⟩; have hb' := hide' hb; clear hb)
        first | go_end0 | refine bodyPost_ret (results_none rfl _ _ _) rfl ?_
        exact ⟨rfl, h', TH.below H'.out hb'.out, hHeap.out, hS.out, hT.out, hM'.out.trans (grown_belowV hb'.out _)⟩
end Go.Proofs.YtjimiabfgmchiaaDoor

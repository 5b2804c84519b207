/- What comes ahead, by words; marks that a range leaves. -/
import Derived.Test.YtahfobbiaimoiaaGreatDoorRMath
import Derived.Test.YtahfobbiaimoiaaGreatDoorJ01
import Derived.Test.YtahfobbiaimoiaaGreatDoorJ04
import Derived.Test.YtahfobbiaimoiaaGreatDoorJ05
namespace Go.Proofs.YtahfobbiaimoiaaGreatDoor.O
open Go.RowKit Go.Shelf
/-- What stands while the rows are followed. -/
structure FolI (w : World) (go gs n B : Nat) (F : Nat → Nat) (W : World) : Prop where
  hd : W.cell? ⟨go, 1, none⟩ = some (.slice (some ⟨gs, 0, none⟩) n n)
  row : W.ownsRow B 136 1 (.slice (some ⟨gs, 0, none⟩) n n) n (words n F)
  gr : w.grownBy W (some gs)
section
variable {w : World} {go gs n B : Nat} {F G : Nat → Nat} {W W' : World}
theorem FolI.lt (h : FolI w go gs n B F W) : go < W.heap.size := cell_lt h.hd
theorem FolI.over (h : FolI w go gs n B F W) (hb : Below W.heap.size W W') : FolI w go gs n B F W' :=
  ⟨cell_over h.hd hb, h.row.kept (grown_below (none) hb) (.inr (by simp [Value.ownBlock])), grown_trans h.gr (grown_below _ hb)⟩
theorem FolI.congr (h : FolI w go gs n B F W) (e : ∀ i, i < n → F i = G i) : FolI w go gs n B G W := ⟨h.hd, words_congr e ▸ h.row, h.gr⟩
theorem FolI.at (h : FolI w go gs n B F W) {i : Nat} (hi : i < n) : W.cell? ⟨gs, i, none⟩ = some (.int .u64 (F i : Int)) := by
  rw [h.row.cellAt i (by omega)]; exact words_at F hi
theorem FolI.frz (h : FolI w go gs n B F W) (i : Nat) : W.frozen? ⟨gs, i, none⟩ = false := h.row.frozenAt i
theorem FolI.set (h : FolI w go gs n B F W) (hne : go ≠ gs) {a v : Nat} (ha : G a = v) (e : ∀ i, i < n → i ≠ a → F i = G i) : FolI w go gs n B G (W.setCell ⟨gs, a, none⟩ (.int .u64 (v : Int))) := by
  obtain ⟨h1, h2⟩ := h.row.stored a (.int .u64 (v : Int))
  exact ⟨grown_cell h.hd h2 h.lt hne, words_set ha e ▸ h1, grown_trans h.gr h2⟩
end
theorem keepF {W w1 : World} {b0 i0 b1 i1 b2 i2 : Nat} {u0 u1 u2 : Value} (h : W.cell? ⟨b0, i0, none⟩ = some u0 ∧ W.cell? ⟨b1, i1, none⟩ = some u1 ∧ W.cell? ⟨b2, i2, none⟩ = some u2) (hb : Below W.heap.size W w1) :
    w1.cell? ⟨b0, i0, none⟩ = some u0 ∧ w1.cell? ⟨b1, i1, none⟩ = some u1 ∧ w1.cell? ⟨b2, i2, none⟩ = some u2 := ⟨cell_over h.1 hb, cell_over h.2.1 hb, cell_over h.2.2 hb⟩
theorem keepS {V : World} {go gs a k b v y : Nat} {u0 u1 : Value} (hne : go ≠ gs) (hb : b ≠ gs) (hv : a = k → v = y) (h : V.cell? ⟨go, 1, none⟩ = some u0 ∧ V.cell? ⟨b, 0, none⟩ = some u1 ∧ V.cell? ⟨gs, k, none⟩ = some (.int .u64 (y : Int))) :
    (V.setCell ⟨gs, a, none⟩ (.int .u64 (v : Int))).cell? ⟨go, 1, none⟩ = some u0 ∧ (V.setCell ⟨gs, a, none⟩ (.int .u64 (v : Int))).cell? ⟨b, 0, none⟩ = some u1 ∧ (V.setCell ⟨gs, a, none⟩ (.int .u64 (v : Int))).cell? ⟨gs, k, none⟩ = some (.int .u64 (y : Int)) := by
  refine ⟨?_, ?_, ?_⟩
  · rw [World.cell?_setCell_other _ _ _ _ (by intro e; injection e with e1; exact hne e1.symm)]; exact h.1
  · rw [World.cell?_setCell_other _ _ _ _ (by intro e; injection e with e1; exact hb e1.symm)]; exact h.2.1
  · by_cases e : a = k
    · subst e; rw [World.cell?_setCell_same _ _ _ h.2.2, hv rfl]
    · rw [World.cell?_setCell_other _ _ _ _ (by intro e'; injection e' with _ e2; exact e e2)]; exact h.2.2
set_option maxRecDepth 100000 in
set_option maxHeartbeats 1000000 in
theorem followP (w : World) (go gs n B : Nat) (F : Nat → Nat) (hn : n ≤ 64) (hne : go ≠ gs) (hF : ∀ i, i < n → F i < 18446744073709551616) (h0 : FolI w go gs n B F w) :
    Calls Tryz.prog 168 #[.pointer (some ⟨go, 0, none⟩)] w fun e w' => (∃ v, e = .returned v) ∧ FolI w go gs n B (wclo n F) w' := by
  have hd0 := h0.hd
  go_enter Tryz.func168, Tryz.ntmps168
  go_wp2
  go_loopw [10] (fun p wr => ∃ k : Nat, k ≤ n ∧ p = .int .i64 k ∧ FolI w go gs n B (wclo k F) wr) (fun p _ => ((n : Int) - intOf p).toNat)
  case atStart => exact ⟨0, Nat.zero_le _, rfl, h0⟩
  case round =>
    clear h0 hd0
    obtain ⟨k, hk, rfl, hI⟩ := hrel
    by_cases hlt : k < n
    · have hb64 := wclo_lt hF k hk
      have hcl : Hid (wturn k (wclo k F) = wclo (k + 1) F) := rfl
      generalize wclo k F = S at *
      have hd1 := hI.hd
      go_wp2
      go_loopw [18] (fun p wv => ∃ a : Nat, a ≤ n ∧ p = .int .i64 a ∧ FolI w go gs n B (wmid k a S) wv) (fun p _ => ((n : Int) - intOf p).toNat)
      case atStart => exact ⟨0, Nat.zero_le _, rfl, hI.congr fun i _ => (wmid_zero k S i).symm⟩
      case round =>
        clear hI hd1
        obtain ⟨a, ha, rfl, hJ⟩ := hrel
        by_cases hla : a < n
        · have c1 := hJ.hd
          have c2 := hJ.at hla
          rw [wmid_here] at c2
          have hSa := hb64 a hla
          have hSk := hb64 k hlt
          have hJ1 := hJ.over ((Below.refl _ _).alloc (Nat.le_refl _) (.cells #[.int .u64 (S a : Int)] 136))
          have hHas : Hid (∀ W, Calls Tryz.prog 169 #[.agg #[.int .u64 (S a : Int)], .int .i64 k] W fun e w' => e = .returned (.bool ((S a).testBit k)) ∧ Below W.heap.size W w') := fun W => by
            have := has64 (S a) hSa (k : Int) W
            simpa using this
          by_cases ht : (S a).testBit k = true
          · rw [ht] at hHas
            have hgs : gs < wr.heap.size := cell_lt (hJ.at hla)
            have hak : Hid (a = k → S a ||| S k = S k) := fun e => by rw [e, Nat.or_self]
            have KO := hide' (or64 (S a) (S k) hSa hSk)
            have hend : Hid (∀ V, FolI w go gs n B (wmid k a S) V → FolI w go gs n B (wmid k (a + 1) S) (V.setCell ⟨gs, a, none⟩ (.int .u64 ((S a ||| S k : Nat) : Int)))) := fun V hV => hV.set hne (by rw [wmid_done]; unfold wturn; rw [if_pos ht]) fun i _ e => wmid_next S e
            have hmk : Hid (wmid k a S k = S k) := wmid_mid k a S
            have hma : Hid (wmid k a S a = S a) := wmid_here k a S
            have hJ1' := hide' hJ1
            clear hJ hJ1 ht hb64
            generalize hor : S a ||| S k = z at *
            clear hor
            generalize S a = x at *
            generalize S k = y at *
            go_wp2_with (go_at_call 169; refine (hHas.out _).mono ?_; rintro e w2 ⟨rfl, hb2⟩; have hJ2 := hJ1'.out.over hb2; have z2 := hb2.size; have d1 := hJ2.hd; have d2 : w2.cell? ⟨wr.heap.size, 0, none⟩ = some (.int .u64 (x : Int)) := ((hb2.cell (p := ⟨wr.heap.size, 0, none⟩) (by simp)).trans (by simp)); have d3 := hJ2.at hlt; rw [hmk.out] at d3)
            have hI2 := hide' hJ2
            simp only [World.size_alloc] at z2
            clear hJ2 hb2 hJ1' c1 c2 hHas
            have hi0 : Hid (w2.drew.cell? ⟨go, 1, none⟩ = some (.slice (some ⟨gs, 0, none⟩) n n) ∧ w2.drew.cell? ⟨wr.heap.size, 0, none⟩ = some (.int .u64 (x : Int)) ∧ w2.drew.cell? ⟨gs, k, none⟩ = some (.int .u64 (y : Int))) := ⟨d1, d2, d3⟩
            go_region_held3 (fun V => V.cell? ⟨go, 1, none⟩ = some (.slice (some ⟨gs, 0, none⟩) n n) ∧ V.cell? ⟨wr.heap.size, 0, none⟩ = some (.int .u64 (x : Int)) ∧ V.cell? ⟨gs, k, none⟩ = some (.int .u64 (y : Int))) (first | (exact keepS hne (by omega) hak.out (by assumption)) | (exact keepF (by assumption) hb3) | (exact hi0.out)) (first | (go_at_call 95; refine (KO.out _).mono ?_; rintro e w3 ⟨rfl, hb3⟩; have hI3 := hide' ((hI2.out.over (Below.refl _ w2).drew).over hb3); have c3 := hI3.out.at hla; rw [hma.out] at c3; have f3 := hI3.out.frz a))
            go_wp2
            go_roundw
            case rel => exact ⟨a + 1, by omega, by go_num, hend.out _ hI3.out⟩
            case measure => simp [intOf]; omega
          · have hf : (S a).testBit k = false := by simpa using ht
            rw [hf] at hHas
            have hJ2 : Hid _ := (hJ1.congr (G := wmid k (a + 1) S) fun i _ => by
              by_cases e : i = a
              · subst e; rw [wmid_here, wmid_done]; unfold wturn; rw [if_neg ht]
              · exact wmid_next S e)
            clear hJ hJ1 ht hf
            go_wp2_with (go_at_call 169; refine (hHas.out _).mono ?_; rintro e w2 ⟨rfl, hb2⟩)
            go_roundw
            case rel => exact ⟨a + 1, by omega, by go_num, hJ2.out.over hb2⟩
            case measure => simp [intOf]; omega
        · obtain rfl : a = n := by omega
          go_wp2
          go_roundw
          case rel => exact ⟨k + 1, by omega, by go_num, hJ.congr fun i hi => by rw [wmid_end S hi, hcl.out]⟩
          case measure => simp [intOf]; omega
    · obtain rfl : k = n := by omega
      go_wp2
      go_end0
      exact ⟨⟨_, rfl⟩, hI⟩
end Go.Proofs.YtahfobbiaimoiaaGreatDoor.O
namespace Go.Proofs.YtahfobbiaimoiaaGreatDoor.O
open Go.RowKit Go.Shelf
/-- A row of pairs, as it is read. -/
def PairsAt (W : World) (v : Value) (L : List (Int × Int)) : Prop :=
  ∃ oa cap, v = .slice oa L.length cap ∧ (L.length ≤ cap ∧ (oa = none → cap = 0)) ∧ ∀ (i : Nat) (p : Int × Int), L[i]? = some p → ∃ g o, oa = some ⟨g, o, none⟩ ∧ W.cell? ⟨g, o + i * 2, none⟩ = some (.int .i64 p.1) ∧ W.cell? ⟨g, o + i * 2 + 1, none⟩ = some (.int .i64 p.2)
theorem PairsAt.over {W W' : World} {v : Value} {L : List (Int × Int)} (h : PairsAt W v L) (hb : Below W.heap.size W W') : PairsAt W' v L := by
  obtain ⟨oa, cap, h1, h2, h3⟩ := h
  refine ⟨oa, cap, h1, h2, fun i p hp => ?_⟩
  obtain ⟨g, o, e, c1, c2⟩ := h3 i p hp
  exact ⟨g, o, e, cell_over c1 hb, cell_over c2 hb⟩
/-- Are both places? -/
def okP (n : Int) (p : Int × Int) : Prop := (0 ≤ p.1 ∧ p.1 < n) ∧ (0 ≤ p.2 ∧ p.2 < n)
/-- Can an order be asked for? -/
def goodP (n : Int) (L : List (Int × Int)) : Prop := (0 ≤ n ∧ n ≤ 64) ∧ ∀ p ∈ L, okP n p
/-- What the pairs say. -/
def relL (L : List (Int × Int)) (a b : Nat) : Bool := decide (((a : Int), (b : Int)) ∈ L)
/-- What rows of pairs say. -/
def ordL (n : Nat) (L : List (Int × Int)) : Nat → Nat → Bool := clo n (relL L)
def cycL (n : Nat) (L : List (Int × Int)) : Prop := ∃ a, a < n ∧ ordL n L a a = true
theorem relL_in {n : Nat} {L : List (Int × Int)} (h : ∀ p ∈ L, okP n p) (a b : Nat) (e : relL L a b = true) : a < n ∧ b < n := by
  have := h _ (of_decide_eq_true e)
  unfold okP at this
  simp only [] at this
  omega
theorem ordL_in {n : Nat} {L : List (Int × Int)} (h : ∀ p ∈ L, okP n p) (a b : Nat) (e : ordL n L a b = true) : a < n ∧ b < n := clo_in (relL_in h) n a b e
/-- What the first c pairs lay into the words. -/
def sucP (L : List (Int × Int)) (c a : Nat) : Nat := (L.take c).foldl (fun acc p => if p.1 = (a : Int) then acc ||| 2 ^ p.2.toNat else acc) 0
theorem sucP_zero (L : List (Int × Int)) (a : Nat) : sucP L 0 a = 0 := rfl
theorem take_snocP {α : Type} {l : List α} {c : Nat} {x : α} (h : l[c]? = some x) : l.take (c + 1) = l.take c ++ [x] := by
  rw [List.take_add_one, h]; rfl
theorem sucP_snoc {L : List (Int × Int)} {c : Nat} {p : Int × Int} (h : L[c]? = some p) (a : Nat) : sucP L (c + 1) a = if p.1 = (a : Int) then sucP L c a ||| 2 ^ p.2.toNat else sucP L c a := by
  unfold sucP
  rw [take_snocP h, List.foldl_append]
  rfl
theorem foldP_lt {n : Nat} (hn : n ≤ 64) (a : Nat) : ∀ (l : List (Int × Int)) (acc : Nat), (∀ p ∈ l, okP n p) → acc < 18446744073709551616 → l.foldl (fun acc p => if p.1 = (a : Int) then acc ||| 2 ^ p.2.toNat else acc) acc < 18446744073709551616
  | [], acc, _, h => h
  | p :: l, acc, hl, h => by
    refine foldP_lt hn a l _ (fun q hq => hl q (by simp [hq])) ?_
    have := hl p (by simp)
    unfold okP at this
    dsimp only
    split
    · exact Nat.or_lt_two_pow (n := 64) h (Nat.lt_of_lt_of_le (Nat.pow_lt_pow_right (by decide) (show p.2.toNat < 64 by omega)) (by decide))
    · exact h
theorem sucP_lt {n : Nat} {L : List (Int × Int)} (hn : n ≤ 64) (h : ∀ p ∈ L, okP n p) (c a : Nat) : sucP L c a < 18446744073709551616 :=
  foldP_lt hn a _ 0 (fun p hp => h p (List.mem_of_mem_take hp)) (by decide)
theorem foldP_bits (a b : Nat) : ∀ (l : List (Int × Int)) (acc : Nat), (∀ p ∈ l, 0 ≤ p.2) → (l.foldl (fun acc p => if p.1 = (a : Int) then acc ||| 2 ^ p.2.toNat else acc) acc).testBit b = (acc.testBit b || decide (((a : Int), (b : Int)) ∈ l))
  | [], acc, _ => by simp
  | p :: l, acc, hl => by
    rw [List.foldl_cons, foldP_bits a b l _ (fun q hq => hl q (by simp [hq]))]
    have hp := hl p (by simp)
    obtain ⟨x, y⟩ := p
    simp only [] at hp ⊢
    by_cases e : x = (a : Int)
    · rw [if_pos e, Nat.testBit_or, Nat.testBit_two_pow]
      by_cases e2 : y = (b : Int)
      · subst e e2; simp
      · have : ¬ y.toNat = b := by omega
        have h3 : ¬ (b : Int) = y := fun h => e2 h.symm
        simp [this, h3]
    · have h3 : ¬ (a : Int) = x := fun h => e h.symm
      rw [if_neg e]; simp [h3]
theorem sucP_bits {n : Nat} {L : List (Int × Int)} (h : ∀ p ∈ L, okP n p) (a b : Nat) : (sucP L L.length a).testBit b = relL L a b := by
  unfold sucP
  rw [List.take_length, foldP_bits a b L 0 (fun p hp => (h p hp).2.1), Nat.zero_testBit]
  simp [relL]
end Go.Proofs.YtahfobbiaimoiaaGreatDoor.O
namespace Go.Proofs.YtahfobbiaimoiaaGreatDoor
/-- A step, and a flow, told plainly. -/
structure Sp where
  name : ByteArray
  duty : ByteArray
  after : List Int
structure Fw where
  name : ByteArray
  steps : List Sp
  rules : List Rl
def lg (b : ByteArray) : Bool := L.legalT b.data.toList
/-- The number of the first step of that name, from k on; -1: none. -/
def fnd : List Sp → ByteArray → Nat → Int
  | [], _, _ => -1
  | s :: t, b, k => if s.name = b then (k : Int) else fnd t b (k + 1)
theorem fnd_skip {L : List Sp} {b : ByteArray} {n : Nat} (h : ∀ i s, i < n → L[i]? = some s → s.name ≠ b) : n ≤ L.length → ∀ k, fnd L b k = fnd (L.drop n) b (k + n) := by
  induction n generalizing L with
  | zero => intro _ k; simp
  | succ n ih =>
    intro hn k
    cases L with
    | nil => simp at hn
    | cons s t =>
      have h0 := h 0 s (by omega) rfl
      have := ih (L := t) (fun i s' hi hs => h (i + 1) s' (by omega) (by simpa using hs)) (by simpa using hn) (k + 1)
      rw [fnd, if_neg h0, this]
      simp
      congr 1
      omega
theorem fnd_here {L : List Sp} {b : ByteArray} {n : Nat} {s : Sp} (h : ∀ i s, i < n → L[i]? = some s → s.name ≠ b) (hs : L[n]? = some s) (e : s.name = b) : fnd L b 0 = n := by
  have hn := (List.getElem?_eq_some_iff.1 hs).1
  rw [fnd_skip h (by omega) 0]
  rw [List.drop_eq_getElem_cons hn, fnd, if_pos (by rw [← e]; congr 1; exact (List.getElem?_eq_some_iff.1 hs).2)]
  omega
theorem fnd_none {L : List Sp} {b : ByteArray} (h : ∀ i s, i < L.length → L[i]? = some s → s.name ≠ b) : fnd L b 0 = -1 := by
  rw [fnd_skip h (Nat.le_refl _) 0, List.drop_length, fnd]
/-- What is wrong with a step. -/
def stE (L : List Sp) (i : Nat) (s : Sp) : Int :=
  if (lg s.name && lg s.duty) = false then 4 else if fnd L s.name 0 < (i : Int) then 5 else if ris (L.length : Int) 0 s.after = false then 1 else 0
/-- The first fault of the first k steps. -/
def fstE (L : List Sp) : Nat → Int
  | 0 => 0
  | k + 1 => if fstE L k = 0 then (match L[k]? with | some s => stE L k s | none => 0) else fstE L k
theorem fstE_at {L : List Sp} {k : Nat} {s : Sp} (h : fstE L k = 0) (hs : L[k]? = some s) : fstE L (k + 1) = stE L k s := by
  rw [fstE, if_pos h, hs]
theorem fstE_stop {L : List Sp} {k : Nat} (h : fstE L k ≠ 0) : ∀ n, k ≤ n → fstE L n = fstE L k := by
  intro n hn
  induction n with
  | zero => rw [show k = 0 by omega]
  | succ n ih =>
    by_cases e : k = n + 1
    · rw [e]
    · have := ih (by omega)
      rw [fstE, this, if_neg h]
theorem fstE_zero {L : List Sp} {n : Nat} (h : fstE L n = 0) : ∀ i s, i < n → L[i]? = some s → stE L i s = 0 := by
  intro i s hi hs
  have h1 : fstE L i = 0 := Classical.byContradiction fun hne => hne (by rw [← fstE_stop hne n (by omega)]; exact h)
  have h2 : fstE L (i + 1) = 0 := Classical.byContradiction fun hne => hne (by rw [← fstE_stop hne n (by omega)]; exact h)
  rw [fstE_at h1 hs] at h2
  exact h2
theorem stE_ris {L : List Sp} {i : Nat} {s : Sp} (h : stE L i s = 0) : ris (L.length : Int) 0 s.after = true := by
  unfold stE at h
  split at h
  · cases h
  · split at h
    · cases h
    · split at h
      · cases h
      · rename_i h3; simpa using h3
/-- The pairs of the first k steps. -/
def prT (L : List Sp) : Nat → List (Int × Int)
  | 0 => []
  | k + 1 => prT L k ++ (match L[k]? with | some s => s.after.map fun a => (a, (k : Int)) | none => [])
theorem prT_at {L : List Sp} {k : Nat} {s : Sp} (hs : L[k]? = some s) : prT L (k + 1) = prT L k ++ s.after.map fun a => (a, (k : Int)) := by rw [prT, hs]
theorem prT_mem {L : List Sp} {p : Int × Int} : ∀ {k : Nat}, p ∈ prT L k → ∃ i s, i < k ∧ L[i]? = some s ∧ p.1 ∈ s.after ∧ p.2 = (i : Int)
  | 0, h => by cases h
  | k + 1, h => by
    rw [prT] at h
    rcases List.mem_append.1 h with h | h
    · obtain ⟨i, s, h1, h2⟩ := prT_mem h
      exact ⟨i, s, by omega, h2⟩
    · cases hs : L[k]? with
      | none => rw [hs] at h; cases h
      | some s =>
        rw [hs] at h
        obtain ⟨a, ha, rfl⟩ := List.mem_map.1 h
        exact ⟨k, s, by omega, hs, ha, rfl⟩
theorem prT_len {L : List Sp} {m : Nat} (h : ∀ s ∈ L, s.after.length ≤ m) : ∀ k, (prT L k).length ≤ k * m
  | 0 => by simp [prT]
  | k + 1 => by
    rw [prT, List.length_append, Nat.succ_mul]
    have := prT_len h k
    cases hs : L[k]? with
    | none => simp; omega
    | some s => have := h s (List.mem_of_getElem? hs); simp; omega
def prs (L : List Sp) : List (Int × Int) := prT L L.length
theorem prs_good {L : List Sp} (hn : L.length ≤ 64) (h : fstE L L.length = 0) : O.goodP (L.length : Int) (prs L) := by
  refine ⟨⟨by omega, by omega⟩, fun p hp => ?_⟩
  obtain ⟨i, s, hi, hs, ha, hb⟩ := prT_mem hp
  have hr := ris_mem (stE_ris (fstE_zero h i s hi hs)) _ ha
  exact ⟨⟨by omega, by omega⟩, ⟨by omega, by omega⟩⟩
open Classical in
/-- What is wrong with a flow. -/
noncomputable def chkF (F : Fw) : Int :=
  if lg F.name = false then 4 else if 12 < F.steps.length then 2 else if F.steps.length = 0 then 1 else
  if fstE F.steps F.steps.length ≠ 0 then fstE F.steps F.steps.length else
  if 32 < F.rules.length then 2 else if F.rules.all (chk (F.steps.length : Int)) = false then 1 else
  if O.cycL F.steps.length (prs F.steps) then 6 else 0
structure FlOk (F : Fw) : Prop where
  nm : lg F.name = true
  le : F.steps.length ≤ 12
  ne : F.steps.length ≠ 0
  st : fstE F.steps F.steps.length = 0
  rl : F.rules.length ≤ 32
  ru : F.rules.all (chk (F.steps.length : Int)) = true
  cy : ¬ O.cycL F.steps.length (prs F.steps)
theorem chkF_ok {F : Fw} (h : FlOk F) : chkF F = 0 := by
  unfold chkF
  rw [if_neg (by rw [h.nm]; decide), if_neg (by have := h.le; omega), if_neg h.ne, if_neg (by rw [h.st]; decide), if_neg (by have := h.rl; omega), if_neg (by rw [h.ru]; decide), if_neg h.cy]
theorem chkF_zero {F : Fw} (h : chkF F = 0) : FlOk F := by
  unfold chkF at h
  split at h
  · cases h
  · rename_i h1
    split at h
    · cases h
    · rename_i h2
      split at h
      · cases h
      · rename_i h3
        split at h
        · rename_i h4; exact absurd h h4
        · rename_i h4
          split at h
          · cases h
          · rename_i h5
            split at h
            · cases h
            · rename_i h6
              split at h
              · cases h
              · rename_i h7
                exact ⟨by simpa using h1, by omega, h3, Classical.not_not.1 h4, by omega, by simpa using h6, h7⟩
/-- How long its rows are. -/
structure FlB (F : Fw) : Prop where
  nm : F.name.size ≤ 9223372036854775807
  sl : F.steps.length ≤ 1000
  st : ∀ s ∈ F.steps, s.after.length ≤ 30 ∧ s.name.size ≤ 9223372036854775807 ∧ s.duty.size ≤ 9223372036854775807
  rl : F.rules.length ≤ 1000
  ru : ∀ r ∈ F.rules, r.steps.length ≤ 30
end Go.Proofs.YtahfobbiaimoiaaGreatDoor
namespace Go.Proofs.YtahfobbiaimoiaaGreatDoor.O
theorem orAll_bits (F : Nat → Nat) (i : Nat) : ∀ (l : List (Fin 64)), (orAll F l).testBit i = l.any fun k => (F k.val).testBit i := by
  intro l
  unfold orAll
  suffices h : ∀ acc, (l.foldl (fun acc k => acc ||| F k.val) acc).testBit i = (acc.testBit i || l.any fun k => (F k.val).testBit i) by rw [h 0]; simp
  induction l with
  | nil => intro acc; simp
  | cons a l ih => intro acc; rw [List.foldl_cons, ih, Nat.testBit_or, List.any_cons, Bool.or_assoc]
theorem rdF_bits (Pf : Nat → Nat) (d k i : Nat) : (rdF Pf d k).testBit i = ((Pf k &&& (18446744073709551615 - d) == 0) && decide (k = i)) := by
  unfold rdF
  cases h : (Pf k &&& (18446744073709551615 - d) == 0) with
  | true => rw [if_pos rfl, Nat.testBit_two_pow]; simp
  | false => rw [if_neg (by simp)]; simp
theorem not_bits {d i : Nat} (hd : d < 18446744073709551616) (hi : i < 64) : (18446744073709551615 - d).testBit i = !d.testBit i := by
  have e : 18446744073709551615 - d = 2 ^ 64 - (d + 1) := by omega
  rw [e, Nat.testBit_two_pow_sub_succ (show d < 2 ^ 64 from hd)]
  simp [hi]
section
variable {n : Nat} {R : Nat → Nat → Bool} {Pf Sf : Nat → Nat}
theorem Ord.rdW_bits (h : Ord n R Pf Sf) {d : Nat} (hd : d < 18446744073709551616) (a : Nat) : (rdW n Pf d).testBit a = true ↔ rdy n R d a := by
  unfold rdW rdy
  rw [orAll_bits, List.any_eq_true]
  constructor
  · rintro ⟨k, hk, e⟩
    rw [rdF_bits, Bool.and_eq_true, decide_eq_true_eq] at e
    obtain ⟨e1, rfl⟩ := e
    have hkn := in_all hk
    rw [mem_nums, Nat.testBit_and, Bool.and_eq_true, not_bits hd k.isLt] at hk
    refine ⟨hkn, by simpa using hk.2, fun b hb => ?_⟩
    rw [sub_bits (h.pre_lt hkn) hd] at e1
    exact e1 b (by rw [h.pre k.val hkn]; exact hb)
  · rintro ⟨h1, h2, h3⟩
    have h64 : a < 64 := Nat.lt_of_lt_of_le h1 h.n64
    refine ⟨⟨a, h64⟩, ?_, ?_⟩
    · rw [mem_nums, Nat.testBit_and, Nat.testBit_two_pow_sub_one, not_bits hd h64]
      simp [h1, h2]
    · rw [rdF_bits, Bool.and_eq_true, decide_eq_true_eq]
      refine ⟨?_, rfl⟩
      rw [sub_bits (h.pre_lt h1) hd]
      intro i hi
      rw [h.pre a h1] at hi
      exact h3 i hi
theorem Ord.rdW_lt (h : Ord n R Pf Sf) {d : Nat} (hd : d < 18446744073709551616) : rdW n Pf d < 18446744073709551616 :=
  small64 h.n64 fun i hi => ((h.rdW_bits hd i).1 hi).1
theorem down_lt (hn : n ≤ 64) {d : Nat} (h : isDown n R d) : d < 18446744073709551616 := small64 hn fun i hi => h.1 i hi
theorem Ord.dnB_true (h : Ord n R Pf Sf) {d : Nat} (hd : isDown n R d) : dnB n Pf d = true := by
  have hlt := down_lt h.n64 hd
  unfold dnB
  rw [Bool.and_eq_true]
  constructor
  · rw [sub_bits hlt (allw_lt h.n64)]
    intro i hi
    rw [Nat.testBit_two_pow_sub_one]
    simpa using hd.1 i hi
  · rw [sub_bits (orAll_lt fun k hk => h.pre_lt (hd.1 k.val ((mem_nums _ _).1 hk))) hlt]
    intro i hi
    rw [orAll_bits, List.any_eq_true] at hi
    obtain ⟨k, hk, e⟩ := hi
    have hk' := (mem_nums _ _).1 hk
    rw [h.pre k.val (hd.1 _ hk')] at e
    exact hd.2 k.val i hk' e
theorem down_zero : isDown n R 0 := ⟨fun a h => by simp at h, fun a b h => by simp at h⟩
theorem down_add {d a : Nat} (h : isDown n R d) (ha : rdy n R d a) : isDown n R (d ||| 2 ^ a) := by
  refine ⟨fun i hi => ?_, fun i b hi hb => ?_⟩
  · rw [Nat.testBit_or, Nat.testBit_two_pow] at hi
    rcases Bool.or_eq_true _ _ ▸ hi with h1 | h1
    · exact h.1 i h1
    · have : a = i := by simpa using h1
      subst this; exact ha.1
  · rw [Nat.testBit_or, Nat.testBit_two_pow] at hi ⊢
    rcases Bool.or_eq_true _ _ ▸ hi with h1 | h1
    · rw [h.2 i b h1 hb]; rfl
    · have : a = i := by simpa using h1
      subst this
      rw [ha.2.2 b hb]; rfl
/-- Where what is asked for next stands, going up and round. -/
theorem Ord.ready_ne (h : Ord n R Pf Sf) {d : Nat} (hd : d < 18446744073709551616) (hc : cnt n d < n) : ∃ b, b < 64 ∧ (rdW n Pf d).testBit b = true := by
  obtain ⟨a, ha, hda⟩ := cnt_some hc
  obtain ⟨b, hb⟩ := h.some_ready (Pf a) a (Nat.le_refl _) ha hda
  exact ⟨b, Nat.lt_of_lt_of_le hb.1 h.n64, (h.rdW_bits hd b).2 hb⟩
theorem Ord.ready_off (h : Ord n R Pf Sf) {d : Nat} (hd : d < 18446744073709551616) : rdW n Pf d &&& d = 0 := by
  apply Nat.eq_of_testBit_eq
  intro i
  rw [Nat.testBit_and, Nat.zero_testBit]
  cases e : (rdW n Pf d).testBit i with
  | false => rfl
  | true => rw [((h.rdW_bits hd i).1 e).2.1]; rfl
theorem Ord.pre_in (h : Ord n R Pf Sf) {d a : Nat} (hd : d < 18446744073709551616) (ha : rdy n R d a) : Pf a &&& (18446744073709551615 - d) = 0 := by
  have := (sub_bits (h.pre_lt ha.1) hd).2 (fun i hi => ha.2.2 i (by rw [← h.pre a ha.1]; exact hi))
  simpa using this
theorem Ord.suc_off (h : Ord n R Pf Sf) {d a : Nat} (hd : isDown n R d) (ha : rdy n R d a) : Sf a &&& d = 0 := by
  apply Nat.eq_of_testBit_eq
  intro i
  rw [Nat.testBit_and, Nat.zero_testBit, h.suc a ha.1]
  cases e : R a i with
  | false => rfl
  | true =>
    cases e2 : d.testBit i with
    | false => rfl
    | true =>
      have := hd.2 i a e2 e
      rw [ha.2.1] at this
      cases this
theorem Ord.ready_full (h : Ord n R Pf Sf) {d : Nat} (hd : d < 18446744073709551616) (hc : cnt n d = n) : rdW n Pf d = 0 := by
  apply Nat.eq_of_testBit_eq
  intro i
  rw [Nat.zero_testBit]
  cases e : (rdW n Pf d).testBit i with
  | false => rfl
  | true =>
    have hr := (h.rdW_bits hd i).1 e
    have h2 := hr.2.1
    rw [cnt_full hc i hr.1] at h2
    cases h2
end
/-- The way from a up and round to b. -/
def way (a b : Nat) : Nat := (b + 64 - a) % 64
theorem way_step {a b : Nat} (ha : a < 64) (hb : b < 64) (h : a ≠ b) : way ((a + 1) % 64) b < way a b := by
  unfold way
  omega
end Go.Proofs.YtahfobbiaimoiaaGreatDoor.O
namespace Go.Proofs.YtahfobbiaimoiaaGreatDoor.O
open Go.RowKit Go.Shelf
/-- What the first k rows lay into the words of what comes ahead. -/
def prP (S : Nat → Nat) (k b : Nat) : Nat := (List.range k).foldl (fun acc a => if (S a).testBit b = true then acc ||| 2 ^ a else acc) 0
theorem prP_zero (S : Nat → Nat) (b : Nat) : prP S 0 b = 0 := rfl
theorem prP_snoc (S : Nat → Nat) (k b : Nat) : prP S (k + 1) b = if (S k).testBit b = true then prP S k b ||| 2 ^ k else prP S k b := by
  unfold prP
  rw [List.range_succ, List.foldl_append]
  rfl
theorem prP_bits (S : Nat → Nat) (b a : Nat) : ∀ k, (prP S k b).testBit a = (decide (a < k) && (S a).testBit b)
  | 0 => by simp [prP_zero]
  | k + 1 => by
    rw [prP_snoc]
    have ih := prP_bits S b a k
    by_cases e : a = k
    · subst e
      have h0 : decide (a < a) = false := by simp
      rw [h0, Bool.false_and] at ih
      cases h : (S a).testBit b with
      | true => rw [if_pos rfl, Nat.testBit_or, ih, Nat.testBit_two_pow]; simp
      | false => rw [if_neg (by simp), ih]; simp
    · have hd : decide (a < k + 1) = decide (a < k) := by
        by_cases h : a < k
        · simp [h]; omega
        · simp [h]; omega
      have hp : (2 ^ k).testBit a = false := by rw [Nat.testBit_two_pow]; simp; omega
      cases h : (S k).testBit b with
      | true => rw [if_pos rfl, Nat.testBit_or, ih, hp, hd]; simp
      | false => rw [if_neg (by simp), ih, hd]
theorem prP_lt (S : Nat → Nat) {k : Nat} (hk : k ≤ 64) (b : Nat) : prP S k b < 18446744073709551616 :=
  small64 hk fun i hi => by
    rw [prP_bits] at hi
    simp only [Bool.and_eq_true, decide_eq_true_eq] at hi
    exact hi.1
/-- Row k under way. -/
def midP (S : Nat → Nat) (k : Nat) (pre : List (Fin 64)) (b : Nat) : Nat := if (pre.any fun j => j.val == b) = true then prP S k b ||| 2 ^ k else prP S k b
theorem midP_nil (S : Nat → Nat) (k b : Nat) : midP S k [] b = prP S k b := rfl
theorem midP_here (S : Nat → Nat) (k : Nat) (pre : List (Fin 64)) (j : Fin 64) : midP S k (pre ++ [j]) j.val = midP S k pre j.val ||| 2 ^ k := by
  unfold midP
  rw [if_pos (by simp)]
  split
  · rw [Nat.or_assoc, Nat.or_self]
  · rfl
theorem midP_other (S : Nat → Nat) (k : Nat) (pre : List (Fin 64)) (j : Fin 64) {i : Nat} (h : i ≠ j.val) : midP S k pre i = midP S k (pre ++ [j]) i := by
  unfold midP
  have : ((pre ++ [j]).any fun x => x.val == i) = (pre.any fun x => x.val == i) := by
    rw [List.any_append]
    have : (j.val == i) = false := by simp; omega
    simp [this]
  rw [this]
theorem midP_lt (S : Nat → Nat) {k : Nat} (hk : k < 64) (pre : List (Fin 64)) (b : Nat) : midP S k pre b < 18446744073709551616 := by
  unfold midP
  split
  · exact Nat.or_lt_two_pow (n := 64) (prP_lt S (by omega) b) (Nat.pow_lt_pow_right (by decide) hk)
  · exact prP_lt S (by omega) b
theorem midP_end (S : Nat → Nat) (k : Nat) {b : Nat} (hb : b < 64) : midP S k (nums (S k)) b = prP S (k + 1) b := by
  rw [prP_snoc]
  unfold midP
  have : ((nums (S k)).any fun j => j.val == b) = (S k).testBit b := by
    rw [Bool.eq_iff_iff, List.any_eq_true]
    constructor
    · rintro ⟨j, hj, e⟩
      rw [mem_nums] at hj
      have : j.val = b := by simpa using e
      rwa [this] at hj
    · intro h
      exact ⟨⟨b, hb⟩, (mem_nums _ _).2 h, by simp⟩
  rw [this]
/-- What a range leaves among the deferred calls. -/
def mark (D : Nat) : Deferred := { target := .collected D, args := #[] }
/-- Marks whose blocks hold no calls. -/
structure Marks (B : Nat) (Ds : List Nat) (W : World) : Prop where
  nd : Ds.Nodup
  ge : ∀ D ∈ Ds, B ≤ D
  at' : ∀ D ∈ Ds, W.heap[D]? = some (.deferred (some []))
theorem Marks.lt {B : Nat} {Ds : List Nat} {W : World} (h : Marks B Ds W) : ∀ D ∈ Ds, D < W.heap.size := fun D hD => (Array.getElem?_eq_some_iff.1 (h.at' D hD)).1
theorem Marks.nil (B : Nat) (W : World) : Marks B [] W := ⟨List.nodup_nil, fun D h => (by cases h), fun D h => (by cases h)⟩
theorem Marks.keeps {B : Nat} {Ds : List Nat} {W W' : World} (h : Marks B Ds W) (hk : KeepsOthers W W') : Marks B Ds W' := ⟨h.nd, h.ge, fun D hD => hk.same D _ (h.at' D hD) rfl⟩
theorem Marks.grown {B C : Nat} {Ds : List Nat} {W W' : World} {row : Option Nat} (h : Marks B Ds W) (hg : W.grownBy W' row) (hr : ∀ r, row = some r → C ≤ r) (hC : ∀ D ∈ Ds, D < C) : Marks B Ds W' :=
  ⟨h.nd, h.ge, fun D hD => (hg.block D (h.lt D hD) (fun e => by have := hr D e.symm; have := hC D hD; omega)).trans (h.at' D hD)⟩
theorem Marks.cons {B D : Nat} {Ds : List Nat} {W : World} (h : Marks B Ds W) (hD : W.heap[D]? = some (.deferred (some []))) (hB : B ≤ D) (hne : ∀ E ∈ Ds, E < D) : Marks B (D :: Ds) W := by
  refine ⟨List.nodup_cons.2 ⟨fun e => ?_, h.nd⟩, ?_, ?_⟩
  · have := hne D e; omega
  · intro E hE
    rcases List.mem_cons.1 hE with rfl | hE
    · exact hB
    · exact h.ge E hE
  · intro E hE
    rcases List.mem_cons.1 hE with rfl | hE
    · exact hD
    · exact h.at' E hE
/-- Blocks that are no cells may have been shut. -/
def ShutTo (B : Nat) (W W' : World) : Prop := Below B W W' ∧ ∀ (b : Nat) (o : Obj), W.heap[b]? = some o → o.isCells = true → W'.heap[b]? = some o
theorem leaves_marks {n : Nat} {P : Program} {fn : Func} {tmps : Array Value} {R : Ending → World → Prop} {w : World} : ∀ (Ds : List Nat) (W : World), Marks w.heap.size Ds W →
    (∀ W', ShutTo w.heap.size W W' → LeavesInM Fence.wide n P fn tmps R [] .returning W') → LeavesInM Fence.wide n P fn tmps R (Ds.map mark) .returning W
  | [], W, _, h => h W ⟨Below.refl _ _, fun _ _ h _ => h⟩
  | D :: Ds, W, hm, h => by
    have hK := hm.at' D (by simp)
    refine ⟨by simp, .inl ⟨D, _, rfl, run_takeDeferred hK, ?_⟩⟩
    have hb : Below w.heap.size W (W.putObj D (.deferred none)) := belowK_b (w := w) (Nat.le_refl _) W D _ _ (hm.ge D (by simp)) hK rfl rfl
    have hnd := List.nodup_cons.1 hm.nd
    refine leaves_marks Ds _ ⟨hnd.2, fun E hE => hm.ge E (by simp [hE]), fun E hE => ?_⟩ fun W' hW' => h W' ⟨hb.trans hW'.1, fun b o ho hc => hW'.2 b o ?_ hc⟩
    · have hne : E ≠ D := fun e => hnd.1 (by rw [← e]; exact hE)
      rw [World.putObj_heap_other hne]
      exact hm.at' E (by simp [hE])
    · have hne : b ≠ D := fun e => by subst e; rw [hK] at ho; cases ho; cases hc
      rw [World.putObj_heap_other hne]; exact ho
end Go.Proofs.YtahfobbiaimoiaaGreatDoor.O

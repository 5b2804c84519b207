/- A record's bytes, block by block: plain. -/
import Derived.Test.YtmhbidnpfefjpaaJnM
namespace Go.Proofs.Ytmhbidnpfefjpaa
open Go.RowKit
/-- A record of which so many blocks have been read. -/
def rcI (X : List Nat) (m i : Nat) : List Nat := X.take (16 * i) ++ List.replicate (m - 16 * i) 0
theorem rcI_len {X : List Nat} {m : Nat} (i : Nat) (h : X.length = m) : (rcI X m i).length = m := by
  unfold rcI
  rw [List.length_append, List.length_take, List.length_replicate]
  omega
theorem rcI_zero (X : List Nat) (m : Nat) : rcI X m 0 = List.replicate m 0 := by simp [rcI]
theorem rcI_all {X : List Nat} {m i : Nat} (h : X.length = m) (hi : m ≤ 16 * i) : rcI X m i = X := by
  unfold rcI
  rw [List.take_of_length_le (by omega), show m - 16 * i = 0 by omega]
  simp
theorem recOf_len {L : List Nat} {n q m : Nat} (hL : L.length = 16 * n) (h : q + 1 + spn m < n) : (recOf L q m).length = m := by
  unfold recOf spn at *
  rw [List.length_take, List.length_drop]
  omega
/-- The bytes that go over. -/
theorem part_eq (L : List Nat) (q m i : Nat) : (blkB L (q + 1 + i)).take (min 16 (m - 16 * i)) = ((recOf L q m).drop (16 * i)).take 16 := by
  unfold blkB recOf
  rw [List.drop_take, List.drop_drop, List.take_take, List.take_take, show 16 * (q + 1) + 16 * i = 16 * (q + 1 + i) by omega]
  congr 1
  omega
theorem rcI_step {X : List Nat} {m i : Nat} (h : X.length = m) (hi : 16 * i < m) : splice (rcI X m i) (16 * i) ((X.drop (16 * i)).take 16) = rcI X m (i + 1) := by
  have hl : (X.take (16 * i)).length = 16 * i := by rw [List.length_take]; omega
  obtain ⟨Y, hY⟩ : ∃ Y, Y = (X.drop (16 * i)).take 16 := ⟨_, rfl⟩
  have hYl : Y.length = min 16 (m - 16 * i) := by rw [hY, List.length_take, List.length_drop, h]
  have e : X.take (16 * (i + 1)) = X.take (16 * i) ++ Y := by rw [hY, show 16 * (i + 1) = 16 * i + 16 by omega, List.take_add]
  rw [← hY]
  unfold splice rcI
  rw [e, List.take_append_of_le_length (by omega), List.take_take, Nat.min_self, List.drop_append, hl, show (X.take (16 * i)).drop (16 * i + Y.length) = [] from List.drop_eq_nil_of_le (by omega), List.nil_append, List.drop_replicate, List.append_assoc]
  congr 3
  omega
theorem piece_rcI {X : List Nat} {m i : Nat} (h : X.length = m) : pieceB (rcI X m (i + 1)) i = pieceB X i := by
  unfold pieceB
  congr 1
  by_cases hm : 16 * (i + 1) ≤ m
  · unfold rcI
    have hl : (X.take (16 * (i + 1))).length = 16 * (i + 1) := by rw [List.length_take]; omega
    rw [List.drop_append_of_le_length (by omega), List.take_append_of_le_length (by rw [List.length_drop, hl]; omega), List.drop_take, List.take_take]
    congr 1
    omega
  · rw [rcI_all h (by omega)]
theorem padOk_iff (L : List Nat) (q m : Nat) : padOk L q m = true ↔ ∀ i, i < spn m → blkB L (q + 1 + i) = pieceB (recOf L q m) i := by
  simp [padOk]
theorem oneR_big {L : List Nat} {n q c : Nat} (h : 131072 < n48 (blkB L q)) : oneR L n q c = none := by
  unfold oneR
  rw [if_neg (by omega)]
theorem oneR_far {L : List Nat} {n q c : Nat} (h : n ≤ q + 1 + spn (n48 (blkB L q))) : oneR L n q c = none := by
  unfold oneR
  rw [if_neg (by omega)]
theorem oneR_not {L : List Nat} {n q c : Nat} (h : blkB L q ≠ titleB (n48 (blkB L q)) (c + 1)) : oneR L n q c = none := by
  unfold oneR
  rw [if_neg (fun e => h e.2.2.1)]
theorem oneR_pad {L : List Nat} {n q c i : Nat} (hi : i < spn (n48 (blkB L q))) (h : blkB L (q + 1 + i) ≠ pieceB (recOf L q (n48 (blkB L q))) i) : oneR L n q c = none := by
  unfold oneR
  rw [if_neg (fun e => h ((padOk_iff _ _ _).1 e.2.2.2 i hi))]
theorem oneR_yes {L : List Nat} {n q c : Nat} (h1 : n48 (blkB L q) ≤ 131072) (h2 : q + 1 + spn (n48 (blkB L q)) < n) (h3 : blkB L q = titleB (n48 (blkB L q)) (c + 1)) (h4 : ∀ i, i < spn (n48 (blkB L q)) → blkB L (q + 1 + i) = pieceB (recOf L q (n48 (blkB L q))) i) : oneR L n q c = some (recOf L q (n48 (blkB L q))) := by
  unfold oneR
  rw [if_pos ⟨h1, h2, h3, (padOk_iff _ _ _).2 h4⟩]
end Go.Proofs.Ytmhbidnpfefjpaa

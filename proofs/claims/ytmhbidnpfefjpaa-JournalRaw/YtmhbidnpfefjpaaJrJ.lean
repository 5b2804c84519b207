/- The document's journal in memory; plain facts on texts and on zeros behind a record. -/
import Derived.Test.YtmhbidnpfefjpaaJrH
namespace Go.Proofs.Ytmhbidnpfefjpaa
open Go.RowKit
def RjA (W : World) (q r : Nat) (J : Jn) : Prop :=
  W.heap[q]? = some (.cells #[.pointer (some ⟨r, 0, none⟩), .int .i64 (J.e : Int), .int .i64 (J.c : Int), .int .i64 (J.b : Int), .bool J.dn] 68 (0, 0))
theorem RjA.cells {W : World} {q r : Nat} {J : Jn} (h : RjA W q r J) : W.cell? ⟨q, 0, none⟩ = some (.pointer (some ⟨r, 0, none⟩)) ∧ W.cell? ⟨q, 1, none⟩ = some (.int .i64 (J.e : Int)) ∧ W.cell? ⟨q, 2, none⟩ = some (.int .i64 (J.c : Int)) ∧ W.cell? ⟨q, 3, none⟩ = some (.int .i64 (J.b : Int)) ∧ W.cell? ⟨q, 4, none⟩ = some (.bool J.dn) := by
  unfold RjA at h
  refine ⟨?_, ?_, ?_, ?_, ?_⟩ <;> simp [World.cell?, h]
theorem RjA.free {W : World} {q r : Nat} {J : Jn} (h : RjA W q r J) (i : Nat) : W.frozen? ⟨q, i, none⟩ = false := by
  unfold RjA at h
  simp [World.frozen?, h]
theorem RjA.below {W W' : World} {q r B : Nat} {J : Jn} (h : RjA W q r J) (k : Below B W W') (hB : q < B) : RjA W' q r J := (k.block q hB).trans h
theorem RjA.kp {W W' : World} {q r x y : Nat} {J : Jn} (h : RjA W q r J) (k : Kp x y W W') (h1 : q ≠ x) (h2 : q ≠ y) : RjA W' q r J := (k.block q (blk_lt h) h1 h2).trans h
theorem RjA.nd {W : World} {q r r' rb cap : Nat} {J : Jn} {D : Dk} (h : RjA W q r' J) (hd : RkA W r rb cap D) : q ≠ r ∧ q ≠ rb := by
  refine ⟨?_, ?_⟩
  · rintro rfl
    have h1 := hd.bx
    unfold RjA at h
    rw [h] at h1
    injection h1 with h1
    injection h1 with _ h1
    exact absurd h1 (by decide)
  · rintro rfl
    obtain ⟨cs, h1⟩ := hd.blk
    unfold RjA at h
    rw [h] at h1
    injection h1 with h1
    injection h1 with _ h1
    exact absurd h1 (by decide)
theorem RjA.set1 {W : World} {q r : Nat} {J : Jn} (h : RjA W q r J) (e : Nat) : RjA (W.setCell ⟨q, 1, none⟩ (.int .i64 (e : Int))) q r { J with e := e } := by
  have k := set_heap h 1 (.int .i64 (e : Int))
  simpa [RjA] using k
theorem RjA.set2 {W : World} {q r : Nat} {J : Jn} (h : RjA W q r J) (c : Nat) : RjA (W.setCell ⟨q, 2, none⟩ (.int .i64 (c : Int))) q r { J with c := c } := by
  have k := set_heap h 2 (.int .i64 (c : Int))
  simpa [RjA] using k
theorem RjA.set4 {W : World} {q r : Nat} {J : Jn} (h : RjA W q r J) (d : Bool) : RjA (W.setCell ⟨q, 4, none⟩ (.bool d)) q r { J with dn := d } := by
  have k := set_heap h 4 (.bool d)
  simpa [RjA] using k
theorem RkA.up {W W' : World} {r rb cap : Nat} {D : Dk} (h : RkA W r rb cap D) (hb : Below W.heap.size W W') : RkA W' r rb cap D := by
  obtain ⟨cs, h1⟩ := h.blk
  exact ⟨(hb.block r (blk_lt h.bx)).trans h.bx, own_same h.row (hb.block rb (blk_lt h1))⟩
theorem strB_inj {P Q : List Nat} (hP : B256 P) (hQ : B256 Q) (h : (strB P).toList = (strB Q).toList) : P = Q := by
  have h1 : (strB P).data.toList = (strB Q).data.toList := by rw [ByteArray.toList_eq, ByteArray.toList_eq] at h; exact h
  unfold strB at h1
  rw [strOfNums_data, strOfNums_data, List.map_map, List.map_map] at h1
  clear h
  induction P generalizing Q with
  | nil => cases Q with
    | nil => rfl
    | cons y t => simp at h1
  | cons x s ih => cases Q with
    | nil => simp at h1
    | cons y t =>
      simp only [List.map_cons, List.cons.injEq, Function.comp, Int.toNat_natCast] at h1
      have hx := hP x (List.mem_cons_self ..)
      have hy := hQ y (List.mem_cons_self ..)
      have e : x = y := by
        have := congrArg UInt8.toNat h1.1
        simp at this
        omega
      rw [e, ih (fun z hz => hP z (List.mem_cons_of_mem _ hz)) (fun z hz => hQ z (List.mem_cons_of_mem _ hz)) h1.2]
theorem strB_ne {P Q : List Nat} (hP : B256 P) (hQ : B256 Q) (h : P ≠ Q) : (strB P == strB Q) = false ∧ ((strB P).toList == (strB Q).toList) = false ∧ strB P ≠ strB Q := by
  have hne : (strB P).toList ≠ (strB Q).toList := fun e => h (strB_inj hP hQ e)
  have h1 : ((strB P).toList == (strB Q).toList) = false := by simpa using hne
  exact ⟨by rw [beq_toListBytes]; exact h1, h1, fun e => hne (by rw [e])⟩
theorem allZ_iff {L : List Nat} : allZ L = true ↔ ∀ i z : Nat, L[i]? = some z → z = 0 := by
  refine ⟨fun h i z hz => ?_, allZ_yes⟩
  unfold allZ at h
  rw [List.all_eq_true] at h
  simpa using h z (List.mem_of_getElem? hz)
theorem z16_get {t : Nat} (ht : t < 16) : z16[t]? = some 0 := by
  rw [show z16 = List.replicate 16 0 from rfl, List.getElem?_replicate, if_pos ht]
theorem allZ_16 {P : List Nat} (hP : P.length = 16) : (allZ P = true) = (P = z16) := by
  apply propext
  rw [allZ_iff]
  refine ⟨fun h => List.ext_getElem? fun i => ?_, fun h i z hz => ?_⟩
  · rcases Nat.lt_or_ge i 16 with h1 | h1
    · obtain ⟨z, hz⟩ : ∃ z, P[i]? = some z := ⟨_, List.getElem?_eq_getElem (by omega)⟩
      rw [hz, h i z hz, z16_get h1]
    · rw [List.getElem?_eq_none (by omega), List.getElem?_eq_none (by rw [z16_len]; omega)]
  · rw [h] at hz
    have := List.mem_of_getElem? hz
    simp only [z16, List.mem_cons, List.not_mem_nil, or_false] at this
    omega
theorem piece_get (R : List Nat) (i t : Nat) (ht : t < 16) : (pieceB R i)[t]? = if 16 * i + t < R.length then R[16 * i + t]? else some 0 := by
  unfold pieceB
  rw [splice_at (by rw [List.length_take, z16_len]; omega), List.length_take, List.length_drop]
  split
  · rw [if_pos (by omega), Nat.sub_zero, List.getElem?_take, if_pos ht, List.getElem?_drop]
  · rw [if_neg (by omega), z16_get ht]
/-- The bytes behind a record, up to its last block's end. -/
def tailB (L : List Nat) (q m : Nat) : List Nat := ((L.drop (16 * (q + 1))).take (16 * spn m)).drop m
theorem tail_get (L : List Nat) (q m j : Nat) : (tailB L q m)[j]? = if m + j < 16 * spn m then L[16 * (q + 1) + (m + j)]? else none := by
  unfold tailB
  rw [List.getElem?_drop, List.getElem?_take]
  split
  · rw [List.getElem?_drop]
  · rfl
theorem pad_tail {L : List Nat} {n q m : Nat} (hL : L.length = 16 * n) (h : q + 1 + spn m < n) : (padOk L q m = true) = (allZ (tailB L q m) = true) := by
  have hX := recOf_len hL h
  have hsm : m ≤ 16 * spn m := by unfold spn; omega
  apply propext
  rw [padOk_iff, allZ_iff]
  refine ⟨fun hp j z hz => ?_, fun hz i hi => ?_⟩
  · rw [tail_get] at hz
    split at hz
    · next hj =>
      have e := hp ((m + j) / 16) (by omega)
      have e2 : (blkB L (q + 1 + (m + j) / 16))[(m + j) % 16]? = (pieceB (recOf L q m) ((m + j) / 16))[(m + j) % 16]? := by rw [e]
      have hmod := Nat.mod_lt (m + j) (show 0 < 16 by decide)
      rw [blk_get _ _ _ hmod, piece_get _ _ _ hmod, if_neg (by rw [hX]; have := Nat.div_add_mod (m + j) 16; omega), show 16 * (q + 1 + (m + j) / 16) + (m + j) % 16 = 16 * (q + 1) + (m + j) by have := Nat.div_add_mod (m + j) 16; omega, hz] at e2
      simpa using e2
    · cases hz
  · apply List.ext_getElem?
    intro t
    rcases Nat.lt_or_ge t 16 with ht | ht
    · rw [blk_get _ _ _ ht, piece_get _ _ _ ht, hX]
      split
      · unfold recOf
        rw [List.getElem?_take, if_pos (by assumption), List.getElem?_drop]
        congr 1
        omega
      · have h1 := hz (16 * i + t - m)
        rw [tail_get, if_pos (by omega), show 16 * (q + 1) + (m + (16 * i + t - m)) = 16 * (q + 1 + i) + t by omega] at h1
        obtain ⟨y, hy⟩ : ∃ y, L[16 * (q + 1 + i) + t]? = some y := ⟨_, List.getElem?_eq_getElem (by omega)⟩
        rw [hy, h1 y hy]
    · rw [List.getElem?_eq_none (by unfold blkB; rw [List.length_take]; omega), List.getElem?_eq_none (by rw [pieceB_len]; omega)]
theorem oneR_tail {L : List Nat} {n q c : Nat} (hL : L.length = 16 * n) (h1 : n48 (blkB L q) ≤ 131072) (h2 : q + 1 + spn (n48 (blkB L q)) < n) (h3 : blkB L q = titleB (n48 (blkB L q)) (c + 1)) : (allZ (tailB L q (n48 (blkB L q))) = true → oneR L n q c = some (recOf L q (n48 (blkB L q)))) ∧ (allZ (tailB L q (n48 (blkB L q))) = false → oneR L n q c = none) := by
  refine ⟨fun h => oneR_yes h1 h2 h3 ((padOk_iff _ _ _).1 (by rw [pad_tail hL h2]; exact h)), fun h => ?_⟩
  unfold oneR
  rw [if_neg (fun e => by have := e.2.2.2; rw [pad_tail hL h2, h] at this; cases this)]
set_option maxRecDepth 100000 in
set_option maxHeartbeats 1000000 in
theorem roomD {W : World} {q r rb cap n : Nat} {J : Jn} {D : Dk} (h : RjA W q r J) (hd : RkA W r rb cap D) (hk : D.bytes.length = 16 * n) (hn : n ≤ 65536) (he : J.e ≤ 100000) : Calls Try.prog 31 #[.pointer (some ⟨q, 0, none⟩)] W fun e w' => e = .returned (.int .i64 (roomI n J.e)) ∧ Below W.heap.size W w' := by
  obtain ⟨c0, c1, c2, c3, c4⟩ := h.cells
  have K := hide' (rBlocksF (W := W.drew) hd.drew hk hn)
  have hw1 : IntKind.i64.wrap ((n : Int) - (J.e : Int)) = (n : Int) - (J.e : Int) := wrap_id (by omega) (by omega)
  have hw2 : IntKind.i64.wrap ((n : Int) - (J.e : Int) - 2) = (n : Int) - (J.e : Int) - 2 := wrap_id (by omega) (by omega)
  have hw3 : IntKind.i64.wrap (16 * ((n : Int) - (J.e : Int) - 2)) = 16 * ((n : Int) - (J.e : Int) - 2) := wrap_id (by omega) (by omega)
  clear h hd
  generalize J.e = e at *
  by_cases hlt : n < e + 2
  · have hl : 16 * ((n : Int) - (e : Int) - 2) < 0 := by omega
    rw [roomI_neg hlt]
    go_enter Try.func31, Try.ntmps31
    go_wp2
    go_region_held3 (fun V => V.cell? ⟨q, 0, none⟩ = some (.pointer (some ⟨r, 0, none⟩)) ∧ V.cell? ⟨q, 1, none⟩ = some (.int .i64 (e : Int))) (first | (exact ⟨c0, c1⟩)) (first | (go_at_call 48; refine K.out.mono ?_; rintro e' w1 ⟨rfl, hw1'⟩; obtain rfl : W.drew = w1 := hw1'.symm))
    go_wp2
    go_ret
    exact ⟨rfl, (Below.refl _ W).drew⟩
  · have hl : ¬ 16 * ((n : Int) - (e : Int) - 2) < 0 := by omega
    rw [roomI_pos hlt]
    by_cases hbig : 131072 < 16 * ((n : Int) - (e : Int) - 2)
    · go_enter Try.func31, Try.ntmps31
      go_wp2
      go_region_held3 (fun V => V.cell? ⟨q, 0, none⟩ = some (.pointer (some ⟨r, 0, none⟩)) ∧ V.cell? ⟨q, 1, none⟩ = some (.int .i64 (e : Int))) (first | (exact ⟨c0, c1⟩)) (first | (go_at_call 48; refine K.out.mono ?_; rintro e' w1 ⟨rfl, hw1'⟩; obtain rfl : W.drew = w1 := hw1'.symm))
      go_wp2
      go_ret
      exact ⟨ret_int (by omega), (Below.refl _ W).drew⟩
    · go_enter Try.func31, Try.ntmps31
      go_wp2
      go_region_held3 (fun V => V.cell? ⟨q, 0, none⟩ = some (.pointer (some ⟨r, 0, none⟩)) ∧ V.cell? ⟨q, 1, none⟩ = some (.int .i64 (e : Int))) (first | (exact ⟨c0, c1⟩)) (first | (go_at_call 48; refine K.out.mono ?_; rintro e' w1 ⟨rfl, hw1'⟩; obtain rfl : W.drew = w1 := hw1'.symm))
      go_wp2
      go_ret
      exact ⟨ret_int (by omega), (Below.refl _ W).drew⟩
end Go.Proofs.Ytmhbidnpfefjpaa

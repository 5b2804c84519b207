/- one64 and one8 answer true: one of three cases. -/
import Derived.Test.YtpbjmdkfijlooaaGreatDoorOneW
namespace Go.Proofs.YtpbjmdkfijlooaaGreatDoor
open Go.RowKit
set_option maxRecDepth 100000 in
set_option maxHeartbeats 4000000 in
theorem oneA8 (a : Nat) (ha : a < 256) (i k : Int) (q er u : Nat) (hqu : q < 256 ∧ u < 256) (h : Bool) (w : World) (ht : Tab w) (i0 : 0 ≤ i) (i1 : i < 8)
    (KW : Hid (∀ W, Calls Tryz.prog 62 #[.agg #[.int .u8 a], .int .i64 i] W fun e w' => e = .returned (.tuple #[.agg #[.int .u8 q], .int .i64 er]) ∧ Below W.heap.size W w'))
    (KU : Hid (∀ W, Calls Tryz.prog 64 #[.agg #[.int .u8 a], .int .i64 i] W fun e w' => e = .returned (.agg #[.int .u8 u]) ∧ Below W.heap.size W w'))
    (KH : Hid (∀ W, Calls Tryz.prog 15 #[.int .u64 a, .int .i64 8, .int .i64 i] W fun e w' => e = .returned (.bool h) ∧ w' = W))
    (KG : Hid (∀ W, Calls Tryz.prog 66 #[.agg #[.int .u8 a], .int .i64 i] W fun e w' => e = .returned (.bool h) ∧ Below W.heap.size W w'))
    (p : Nat) (he : er = 0) (KO : Hid (∀ W, Calls Tryz.prog 41 #[.int .i64 i] W fun e w' => e = .returned (.int .u64 p) ∧ w' = W)) (hor : bits .or .u64 (a : Int) (p : Int) = (q : Int)) (hh : h = true) (hsub : IntKind.u64.wrap ((a : Int) - p) = u) :
    Calls Tryz.prog 26 #[.int .u8 a, .int .i64 i, .int .i64 k] w fun e w' => e = .returned (.bool true) ∧ Below w.heap.size w w' := by
  obtain ⟨hql, hul⟩ := hqu
  have hA : a < 18446744073709551616 := by omega
  obtain ⟨m, hm⟩ : ∃ m, (nums a).length = m := ⟨_, rfl⟩
  obtain ⟨lo, hlo⟩ : ∃ m, lowI (nums a) = m := ⟨_, rfl⟩
  obtain ⟨hi, hhi⟩ : ∃ m, lastI (nums a) = m := ⟨_, rfl⟩
  obtain ⟨nx, hnx⟩ : ∃ m, lowI (fromI i (nums a)) = m := ⟨_, rfl⟩
  obtain ⟨rk, hrk⟩ : ∃ m, (toI i (nums a)).length = m := ⟨_, rfl⟩
  obtain ⟨nt, hnt⟩ : ∃ m, nthI (nums a) k = m := ⟨_, rfl⟩
  obtain ⟨T, hT⟩ : ∃ T : ByteArray, (⟨(txt (nums a) ++ [125]).toArray⟩ : ByteArray) = T := ⟨_, rfl⟩
  have A1 := hide' (len8 a ha)
  have A2 := hide' (refLen a hA)
  rw [hm] at A1 A2
  have A3 := hide' (fun W (hW : Below w.heap.size w W) => low8 a ha W (ht.over hW))
  have A4 := hide' (refLow a hA)
  rw [hlo] at A3 A4
  have A5 := hide' (high8 a ha)
  have A6 := hide' (refHigh a hA)
  rw [hhi] at A5 A6
  have A7 := hide' (fun W (hW : Below w.heap.size w W) => next8 a ha i W (ht.over hW))
  have A8 := hide' (refNext a i hA)
  rw [hnx] at A7 A8
  have A9 := hide' (rank8 a ha i)
  have B0 := hide' (refRank a i hA)
  rw [hrk] at A9 B0
  have B1 := hide' (fun W (hW : Below w.heap.size w W) => callsIn_wide.1 (nthC8 a ha k W (ht.over hW)))
  have B2 := hide' (refNth a k hA)
  rw [hnt] at B1 B2
  have B3 := hide' (fun W (hW : Below w.heap.size w W) => text8 a ha W (ht.over hW))
  have B4 := hide' (refText a hA)
  rw [hT] at B3 B4
  have B5 := hide' (fun W (hW : Below w.heap.size w W) => places8 a ha W (ht.over hW))
  have B6 := hide' (refPlaces a 8 ha (by decide))
  have B7 : Hid (∀ v1 v2 W, RowI W v1 ((nums a).map fun j => (j.val : Int)) → RowI W v2 ((nums a).map fun j => (j.val : Int)) → Calls Tryz.prog 58 #[v1, v2] W fun e w' => e = .returned (.bool true) ∧ Below W.heap.size W w') := fun v1 v2 W r1 r2 => by
    have hl : ((nums a).map fun j => (j.val : Int)).length ≤ 1000000 := by rw [List.length_map]; have := nums_len a; omega
    have := keepInts _ _ v1 v2 W r1 r2 hl hl
    simpa using this
  clear hm hlo hhi hnx hrk hnt hT
  go_enter Tryz.func26, Tryz.ntmps26
  go_wp2_with fail
  refine (of8 _ _ _).mono ?_
  rintro e w1 ⟨rfl, hb1⟩
  have b1 : Below w.heap.size w w1 := ((Below.refl _ w).alloc (Nat.le_refl _) _).trans (hb1.mono (by simp))
  clear hb1
  go_wp2_with fail
  refine (KW.out _).mono ?_
  rintro e w2 ⟨rfl, hb2⟩
  have hk : (w2.alloc (.cells #[.int .u8 q] 72)).cell? ⟨w1.heap.size, 0, none⟩ = some (.int .u8 a) ∧ (w2.alloc (.cells #[.int .u8 q] 72)).cell? ⟨w2.heap.size, 0, none⟩ = some (.int .u8 q) ∧ Below w.heap.size w (w2.alloc (.cells #[.int .u8 q] 72)) :=
    ⟨cell_al ((hb2.cell (p := ⟨w1.heap.size, 0, none⟩) (by show w1.heap.size < _; simp)).trans (by simp)) _, by simp, ((b1.alloc b1.size _).trans (hb2.mono (by have := b1.size; simp; omega))).alloc (by have := hb2.size; have := b1.size; simp at *; omega) _⟩
  clear hb2 b1 KW
  subst he hh
  go_wp2_with (first | (go_at_call 63; refine (word8 _ _).mono ?_; rintro e w3 ⟨rfl, hb⟩; replace hk := keepT hk hb; clear hb) | (go_at_call 41; refine (KO.out _).mono ?_; rintro e w3 ⟨rfl, rfl⟩) | (go_at_call 64; refine (KU.out _).mono ?_; rintro e w3 ⟨rfl, hb⟩; replace hk := keepT hk hb; clear hb) | (go_at_call 15; refine (KH.out _).mono ?_; rintro e w3 ⟨rfl, rfl⟩) | (go_at_call 65; refine (width8 _ _).mono ?_; rintro e w3 ⟨rfl, hb⟩; replace hk := keepT hk hb; clear hb) | (go_at_call 66; refine (KG.out _).mono ?_; rintro e w3 ⟨rfl, hb⟩; replace hk := keepT hk hb; clear hb) | (go_at_call 67; refine (A1.out _).mono ?_; rintro e w3 ⟨rfl, hb⟩; replace hk := keepT hk hb; clear hb) | (go_at_call 9; refine (A2.out _).mono ?_; rintro e w3 ⟨rfl, hb⟩; replace hk := keepT hk hb; clear hb) | (go_at_call 68; refine (A3.out _ hk.2.2).mono ?_; rintro e w3 ⟨rfl, hb⟩; replace hk := keepT hk hb; clear hb) | (go_at_call 50; refine (A4.out _).mono ?_; rintro e w3 ⟨rfl, hb⟩; replace hk := keepT hk hb; clear hb) | (go_at_call 69; refine (A5.out _).mono ?_; rintro e w3 ⟨rfl, hb⟩; replace hk := keepT hk hb; clear hb) | (go_at_call 12; refine (A6.out _).mono ?_; rintro e w3 ⟨rfl, hb⟩; replace hk := keepT hk hb; clear hb) | (go_at_call 70; refine (A7.out _ hk.2.2).mono ?_; rintro e w3 ⟨rfl, hb⟩; replace hk := keepT hk hb; clear hb) | (go_at_call 53; refine (A8.out _).mono ?_; rintro e w3 ⟨rfl, hb⟩; replace hk := keepT hk hb; clear hb) | (go_at_call 71; refine (A9.out _).mono ?_; rintro e w3 ⟨rfl, hb⟩; replace hk := keepT hk hb; clear hb) | (go_at_call 55; refine (B0.out _).mono ?_; rintro e w3 ⟨rfl, hb⟩; replace hk := keepT hk hb; clear hb) | (go_at_call 72; refine (B1.out _ hk.2.2).mono ?_; rintro e w3 ⟨rfl, hb⟩; replace hk := keepT hk hb; clear hb) | (go_at_call 57; refine (B2.out _).mono ?_; rintro e w3 ⟨rfl, hb⟩; replace hk := keepT hk hb; clear hb) | (go_at_call 74; refine (B3.out _ hk.2.2).mono ?_; rintro e w3 ⟨rfl, hb⟩; replace hk := keepT hk hb; clear hb) | (go_at_call 18; refine (B4.out _).mono ?_; rintro e w3 ⟨rfl, hb⟩; replace hk := keepT hk hb; clear hb) | (go_at_call 73; refine (B5.out _ hk.2.2).mono ?_; rintro e w3 ⟨v1, rfl, hrow1, hb⟩; replace hk := keepT hk hb; clear hb; have R1 := rowI_of hrow1; clear hrow1) | (go_at_call 30; refine (B6.out _).mono ?_; rintro e w3 ⟨v2, rfl, hrow2, hb⟩; replace hk := keepT hk hb; replace R1 := R1.below hb (Nat.le_refl _); clear hb; have R2 := rowI_of hrow2; clear hrow2) | (go_at_call 58; refine (B7.out _ _ _ R1 R2).mono ?_; rintro e w3 ⟨rfl, hb⟩; replace hk := keepT hk hb; clear hb))
  go_ret
  exact ⟨rfl, hk.2.2⟩
set_option maxRecDepth 100000 in
set_option maxHeartbeats 4000000 in
theorem oneA64 (a : Nat) (ha : a < 18446744073709551616) (i k : Int) (q er u : Nat) (hqu : q < 18446744073709551616 ∧ u < 18446744073709551616) (h : Bool) (w : World) (ht : Tab w) (i0 : 0 ≤ i) (i1 : i < 64)
    (KW : Hid (∀ W, Calls Tryz.prog 43 #[.agg #[.int .u64 a], .int .i64 i] W fun e w' => e = .returned (.tuple #[.agg #[.int .u64 q], .int .i64 er]) ∧ Below W.heap.size W w'))
    (KU : Hid (∀ W, Calls Tryz.prog 45 #[.agg #[.int .u64 a], .int .i64 i] W fun e w' => e = .returned (.agg #[.int .u64 u]) ∧ Below W.heap.size W w'))
    (KH : Hid (∀ W, Calls Tryz.prog 15 #[.int .u64 a, .int .i64 64, .int .i64 i] W fun e w' => e = .returned (.bool h) ∧ w' = W))
    (KG : Hid (∀ W, Calls Tryz.prog 47 #[.agg #[.int .u64 a], .int .i64 i] W fun e w' => e = .returned (.bool h) ∧ Below W.heap.size W w'))
    (p : Nat) (he : er = 0) (KO : Hid (∀ W, Calls Tryz.prog 41 #[.int .i64 i] W fun e w' => e = .returned (.int .u64 p) ∧ w' = W)) (hor : bits .or .u64 (a : Int) (p : Int) = (q : Int)) (hh : h = true) (hsub : IntKind.u64.wrap ((a : Int) - p) = u) :
    Calls Tryz.prog 25 #[.int .u64 a, .int .i64 i, .int .i64 k] w fun e w' => e = .returned (.bool true) ∧ Below w.heap.size w w' := by
  obtain ⟨hql, hul⟩ := hqu
  have hA : a < 18446744073709551616 := by omega
  obtain ⟨m, hm⟩ : ∃ m, (nums a).length = m := ⟨_, rfl⟩
  obtain ⟨lo, hlo⟩ : ∃ m, lowI (nums a) = m := ⟨_, rfl⟩
  obtain ⟨hi, hhi⟩ : ∃ m, lastI (nums a) = m := ⟨_, rfl⟩
  obtain ⟨nx, hnx⟩ : ∃ m, lowI (fromI i (nums a)) = m := ⟨_, rfl⟩
  obtain ⟨rk, hrk⟩ : ∃ m, (toI i (nums a)).length = m := ⟨_, rfl⟩
  obtain ⟨nt, hnt⟩ : ∃ m, nthI (nums a) k = m := ⟨_, rfl⟩
  obtain ⟨T, hT⟩ : ∃ T : ByteArray, (⟨(txt (nums a) ++ [125]).toArray⟩ : ByteArray) = T := ⟨_, rfl⟩
  have A1 := hide' (len64 a ha)
  have A2 := hide' (refLen a hA)
  rw [hm] at A1 A2
  have A3 := hide' (fun W (hW : Below w.heap.size w W) => low64 a ha W (ht.over hW))
  have A4 := hide' (refLow a hA)
  rw [hlo] at A3 A4
  have A5 := hide' (high64 a ha)
  have A6 := hide' (refHigh a hA)
  rw [hhi] at A5 A6
  have A7 := hide' (fun W (hW : Below w.heap.size w W) => next64 a ha i W (ht.over hW))
  have A8 := hide' (refNext a i hA)
  rw [hnx] at A7 A8
  have A9 := hide' (rank64 a ha i)
  have B0 := hide' (refRank a i hA)
  rw [hrk] at A9 B0
  have B1 := hide' (fun W (hW : Below w.heap.size w W) => callsIn_wide.1 (nthC64 a ha k W (ht.over hW)))
  have B2 := hide' (refNth a k hA)
  rw [hnt] at B1 B2
  have B3 := hide' (fun W (hW : Below w.heap.size w W) => text64 a ha W (ht.over hW))
  have B4 := hide' (refText a hA)
  rw [hT] at B3 B4
  have B5 := hide' (fun W (hW : Below w.heap.size w W) => places64 a ha W (ht.over hW))
  have B6 := hide' (refPlaces a 64 ha (by decide))
  have B7 : Hid (∀ v1 v2 W, RowI W v1 ((nums a).map fun j => (j.val : Int)) → RowI W v2 ((nums a).map fun j => (j.val : Int)) → Calls Tryz.prog 58 #[v1, v2] W fun e w' => e = .returned (.bool true) ∧ Below W.heap.size W w') := fun v1 v2 W r1 r2 => by
    have hl : ((nums a).map fun j => (j.val : Int)).length ≤ 1000000 := by rw [List.length_map]; have := nums_len a; omega
    have := keepInts _ _ v1 v2 W r1 r2 hl hl
    simpa using this
  clear hm hlo hhi hnx hrk hnt hT
  go_enter Tryz.func25, Tryz.ntmps25
  go_wp2_with fail
  refine (of64 _ _ _).mono ?_
  rintro e w1 ⟨rfl, hb1⟩
  have b1 : Below w.heap.size w w1 := ((Below.refl _ w).alloc (Nat.le_refl _) _).trans (hb1.mono (by simp))
  clear hb1
  go_wp2_with fail
  refine (KW.out _).mono ?_
  rintro e w2 ⟨rfl, hb2⟩
  have hk : (w2.alloc (.cells #[.int .u64 q] 60)).cell? ⟨w1.heap.size, 0, none⟩ = some (.int .u64 a) ∧ (w2.alloc (.cells #[.int .u64 q] 60)).cell? ⟨w2.heap.size, 0, none⟩ = some (.int .u64 q) ∧ Below w.heap.size w (w2.alloc (.cells #[.int .u64 q] 60)) :=
    ⟨cell_al ((hb2.cell (p := ⟨w1.heap.size, 0, none⟩) (by show w1.heap.size < _; simp)).trans (by simp)) _, by simp, ((b1.alloc b1.size _).trans (hb2.mono (by have := b1.size; simp; omega))).alloc (by have := hb2.size; have := b1.size; simp at *; omega) _⟩
  clear hb2 b1 KW
  subst he hh
  go_wp2_with (first | (go_at_call 44; refine (word64 _ _).mono ?_; rintro e w3 ⟨rfl, hb⟩; replace hk := keepT hk hb; clear hb) | (go_at_call 41; refine (KO.out _).mono ?_; rintro e w3 ⟨rfl, rfl⟩) | (go_at_call 45; refine (KU.out _).mono ?_; rintro e w3 ⟨rfl, hb⟩; replace hk := keepT hk hb; clear hb) | (go_at_call 15; refine (KH.out _).mono ?_; rintro e w3 ⟨rfl, rfl⟩) | (go_at_call 46; refine (width64 _ _).mono ?_; rintro e w3 ⟨rfl, hb⟩; replace hk := keepT hk hb; clear hb) | (go_at_call 47; refine (KG.out _).mono ?_; rintro e w3 ⟨rfl, hb⟩; replace hk := keepT hk hb; clear hb) | (go_at_call 48; refine (A1.out _).mono ?_; rintro e w3 ⟨rfl, hb⟩; replace hk := keepT hk hb; clear hb) | (go_at_call 9; refine (A2.out _).mono ?_; rintro e w3 ⟨rfl, hb⟩; replace hk := keepT hk hb; clear hb) | (go_at_call 49; refine (A3.out _ hk.2.2).mono ?_; rintro e w3 ⟨rfl, hb⟩; replace hk := keepT hk hb; clear hb) | (go_at_call 50; refine (A4.out _).mono ?_; rintro e w3 ⟨rfl, hb⟩; replace hk := keepT hk hb; clear hb) | (go_at_call 51; refine (A5.out _).mono ?_; rintro e w3 ⟨rfl, hb⟩; replace hk := keepT hk hb; clear hb) | (go_at_call 12; refine (A6.out _).mono ?_; rintro e w3 ⟨rfl, hb⟩; replace hk := keepT hk hb; clear hb) | (go_at_call 52; refine (A7.out _ hk.2.2).mono ?_; rintro e w3 ⟨rfl, hb⟩; replace hk := keepT hk hb; clear hb) | (go_at_call 53; refine (A8.out _).mono ?_; rintro e w3 ⟨rfl, hb⟩; replace hk := keepT hk hb; clear hb) | (go_at_call 54; refine (A9.out _).mono ?_; rintro e w3 ⟨rfl, hb⟩; replace hk := keepT hk hb; clear hb) | (go_at_call 55; refine (B0.out _).mono ?_; rintro e w3 ⟨rfl, hb⟩; replace hk := keepT hk hb; clear hb) | (go_at_call 56; refine (B1.out _ hk.2.2).mono ?_; rintro e w3 ⟨rfl, hb⟩; replace hk := keepT hk hb; clear hb) | (go_at_call 57; refine (B2.out _).mono ?_; rintro e w3 ⟨rfl, hb⟩; replace hk := keepT hk hb; clear hb) | (go_at_call 60; refine (B3.out _ hk.2.2).mono ?_; rintro e w3 ⟨rfl, hb⟩; replace hk := keepT hk hb; clear hb) | (go_at_call 18; refine (B4.out _).mono ?_; rintro e w3 ⟨rfl, hb⟩; replace hk := keepT hk hb; clear hb) | (go_at_call 59; refine (B5.out _ hk.2.2).mono ?_; rintro e w3 ⟨v1, rfl, hrow1, hb⟩; replace hk := keepT hk hb; clear hb; have R1 := rowI_of hrow1; clear hrow1) | (go_at_call 30; refine (B6.out _).mono ?_; rintro e w3 ⟨v2, rfl, hrow2, hb⟩; replace hk := keepT hk hb; replace R1 := R1.below hb (Nat.le_refl _); clear hb; have R2 := rowI_of hrow2; clear hrow2) | (go_at_call 58; refine (B7.out _ _ _ R1 R2).mono ?_; rintro e w3 ⟨rfl, hb⟩; replace hk := keepT hk hb; clear hb))
  go_ret
  exact ⟨rfl, hk.2.2⟩
end Go.Proofs.YtpbjmdkfijlooaaGreatDoor

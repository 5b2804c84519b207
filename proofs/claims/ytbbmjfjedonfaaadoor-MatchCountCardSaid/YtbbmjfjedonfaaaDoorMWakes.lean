/- As the document's runs tell it. -/
import Derived.Test.YtbbmjfjedonfaaaDoorMU
namespace Go.Proofs.YtbbmjfjedonfaaaDoor.M
open Go.RowKit Go.Shelf
theorem bit3 (v : Nat) : (3 : Nat).testBit v = true ↔ v = 0 ∨ v = 1 := by
  constructor
  · intro h
    rcases Nat.lt_or_ge v 2 with e | e
    · omega
    · rw [Nat.testBit_lt_two_pow (Nat.lt_of_lt_of_le (by decide : 3 < 2 ^ 2) (Nat.pow_le_pow_right (by decide) e))] at h; cases h
  · rintro (rfl | rfl) <;> rfl
theorem bit1 (v : Nat) : (1 : Nat).testBit v = true ↔ v = 0 := by
  constructor
  · intro h
    rcases Nat.lt_or_ge v 1 with e | e
    · omega
    · rw [Nat.testBit_lt_two_pow (Nat.lt_of_lt_of_le (by decide : 1 < 2 ^ 1) (Nat.pow_le_pow_right (by decide) e))] at h; cases h
  · rintro rfl; rfl
theorem full31 (g : Nat → Nat) : FullM 2 (fn [3, 1]) g ↔ g 0 = 1 ∧ g 1 = 0 := by
  constructor
  · intro h
    have h0 := (bit3 _).1 (h.bit 0 (by decide))
    have h1 := (bit1 _).1 (h.bit 1 (by decide))
    refine ⟨?_, h1⟩
    rcases h0 with e | e
    · have := h.inj 0 1 (by decide) (by decide) (by rw [e, h1])
      omega
    · exact e
  · rintro ⟨h0, h1⟩
    refine ⟨fun r hr => ?_, fun r s hr hs e => ?_⟩
    · match r, hr with
      | 0, _ => rw [h0]; rfl
      | 1, _ => rw [h1]; rfl
    · match r, hr, s, hs with
      | 0, _, 0, _ => rfl
      | 1, _, 1, _ => rfl
      | 0, _, 1, _ => rw [h0, h1] at e; cases e
      | 1, _, 0, _ => rw [h0, h1] at e; cases e
theorem free31 : FreS 2 (fn [3, 1]) 0 2 := fun u => by
  constructor
  · intro h
    have hu : u = 1 := by
      rcases Nat.lt_or_ge u 2 with e | e
      · match u, e with
        | 0, _ => simp at h
        | 1, _ => rfl
      · rw [Nat.testBit_lt_two_pow (Nat.lt_of_lt_of_le (by decide : 2 < 2 ^ 2) (Nat.pow_le_pow_right (by decide) e))] at h; cases h
    subst hu
    exact ⟨by decide, by decide, by decide, fun r => if r = 0 then 1 else 0, (full31 _).2 ⟨rfl, rfl⟩, rfl⟩
  · rintro ⟨_, _, _, g, hg, e⟩
    have : g 0 = u := e
    rw [← this, ((full31 g).1 hg).1]; rfl
theorem size3373 : sizeN (fn [3, 3, 7, 3]) 4 = 3 := by
  have h3 : Ind (fn [3, 3, 7, 3]) (fun r => r < 3) := ⟨fun r => r, fun r hr => by
    match r, hr with
    | 0, _ => rfl
    | 1, _ => rfl
    | 2, _ => rfl, fun r s _ _ e => e⟩
  have h4 : ¬ Ind (fn [3, 3, 7, 3]) (fun r => r < 4) := fun ⟨f, h1, h2⟩ => by
    have a := (bit3 _).1 (h1 0 (by decide))
    have b := (bit3 _).1 (h1 1 (by decide))
    have c := (bit3 _).1 (h1 3 (by decide))
    have ab : f 0 ≠ f 1 := fun e => by have := h2 0 1 (by decide) (by decide) e; omega
    have ac : f 0 ≠ f 3 := fun e => by have := h2 0 3 (by decide) (by decide) e; omega
    have bc : f 1 ≠ f 3 := fun e => by have := h2 1 3 (by decide) (by decide) e; omega
    omega
  have e3 := grN_of 3 h3
  have hn : ¬ Ind (fn [3, 3, 7, 3]) (fun s => grE (fn [3, 3, 7, 3]) 3 s ∨ s = 3) := fun h => h4 (h.sub fun r hr => by
    by_cases e : r = 3
    · exact .inr e
    · exact .inl (grN_full 3 e3 r (by omega)))
  unfold sizeN
  rw [if_pos (by decide), (grE_no hn).2, e3]
theorem lit2 (w : World) (a b : Nat) : RowU (w.alloc (.cells #[.int .u64 (a : Int), .int .u64 (b : Int)] 23)) (.slice (some ⟨w.heap.size, 0, none⟩) 2 2) [a, b] :=
  ⟨_, _, rfl, ⟨Nat.le_refl _, fun e => by cases e⟩, fun i z hz => ⟨_, _, rfl, by
    match i with
    | 0 => cases hz; simp
    | 1 => cases hz; simp
    | i + 2 => cases hz⟩⟩
theorem lit4 (w : World) (a b c d : Nat) : RowU (w.alloc (.cells #[.int .u64 (a : Int), .int .u64 (b : Int), .int .u64 (c : Int), .int .u64 (d : Int)] 23)) (.slice (some ⟨w.heap.size, 0, none⟩) 4 4) [a, b, c, d] :=
  ⟨_, _, rfl, ⟨Nat.le_refl _, fun e => by cases e⟩, fun i z hz => ⟨_, _, rfl, by
    match i with
    | 0 => cases hz; simp
    | 1 => cases hz; simp
    | 2 => cases hz; simp
    | 3 => cases hz; simp
    | i + 4 => cases hz⟩⟩
theorem lit2I (w : World) (a b : Int) : I.RowI (w.alloc (.cells #[.int .i64 a, .int .i64 b] 3)) (.slice (some ⟨w.heap.size, 0, none⟩) 2 2) [a, b] :=
  ⟨_, _, rfl, ⟨Nat.le_refl _, fun e => by cases e⟩, fun i z hz => ⟨_, _, rfl, by
    match i with
    | 0 => cases hz; simp
    | 1 => cases hz; simp
    | i + 2 => cases hz⟩⟩
set_option maxRecDepth 100000 in
set_option maxHeartbeats 1000000 in
theorem wakesM (w : World) (ht : Tab w) : Calls Tryd.prog 7 #[] w fun e w' => e = .returned (.bool true) ∧ Below w.heap.size w w' := by
  have ha : ∀ (V : World) (o : Obj), Below V.heap.size V (V.alloc o) := fun V o => (Below.refl _ _).alloc (Nat.le_refl _) _
  have h31 : ∀ z ∈ [3, 1], z < 18446744073709551616 := by decide
  have h33 : ∀ z ∈ [3, 3, 7, 3], z < 18446744073709551616 := by decide
  have K1 : Hid (∀ V, Tab V → Calls Tryd.prog 13 #[.slice (some ⟨V.heap.size, 0, none⟩) 2 2] (V.alloc (.cells #[.int .u64 3, .int .u64 1] 23)) fun e w' => ∃ v, e = .returned (.tuple #[v, .bool true]) ∧ I.RowI w' v [1, 0] ∧ Below V.heap.size V w') := fun V hV => by
    refine (leastF (n := 2) ((lit2 V 3 1).rwa (hV.over (ha V _)) h31)).mono ?_
    rintro e w' ⟨hb, (⟨_, pl, v, rfl, hL, ho⟩ | ⟨_, hno⟩)⟩
    · refine ⟨v, rfl, ?_, (ha V _).trans (hb.out.mono (ha V _).size)⟩
      have h := (full31 pl).1 hL.out.full
      have := I.RowI.of_owns ho.out
      rwa [show plL pl 2 = [1, 0] by simp [plL, List.range_succ, h.1, h.2]] at this
    · exact absurd (full_iff.1 ⟨fun r => if r = 0 then 1 else 0, (full31 _).2 ⟨rfl, rfl⟩⟩) (hno.out (by decide))
  have K2 : Hid (∀ V, Tab V → Calls Tryd.prog 15 #[.slice (some ⟨V.heap.size, 0, none⟩) 4 4] (V.alloc (.cells #[.int .u64 3, .int .u64 3, .int .u64 7, .int .u64 3] 23)) fun e w' => e = .returned (.int .i64 3) ∧ Below V.heap.size V w') := fun V hV => by
    refine (sizeF (n := 4) ((lit4 V 3 3 7 3).rwa (hV.over (ha V _)) h33)).mono ?_
    rintro e w' ⟨rfl, hb⟩
    exact ⟨by have := size3373; rw [this]; rfl, (ha V _).trans (hb.mono (ha V _).size)⟩
  have K3 : Hid (∀ V, Tab V → Calls Tryd.prog 16 #[.slice (some ⟨V.heap.size, 0, none⟩) 2 2, .int .i64 0] (V.alloc (.cells #[.int .u64 3, .int .u64 1] 23)) fun e w' => e = .returned (.int .u64 2) ∧ Below V.heap.size V w') := fun V hV => by
    refine (freeF (n := 2) ((lit2 V 3 1).rwa (hV.over (ha V _)) h31) 0).mono ?_
    rintro e w' ⟨F, rfl, hF, hb⟩
    exact ⟨by rw [FreS.one hF.out.2 free31]; rfl, (ha V _).trans (hb.mono (ha V _).size)⟩
  have K4 : Hid (∀ V v, I.RowI V v [1, 0] → Calls Tryd.prog 14 #[v, .slice (some ⟨V.heap.size, 0, none⟩) 2 2] (V.alloc (.cells #[.int .i64 1, .int .i64 0] 3)) fun e w' => e = .returned (.bool true) ∧ Below V.heap.size V w') := fun V v hv => by
    refine (I.keepInts [1, 0] [1, 0] _ _ _ (hv.below (ha V _) (Nat.le_refl _)) (lit2I V 1 0) (by decide) (by decide)).mono ?_
    rintro e w' ⟨rfl, hb⟩
    exact ⟨rfl, (ha V _).trans (hb.mono (ha V _).size)⟩
  have ht' := hide' ht
  clear ha h31 h33 ht
  go_enter Tryd.func7, Tryd.ntmps7
  go_wp2_with fail
  refine (K1.out w ht'.out).mono ?_
  rintro e w1 ⟨v, rfl, hv, hb1⟩
  have hv' := hide' hv
  have hB1 := hide' hb1
  clear hv hb1 K1
  go_wp2_with fail
  refine (K4.out w1 v hv'.out).mono ?_
  rintro e w2 ⟨rfl, hb2⟩
  have hB2 : Hid (Below w.heap.size w w2) := hB1.out.trans (hb2.mono hB1.out.size)
  clear hb2 K4 hB1 hv'
  go_wp2_with fail
  refine (K2.out w2 (ht'.out.over hB2.out)).mono ?_
  rintro e w3 ⟨rfl, hb3⟩
  have hB3 : Hid (Below w.heap.size w w3) := hB2.out.trans (hb3.mono hB2.out.size)
  clear hb3 K2 hB2
  go_wp2_with fail
  refine (K3.out w3 (ht'.out.over hB3.out)).mono ?_
  rintro e w4 ⟨rfl, hb4⟩
  have hB4 : Hid (Below w.heap.size w w4) := hB3.out.trans (hb4.mono hB3.out.size)
  clear hb4 K3 hB3
  go_wp2
  go_ret
  exact ⟨rfl, hB4.out⟩
end Go.Proofs.YtbbmjfjedonfaaaDoor.M

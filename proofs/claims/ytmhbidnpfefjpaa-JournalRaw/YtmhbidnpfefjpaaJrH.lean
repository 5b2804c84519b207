/- The document's Head and Title. -/
import Derived.Test.YtmhbidnpfefjpaaJrF
namespace Go.Proofs.Ytmhbidnpfefjpaa
open Go.RowKit
def z8 : List Nat := [0, 0, 0, 0, 0, 0, 0, 0]
theorem z8_len : z8.length = 8 := rfl
theorem zc8 : (Builtin.zeroCells #[Value.int .u8 0] 8).toList = cellsB z8 := by kernel_rfl
theorem zs8 : (Builtin.zeroCells #[Value.int .u8 0] 8).size = 8 := by kernel_rfl
/-- Eight zeros laid behind a row of one's own. -/
theorem run_zeros8 {W : World} {B g n c : Nat} {L : List Nat} (ty : TypeId) (hT : W.ownsRow B 5 1 (.slice (some ⟨g, 0, none⟩) n c) n (cellsB L)) (hB : B ≤ W.heap.size) (hl : n ≤ 1000) : ∃ g2 c2 w2, (Builtin.append_ #[34, 3] ty #[.slice (some ⟨g, 0, none⟩) n c, .int .i64 8]).run Try.prog W = .ok (.slice (some ⟨g2, 0, none⟩) (n + 8) c2) w2 ∧ Hid (w2.ownsRow B 5 1 (.slice (some ⟨g2, 0, none⟩) (n + 8) c2) (n + 8) (cellsB (L ++ z8))) ∧ Hid (Below B W w2) := by
  obtain ⟨i0, hi, hz0, hz1, hz2⟩ := info_parts infoU8
  have hT' := hT
  have hln : L.length = n := by have := hT.1; rw [cellsB_len] at this; omega
  rcases hT.2 with ⟨e, _⟩ | ⟨g', cap, cur, e, hb, hg, hc, hcm, hs, ht⟩
  · cases e
  · cases e
    by_cases hroom : n + 8 ≤ c
    · have hfit : n + (cellsB z8).length ≤ cur.size := by rw [cellsB_len, z8_len]; omega
      have hst := run_storeCells_at Try.prog g n 5 (cellsB z8) 0 cur W hg (by simpa using hfit) (oneB _)
      simp only [Nat.add_zero] at hst
      rw [List.append_assoc] at hst
      refine ⟨g, c, W.setRow g (cur.toList.take n ++ (cellsB z8 ++ cur.toList.drop (n + (cellsB z8).length))).toArray, ?_, ?_, ?_⟩
      rotate_left
      · show World.ownsRow _ _ _ _ _ _ _
        refine ⟨?_, .inr ⟨g, c, _, rfl, hb, setRow_heap W g cur _ 5 _ hg, hroom, hcm, ?_, ?_⟩⟩
        · rw [cellsB_len, List.length_append, z8_len]; omega
        rotate_left
        · rw [Nat.mul_one] at ht ⊢
          rw [cellsB_app, ht, ← List.append_assoc]
          have : n + 8 = (cellsB L ++ cellsB z8).length := by rw [List.length_append, cellsB_len, cellsB_len, z8_len]; omega
          rw [this]
          exact List.take_left
        · simp only [List.size_toArray, List.length_append, List.length_take, List.length_drop, Array.length_toList, cellsB_len, z8_len]
          omega
      · exact below_setRow (Below.refl B W) hb _
      · have hneg : ¬ ((8 : Int) < 0) := by omega
        have hw8 : IntKind.i64.wrap 8 = 8 := wrap_id (by omega) (by omega)
        simp [Builtin.append_, run_underlying Try.underlying34, run_underlying Try.underlying3, sizeOf, typeInfo, zeroValue, hi, hz0, hz1, hz2, asInt, asIntOf, hw8, hroom, Value.cells, zc8, Addr.add_lit, hst]
    · have hf := run_firstCells_some (P := Try.prog) W.drew i0.size n ⟨g, 0, none⟩ n c (cellsB L) (by rw [cellsB_len, hz1]; omega) (fun j u hu => (show W.cell? _ = some u from hT'.cells (g := g) rfl j u hu))
      have hr := Lib.run_append_grow_zeros (P := Try.prog) W 34 3 ty 5 i0 (.int .u8 0) .i64 .i64 Try.underlying34 Try.underlying3 hi hz0 (some ⟨g, 0, none⟩) n c (cellsB L) hf 8 (by omega) (by rw [hz1]; omega) (by omega) (by omega) (by rw [hz2]; omega) (growslice_fits (by omega) (by rw [hz2]; omega))
      have hge := grownCap_ge W (n + 8) c 5
      have hcm2 : grownCap W (n + 8) c 5 ≤ maxLen := grownCap_le_maxLen W (n + 8) c 5 (by unfold maxLen; omega)
      refine ⟨W.heap.size, _, _, hr, ?_, ?_⟩
      · show World.ownsRow _ _ _ _ _ _ _
        refine ⟨by rw [cellsB_len, List.length_append, z8_len]; omega, .inr ⟨W.heap.size, _, _, rfl, hB, heap_alloc_new W.drew _, hge, hcm2, ?_, ?_⟩⟩
        · simp only [Array.size_append, List.size_toArray, size_zeroCells, cellsB_len]
          show L.length + 8 * 1 + _ * 1 = _
          omega
        · rw [Nat.mul_one]
          simp only [Array.toList_append, Value.cells, zc8]
          rw [cellsB_app]
          have : n + 8 = (cellsB L ++ cellsB z8).length := by rw [List.length_append, cellsB_len, cellsB_len, z8_len]; omega
          rw [this]
          exact List.take_left
      · exact (Below.refl B W).drew.alloc hB _
theorem news_blk2 {W : World} {g : Nat} {L : List Nat} (h : BkB W g L) : ∀ j u, (cellsB L)[j]? = some u → W.cell? ((⟨g, 0, none⟩ : Addr).add j) = some u := fun j u hu => by
  obtain ⟨z, hz, rfl⟩ := cellsB_at hu
  rw [Addr.add_lit, Nat.zero_add]
  exact h.cell hz
def h40 : List Nat := [80, 74, 1, 0]
def t40 : List Nat := [80, 82, 0, 0]
/-- Bytes of an answer in new memory. -/
def HdP (W : World) (L : List Nat) (e : Ending) (w' : World) : Prop :=
  ∃ g n c, e = .returned (.slice (some ⟨g, 0, none⟩) n c) ∧ Hid (n = L.length) ∧ Hid (w'.ownsRow W.heap.size 5 1 (.slice (some ⟨g, 0, none⟩) n c) n (cellsB L)) ∧ Hid (Below W.heap.size W w')
set_option maxRecDepth 100000 in
set_option maxHeartbeats 1000000 in
theorem headD (b : Nat) (W : World) (hb : b < 18446744073709551616) : Calls Try.prog 51 #[.int .u64 (b : Int)] W (HdP W (headB b)) := by
  unfold HdP
  have hA : Hid (BkB (W.alloc (.cells #[.int .u8 80, .int .u8 74, .int .u8 1, .int .u8 0] 5)) W.heap.size h40) := heap_new _ _
  have hW : Hid (Below W.heap.size W (W.alloc (.cells #[.int .u8 80, .int .u8 74, .int .u8 1, .int .u8 0] 5))) := (Below.refl _ _).alloc (Nat.le_refl _) _
  have hsz : Hid ((W.alloc (.cells #[.int .u8 80, .int .u8 74, .int .u8 1, .int .u8 0] 5)).heap.size = W.heap.size + 1) := size_alloc _ _
  have KN := hide' (numberD b 4 (W.alloc (.cells #[.int .u8 80, .int .u8 74, .int .u8 1, .int .u8 0] 5)) (by omega) (by omega) hb)
  rw [put4, show ((4 : Nat) : Int) = 4 from rfl] at KN
  go_enter Try.func51, Try.ntmps51
  go_wp2_with fail
  refine KN.out.mono ?_
  rintro e w1 ⟨rfl, hb1, hw1⟩
  have hown : Hid (w1.ownsRow W.heap.size 5 1 (.slice (some ⟨W.heap.size, 0, none⟩) 4 4) 4 (cellsB h40)) := ⟨rfl, .inr ⟨W.heap.size, 4, (cellsB h40).toArray, rfl, Nat.le_refl _, hA.out.below hw1.out (by rw [hsz.out]; omega), Nat.le_refl _, by unfold maxLen; omega, rfl, rfl⟩⟩
  have hbe1 : Hid (Below W.heap.size W w1) := hW.out.trans (hw1.out.mono (by rw [hsz.out]; omega))
  rw [hsz.out] at hb1
  have hnb := hide' (news_blk2 hb1.out)
  have hsz1 := hide' hbe1.out.size
  go_wp2_with (first | (at_builtin; refine appLr rfl (.tmp 5) (.tmp 7) rfl W.heap.size (.slice (some ⟨W.heap.size, 0, none⟩) 4 4) h40 4 rfl rfl hown.out ⟨W.heap.size + 1, 0, none⟩ 4 4 (b4 b) rfl rfl hnb.out hsz1.out (by simp [h40, b4]) (fun e => by cases e) ?_; intro g2 n2 c2 w2 hn2 hx2 hb2 hg2; obtain rfl : n2 = 8 := hn2.out; obtain ⟨g3, c3, w3, hr3, hx3, hb3⟩ := run_zeros8 34 hx2.out (Nat.le_trans hbe1.out.size (by have := hb2.out.size; exact this)) (by omega)) | (at_builtin; refine Lib.wpList_append_run _ rfl _ _ _ _ rfl _ _ rfl rfl _ _ hr3 ?_))
  go_ret
  exact ⟨g3, 16, c3, rfl, rfl, hx3, hbe1.out.trans (hb2.out.trans hb3.out)⟩
set_option maxRecDepth 100000 in
set_option maxHeartbeats 1000000 in
theorem titleD (m c : Nat) (W : World) (hm : m < 4294967296) (hc : c < 18446744073709551616) : Calls Try.prog 53 #[.int .i64 (m : Int), .int .u64 (c : Int)] W (HdP W (titleB m c)) := by
  unfold HdP
  have hA : Hid (BkB (W.alloc (.cells #[.int .u8 80, .int .u8 82, .int .u8 0, .int .u8 0] 5)) W.heap.size t40) := heap_new _ _
  have hW : Hid (Below W.heap.size W (W.alloc (.cells #[.int .u8 80, .int .u8 82, .int .u8 0, .int .u8 0] 5))) := (Below.refl _ _).alloc (Nat.le_refl _) _
  have hsz : Hid ((W.alloc (.cells #[.int .u8 80, .int .u8 82, .int .u8 0, .int .u8 0] 5)).heap.size = W.heap.size + 1) := size_alloc _ _
  have KN := hide' (numberD m 4 (W.alloc (.cells #[.int .u8 80, .int .u8 82, .int .u8 0, .int .u8 0] 5)) (by omega) (by omega) (by omega))
  rw [put4, show ((4 : Nat) : Int) = 4 from rfl] at KN
  have KN2 := hide' (fun V => numberD c 8 V (by omega) (by omega) hc)
  rw [put8, show ((8 : Nat) : Int) = 8 from rfl] at KN2
  go_enter Try.func53, Try.ntmps53
  go_wp2_with fail
  refine KN.out.mono ?_
  rintro e w1 ⟨rfl, hb1, hw1⟩
  have hown : Hid (w1.ownsRow W.heap.size 5 1 (.slice (some ⟨W.heap.size, 0, none⟩) 4 4) 4 (cellsB t40)) := ⟨rfl, .inr ⟨W.heap.size, 4, (cellsB t40).toArray, rfl, Nat.le_refl _, hA.out.below hw1.out (by rw [hsz.out]; omega), Nat.le_refl _, by unfold maxLen; omega, rfl, rfl⟩⟩
  have hbe1 : Hid (Below W.heap.size W w1) := hW.out.trans (hw1.out.mono (by rw [hsz.out]; omega))
  rw [hsz.out] at hb1
  have hnb := hide' (news_blk2 hb1.out)
  have hsz1 := hide' hbe1.out.size
  go_wp2_with (at_builtin; refine appLr rfl (.tmp 7) (.tmp 10) rfl W.heap.size (.slice (some ⟨W.heap.size, 0, none⟩) 4 4) t40 4 rfl rfl hown.out ⟨W.heap.size + 1, 0, none⟩ 4 4 (b4 m) rfl rfl hnb.out hsz1.out (by simp [t40, b4]) (fun e => by cases e) ?_; intro g2 n2 c2 w2 hn2 hx2 hb2 hg2; obtain rfl : n2 = 8 := hn2.out)
  refine (KN2.out w2).mono ?_
  rintro e w3 ⟨rfl, hb3, hw3⟩
  have hbe2 : Hid (Below W.heap.size W w2) := hbe1.out.trans hb2.out
  have hx3 := hide' (own_up hx2.out hw3.out)
  have hnb3 := hide' (news_blk2 hb3.out)
  have hsz3 := hide' (Nat.le_trans hbe2.out.size hw3.out.size)
  go_wp2_with (at_builtin; refine appLr rfl (.tmp 12) (.tmp 14) rfl W.heap.size (.slice (some ⟨g2, 0, none⟩) 8 c2) (t40 ++ b4 m) 8 rfl rfl hx3.out ⟨w2.heap.size, 0, none⟩ 8 8 (b8 c) rfl rfl hnb3.out hsz3.out (by simp [t40, b4, b8]) (fun e => by cases e) ?_; intro g4 n4 c4 w4 hn4 hx4 hb4 hg4)
  go_ret
  exact ⟨g4, n4, c4, rfl, hn4, hx4, hbe2.out.trans ((hw3.out.mono hbe2.out.size).trans hb4.out)⟩
end Go.Proofs.Ytmhbidnpfefjpaa

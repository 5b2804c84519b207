/- timesOf, count: what they answer. -/
import Derived.Test.YtahfobbiaimoiaaGreatDoorJ10
import Derived.Test.YtahfobbiaimoiaaGreatDoorJ11
namespace Go.Proofs.YtahfobbiaimoiaaGreatDoor
open Go.RowKit
theorem ris_nat {n lo : Int} {S : List Int} (h : ris n lo S = true) (h0 : 0 ≤ lo) : ∃ T : List Nat, S = ints T := by
  induction S generalizing lo with
  | nil => exact ⟨[], rfl⟩
  | cons a l ih =>
    simp [ris] at h
    obtain ⟨T, hT⟩ := ih h.2 (by omega)
    exact ⟨a.toNat :: T, by rw [hT]; simp [ints]; omega⟩
/-- Numbers that rise. -/
def Rise (T : List Nat) : Prop := ∀ (i j x y : Nat), i < j → T[i]? = some x → T[j]? = some y → x < y
theorem rise_of {n lo : Int} {T : List Nat} (h : ris n lo (ints T) = true) : Rise T := fun i j x y hij hx hy => by
  have := ris_pair h hij (ints_at hx) (ints_at hy)
  omega
theorem ints_take (T : List Nat) (c : Nat) : ints (T.take c) = (ints T).take c := by simp [ints, List.map_take]
theorem labs_more {L : List Int} {T : List Nat} {c t : Nat} {y : Int} (ht : T[c]? = some t) (hy : L[t]? = some y) : labs L (ints (T.take (c + 1))) = labs L (ints (T.take c)) ++ [y] := by
  rw [take_snoc ht, show ints (T.take c ++ [t]) = ints (T.take c) ++ [(t : Int)] by simp [ints], labs_snoc, Int.toNat_natCast, hy]
theorem labs_same {L : List Int} {T : List Nat} {c t : Nat} (ht : T[c]? = some t) (hy : L[t]? = none) : labs L (ints (T.take (c + 1))) = labs L (ints (T.take c)) := by
  rw [take_snoc ht, show ints (T.take c ++ [t]) = ints (T.take c) ++ [(t : Int)] by simp [ints], labs_snoc, Int.toNat_natCast, hy]
  simp
theorem labs_le (L : List Int) (T : List Nat) (c : Nat) : (labs L (ints (T.take c))).length ≤ c := by
  refine Nat.le_trans (labs_len _ _) ?_
  rw [ints_len, List.length_take]; omega
theorem labs_count (L : List Int) (T : List Nat) (c : Nat) (x : Int) : (labs L (ints (T.take c))).count x ≤ c := Nat.le_trans List.count_le_length (labs_le L T c)
set_option maxRecDepth 100000 in
set_option maxHeartbeats 2000000 in
theorem timesOf (x : Int) (T : List Nat) (L : List Int) (sv lv : Value) (w : World) (hs : RowI w sv (ints T)) (hl : RowI w lv L) (hT : ∀ t ∈ T, t < L.length) (hn : T.length ≤ 1000000) :
    Calls Tryz.prog 153 #[.int .i64 x, sv, lv] w fun e w' => e = .returned (.int .i64 (((labs L (ints T)).count x : Nat) : Int)) ∧ w' = w := by
  obtain ⟨oa, ca, rfl, _, hca⟩ := hs
  obtain ⟨ob, cb, rfl, _, hcb⟩ := hl
  rw [ints_len]
  have hca' := hide' hca
  have hcb' := hide' hcb
  have hT' := hide' hT
  clear hca hcb hT
  go_enter Tryz.func153, Tryz.ntmps153
  go_wp2
  go_loop [7, 9, 12] (fun m _ k => ∃ (c q : Nat), c ≤ T.length ∧ k = .int .i64 c ∧ m = .int .i64 q ∧ q ≤ c ∧ Hid (q = (labs L (ints (T.take c))).count x)) (fun _ _ k => ((T.length : Int) - intOf k).toNat)
  case atStart => exact ⟨0, 0, Nat.zero_le _, rfl, rfl, Nat.le_refl _, by show _ = _; simp [ints, labs]⟩
  case round =>
    obtain ⟨c, q, hc, rfl, rfl, hqc, hq⟩ := hrel
    by_cases hlt : c < T.length
    · obtain ⟨t, ht⟩ : ∃ t, T[c]? = some t := ⟨_, List.getElem?_eq_getElem hlt⟩
      have htl := hT'.out t (List.mem_of_getElem? ht)
      obtain ⟨y, hy⟩ : ∃ y, L[t]? = some y := ⟨_, List.getElem?_eq_getElem htl⟩
      obtain ⟨g, o, rfl, c1⟩ := hca'.out c t (ints_at ht)
      obtain ⟨g2, o2, rfl, c2⟩ := hcb'.out t y hy
      have hN : Hid ((labs L (ints (T.take (c + 1)))).count x = q + if y = x then 1 else 0) := by
        show _ = _
        rw [labs_more ht hy, List.count_append, ← hq.out, List.count_singleton]
        simp
      have htl' : (t : Int) < (L.length : Int) := by omega
      clear ht hy hq hca' hcb' hT'
      by_cases hxy : y = x
      · subst hxy
        rw [if_pos rfl] at hN
        go_wp2
        exact ⟨⟨c + 1, q + 1, by omega, by go_num, by go_num, by omega, hN.out.symm⟩, by simp [intOf]; omega⟩
      · have hd : (y == x) = false := by simpa using hxy
        rw [if_neg hxy] at hN
        clear hxy
        go_wp2
        exact ⟨⟨c + 1, q, by omega, by go_num, by go_num, by omega, hN.out.symm⟩, by simp [intOf]; omega⟩
    · obtain rfl : c = T.length := by omega
      rw [List.take_length] at hq
      clear hca' hcb' hT'
      go_wp2
      go_ret
      exact ⟨ret_int (by rw [hq.out]), rfl⟩
/-- What was counted, as a value. -/
def cv (k : Int) (m u o : Nat) : Value := .agg #[.int .i64 k, .int .i64 (m : Int), .int .i64 (u : Int), .int .i64 (o : Int)]
/-- The boxes of count: the rule, what is told, what is counted. -/
structure Cb (w wr : World) (a b : Int) (oa : Option Addr) (n cap : Nat) (m u o : Nat) : Prop where
  rule : wr.heap[w.heap.size]? = some (.cells #[.int .i64 a, .int .i64 b, .slice oa n cap] 82 (0, 0))
  told : wr.heap[w.heap.size + 1]? = some (.cells #[.int .i64 0, .int .i64 0, .int .i64 0, .int .i64 0] 174 (0, 0))
  cnt : wr.heap[w.heap.size + 2]? = some (.cells #[.int .i64 b, .int .i64 (m : Int), .int .i64 (u : Int), .int .i64 (o : Int)] 174 (0, 0))
  bl : Below w.heap.size w wr
theorem Cb.drew {w wr : World} {a b : Int} {oa : Option Addr} {n cap m u o : Nat} (h : Cb w wr a b oa n cap m u o) : Cb w wr.drew a b oa n cap m u o := ⟨h.rule, h.told, h.cnt, h.bl.drew⟩
theorem Cb.cells {w wr : World} {a b : Int} {oa : Option Addr} {n cap m u o : Nat} (h : Cb w wr a b oa n cap m u o) :
    wr.cell? ⟨w.heap.size, 2, none⟩ = some (.slice oa n cap) ∧ wr.cell? ⟨w.heap.size + 2, 0, none⟩ = some (.int .i64 b) ∧ wr.cell? ⟨w.heap.size + 2, 1, none⟩ = some (.int .i64 (m : Int)) ∧ wr.cell? ⟨w.heap.size + 2, 2, none⟩ = some (.int .i64 (u : Int)) ∧ wr.cell? ⟨w.heap.size + 2, 3, none⟩ = some (.int .i64 (o : Int)) := by
  simp [World.cell?, h.rule, h.cnt]
theorem Cb.toldc {w wr : World} {a b : Int} {oa : Option Addr} {n cap m u o : Nat} (h : Cb w wr a b oa n cap m u o) :
    wr.cell? ⟨w.heap.size + 1, 0, none⟩ = some (.int .i64 0) ∧ wr.cell? ⟨w.heap.size + 1, 1, none⟩ = some (.int .i64 0) ∧ wr.cell? ⟨w.heap.size + 1, 2, none⟩ = some (.int .i64 0) ∧ wr.cell? ⟨w.heap.size + 1, 3, none⟩ = some (.int .i64 0) := by
  simp [World.cell?, h.told]
theorem push3 (h : Array Obj) (a b c : Obj) : (((h.push a).push b).push c)[h.size]? = some a ∧ (((h.push a).push b).push c)[h.size + 1]? = some b ∧ (((h.push a).push b).push c)[h.size + 2]? = some c := by
  refine ⟨?_, ?_, ?_⟩
  · rw [Array.getElem?_push, if_neg (by simp; omega), Array.getElem?_push, if_neg (by simp), Array.getElem?_push, if_pos rfl]
  · rw [Array.getElem?_push, if_neg (by simp), Array.getElem?_push, if_pos (by simp)]
  · rw [Array.getElem?_push, if_pos (by simp)]
theorem Cb.drewN {w wr : World} {a b : Int} {oa : Option Addr} {n cap m u o : Nat} (h : Cb w wr a b oa n cap m u o) (k : Nat) : Cb w (wr.drewN k) a b oa n cap m u o := ⟨h.rule, h.told, h.cnt, ⟨h.bl.1, h.bl.2, h.bl.3, h.bl.4, h.bl.5⟩⟩
theorem drew_belowR (w : World) (n : Nat) : Below w.heap.size w (w.drewN n) := ⟨rfl, rfl, rfl, Nat.le_refl _, fun _ _ => rfl⟩
theorem wr1R (k : Nat) (h : k < 1000000) : IntKind.i64.wrap ((k : Int) + 1) = (k : Int) + 1 := by
  rw [IntKind.wrap_i64]
  omega
theorem Cb.frozen {w wr : World} {a b : Int} {oa : Option Addr} {n cap m u o : Nat} (h : Cb w wr a b oa n cap m u o) (i : Nat) : wr.frozen? ⟨w.heap.size + 2, i, none⟩ = false ∧ wr.frozen? ⟨w.heap.size + 1, i, none⟩ = false := by
  simp [World.frozen?, h.cnt, h.told]
theorem Cb.set {w wr : World} {a b : Int} {oa : Option Addr} {n cap m u o m' u' o' : Nat} (h : Cb w wr a b oa n cap m u o) (i : Nat) (v : Value) (e : (#[Value.int .i64 b, .int .i64 (m : Int), .int .i64 (u : Int), .int .i64 (o : Int)] : Array Value).setIfInBounds i v = #[.int .i64 b, .int .i64 (m' : Int), .int .i64 (u' : Int), .int .i64 (o' : Int)]) : Cb w (wr.setCell ⟨w.heap.size + 2, i, none⟩ v) a b oa n cap m' u' o' := by
  refine ⟨(heap_setCell_other wr _ _ v (by show w.heap.size ≠ w.heap.size + 2; omega)).trans h.rule, (heap_setCell_other wr _ _ v (by show w.heap.size + 1 ≠ w.heap.size + 2; omega)).trans h.told, ?_, h.bl.setCell (by show w.heap.size ≤ w.heap.size + 2; omega) v⟩
  rw [← e]
  exact heap_setCell_same wr _ i _ _ v h.cnt
set_option maxRecDepth 100000 in
set_option maxHeartbeats 4000000 in
theorem countF (a b : Int) (T : List Nat) (L : List Int) (sv lv : Value) (w : World) (hs : RowI w sv (ints T)) (hl : RowI w lv L) (hR : Rise T) (hn : T.length ≤ 1000) :
    Calls Tryz.prog 130 #[.agg #[.int .i64 a, .int .i64 b, sv], lv] w fun e w' => e = .returned (cv b (mst (labs L (ints T))) (unl (labs L (ints T))) (T.length - (labs L (ints T)).length)) ∧ Below w.heap.size w w' := by
  have hs0 := hide' hs
  have hl0 := hide' hl
  obtain ⟨oa, ca, rfl, hcapa, hca⟩ := hs
  obtain ⟨ob, cb, rfl, hcapb, hcb⟩ := hl
  rw [ints_len] at hs0 ⊢
  have hca' := hide' hca
  have hcb' := hide' hcb
  have hR' := hide' hR
  clear hca hcb hR
  go_enter Tryz.func130, Tryz.ntmps130
  go_wp2
  go_loopw [6, 7, 8, 15] (fun _ _ _ k wr => ∃ (c m u o : Nat), c ≤ T.length ∧ k = .int .i64 c ∧ Hid (Cb w wr a b oa T.length ca m u o) ∧ m ≤ c ∧ u ≤ c ∧ o ≤ c ∧ Hid (m = mst (labs L (ints (T.take c))) ∧ u = unl (labs L (ints (T.take c))) ∧ o + (labs L (ints (T.take c))).length = c)) (fun _ _ _ k _ => ((T.length : Int) - intOf k).toNat)
  case atStart =>
    refine ⟨0, 0, 0, 0, Nat.zero_le _, rfl, ?_, Nat.le_refl _, Nat.le_refl _, Nat.le_refl _, ⟨rfl, rfl, rfl⟩⟩
    refine ⟨?_, ?_, ?_, (((Below.refl _ w).alloc (Nat.le_refl _) _).alloc (by simp) _).alloc (by simp; omega) _⟩
    · exact (push3 w.heap _ _ _).1
    · exact (push3 w.heap _ _ _).2.1
    · exact (push3 w.heap _ _ _).2.2
  case round =>
    obtain ⟨c, m, u, o, hc, rfl, hC, hm1, hu1, ho1, hq⟩ := hrel
    obtain ⟨k0, k1, k2, k3, k4⟩ := hC.out.cells
    by_cases hlt : c < T.length
    · obtain ⟨t, ht⟩ : ∃ t, T[c]? = some t := ⟨_, List.getElem?_eq_getElem hlt⟩
      obtain ⟨g, p, rfl, c1'⟩ := hca'.out c t (ints_at ht)
      have c1 := (hC.out.bl.cell (p := ⟨g, p + c, none⟩) (cell_lt c1')).trans c1'
      by_cases htl : t < L.length
      · obtain ⟨y, hy⟩ : ∃ y, L[t]? = some y := ⟨_, List.getElem?_eq_getElem htl⟩
        obtain ⟨g2, p2, rfl, c2'⟩ := hcb'.out t y hy
        have c2 := (hC.out.bl.cell (p := ⟨g2, p2 + t, none⟩) (cell_lt c2')).trans c2'
        have htl' : (t : Int) < (L.length : Int) := by omega
        have htl2 : decide ((L.length : Int) ≤ (t : Int)) = false := decide_eq_false (by omega)
        have hcca : c ≤ ca := by have := hcapa.1; rw [ints_len] at this; omega
        have hcca' : (c : Int) ≤ (ca : Int) := by omega
        have hall : ∀ t' ∈ T.take c, t' < L.length := fun t' h' => by
          obtain ⟨i, hi⟩ := List.getElem?_of_mem h'
          rw [List.getElem?_take] at hi
          split at hi
          · have := hR'.out i c t' t (by omega) hi ht; omega
          · cases hi
        obtain ⟨q, hqe⟩ : ∃ q, q = (labs L (ints (T.take c))).count y := ⟨_, rfl⟩
        have hqc : q ≤ c := by rw [hqe]; exact labs_count L T c y
        have KT : Hid (∀ n, Calls Tryz.prog 153 #[.int .i64 y, .slice (some ⟨g, p, none⟩) c ca, .slice (some ⟨g2, p2, none⟩) L.length cb] (wr.drewN n) fun e w' => e = .returned (.int .i64 (q : Int)) ∧ w' = wr.drewN n) := fun n => by
          have hB : Below w.heap.size w (wr.drewN n) := hC.out.bl.trans ((drew_belowR wr n).mono hC.out.bl.size)
          have hs1 : RowI w (.slice (some ⟨g, p, none⟩) (ints T).length ca) (ints T) := by rw [ints_len]; exact hs0.out
          have := timesOf y (T.take c) L _ _ (wr.drewN n) (by rw [ints_take]; exact (row_take hs1 (n := c) (by rw [ints_len]; omega)).below hB (Nat.le_refl _)) (hl0.out.below hB (Nat.le_refl _)) hall (by rw [List.length_take]; omega)
          rwa [← hqe] at this
        obtain ⟨hq1, hq2, hq3⟩ := hq.out
        have hM : Hid (mst (labs L (ints (T.take (c + 1)))) = max m (q + 1)) := by show _ = _; rw [labs_more ht hy, mst_snoc, ← hq1, ← hqe]
        have hU : Hid (unl (labs L (ints (T.take (c + 1)))) = u + if q = 0 then 1 else 0) := by
          show _ = _
          rw [labs_more ht hy, unl_snoc, ← hq2]
          by_cases h0 : q = 0
          · rw [if_pos h0, if_neg (by rw [← List.count_pos_iff]; omega)]
          · rw [if_neg h0, if_pos (by rw [← List.count_pos_iff]; omega)]
        have hO : Hid (o + (labs L (ints (T.take (c + 1)))).length = c + 1) := by show _ = _; rw [labs_more ht hy, List.length_append, List.length_singleton]; omega
        have hwr : IntKind.i64.wrap (1 + (q : Int)) = 1 + (q : Int) := by rw [Int.add_comm]; exact wr1R q (by omega)
        have hwr2 : IntKind.i64.wrap ((q : Int) + 1) = (q : Int) + 1 := wr1R q (by omega)
        clear hs0 hl0 hca' hcb' hR' ht hy c1' c2' hq hq1 hq2 hq3 hqe hall hcapa hcapb
        have hS : Hid (wr.drew.cell? ⟨g2, p2 + t, none⟩ = some (.int .i64 y) ∧ wr.drew.cell? ⟨w.heap.size, 2, none⟩ = some (.slice (some ⟨g, p, none⟩) T.length ca)) := ⟨c2, k0⟩
        have hC' := hide' (hC.out.drewN 1)
        clear hC
        go_wp2_with fail
        go_region_held3 (fun V => V.cell? ⟨g2, p2 + t, none⟩ = some (.int .i64 y) ∧ V.cell? ⟨w.heap.size, 2, none⟩ = some (.slice (some ⟨g, p, none⟩) T.length ca)) (first | (assumption) | (exact hS.out)) (first | (go_at_call 153; refine (KT.out 1).mono ?_; rintro e w3 ⟨rfl, rfl⟩))
        obtain ⟨k0', k1', k2', k3', k4'⟩ := hC'.out.cells
        have f1 := (hC'.out.frozen 1).1
        have f2 := (hC'.out.frozen 2).1
        clear k0 k1 k2 k3 k4 KT hS c1 c2
        generalize wr.drewN 1 = w3 at *
        by_cases h0 : q = 0
        · have e0 : (1 + (q : Int) == 1) = true := by simp; omega
          rw [if_pos h0] at hU
          by_cases hmq : m < q + 1
          · have hmq' : (m : Int) < 1 + (q : Int) := by omega
            have hM' : Hid (mst (labs L (ints (T.take (c + 1)))) = q + 1) := by show _ = _; rw [hM.out]; omega
            go_wp2
            exact ⟨⟨c + 1, q + 1, u + 1, o, by omega, by go_num, (hC'.out.set (m' := m) (u' := u + 1) (o' := o) 2 _ (by simp)).set 1 _ (by simp; omega), by omega, by omega, by omega, ⟨hM'.out.symm, hU.out.symm, hO.out⟩⟩, by simp [intOf]; omega⟩
          · have hmq' : ¬ (m : Int) < 1 + (q : Int) := by omega
            have hM' : Hid (mst (labs L (ints (T.take (c + 1)))) = m) := by show _ = _; rw [hM.out]; omega
            go_wp2
            exact ⟨⟨c + 1, m, u + 1, o, by omega, by go_num, (hC'.out.set (m' := m) (u' := u + 1) (o' := o) 2 _ (by simp)).set 1 _ (by simp), by omega, by omega, by omega, ⟨hM'.out.symm, hU.out.symm, hO.out⟩⟩, by simp [intOf]; omega⟩
        · have e0 : (1 + (q : Int) == 1) = false := by simp; omega
          rw [if_neg h0] at hU
          by_cases hmq : m < q + 1
          · have hmq' : (m : Int) < 1 + (q : Int) := by omega
            have hM' : Hid (mst (labs L (ints (T.take (c + 1)))) = q + 1) := by show _ = _; rw [hM.out]; omega
            go_wp2
            exact ⟨⟨c + 1, q + 1, u, o, by omega, by go_num, hC'.out.set 1 _ (by simp; omega), by omega, by omega, by omega, ⟨hM'.out.symm, hU.out.symm, hO.out⟩⟩, by simp [intOf]; omega⟩
          · have hmq' : ¬ (m : Int) < 1 + (q : Int) := by omega
            have hM' : Hid (mst (labs L (ints (T.take (c + 1)))) = m) := by show _ = _; rw [hM.out]; omega
            go_wp2
            exact ⟨⟨c + 1, m, u, o, by omega, by go_num, hC'.out.set 1 _ (by simp), by omega, by omega, by omega, ⟨hM'.out.symm, hU.out.symm, hO.out⟩⟩, by simp [intOf]; omega⟩
      · have htl' : ¬ (t : Int) < (L.length : Int) := by omega
        have hO : Hid (mst (labs L (ints (T.take (c + 1)))) = m ∧ unl (labs L (ints (T.take (c + 1)))) = u ∧ o + 1 + (labs L (ints (T.take (c + 1)))).length = c + 1) := by
          obtain ⟨hq1, hq2, hq3⟩ := hq.out
          rw [labs_same ht (List.getElem?_eq_none (by omega))]
          exact ⟨hq1.symm, hq2.symm, by omega⟩
        have f3 := (hC.out.frozen 3).1
        clear hs0 hl0 hca' hcb' hR' ht hq c1'
        go_wp2
        exact ⟨⟨c + 1, m, u, o + 1, by omega, by go_num, hC.out.set 3 _ (by simp), by omega, by omega, by omega, ⟨hO.out.1.symm, hO.out.2.1.symm, hO.out.2.2⟩⟩, by simp [intOf]; omega⟩
    · obtain rfl : c = T.length := by omega
      rw [List.take_length] at hq
      clear hs0 hl0 hca' hcb' hR'
      have f0 := (hC.out.frozen 0).2
      have f1 := (hC.out.frozen 1).2
      have f2 := (hC.out.frozen 2).2
      have f3 := (hC.out.frozen 3).2
      obtain ⟨t0, t1, t2, t3⟩ := hC.out.toldc
      go_wp2
      refine bodyPost_ret (v := .agg #[.int .i64 b, .int .i64 (m : Int), .int .i64 (u : Int), .int .i64 (o : Int)]) (by simp [results, Tryz.results130, go_sem, t0, t1, t2, t3]) rfl ?_
      refine ⟨?_, (((hC.out.bl.setCell (Nat.le_succ _) _).setCell (Nat.le_succ _) _).setCell (Nat.le_succ _) _).setCell (Nat.le_succ _) _⟩
      obtain ⟨q1, q2, q3⟩ := hq.out
      rw [← q1, ← q2, show T.length - (labs L (ints T)).length = o by omega]
      rfl
end Go.Proofs.YtahfobbiaimoiaaGreatDoor

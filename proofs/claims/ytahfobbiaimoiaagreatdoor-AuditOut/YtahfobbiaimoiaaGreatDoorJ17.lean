/- slices.Repeat of one state. -/
import Derived.Test.YtahfobbiaimoiaaGreatDoorJ13
import Derived.Laws.CopyRow
import Derived.Laws.MakeOwn
import Derived.Deep.RegionHeld3
namespace Go.Proofs.YtahfobbiaimoiaaGreatDoor
open Go.RowKit
set_option maxHeartbeats 4000000 in
theorem mul64F (n : Nat) (h1 : 1 ≤ n) (h12 : n ≤ 12) (w : World) : Calls Tryz.prog 141 #[.int .u64 1, .int .u64 n] w fun e w' => e = .returned (.tuple #[.int .u64 0, .int .u64 n]) ∧ w' = w := by
  have h : n = 1 ∨ n = 2 ∨ n = 3 ∨ n = 4 ∨ n = 5 ∨ n = 6 ∨ n = 7 ∨ n = 8 ∨ n = 9 ∨ n = 10 ∨ n = 11 ∨ n = 12 := by omega
  rcases h with rfl | rfl | rfl | rfl | rfl | rfl | rfl | rfl | rfl | rfl | rfl | rfl
  all_goals
    go_enter Tryz.func141, Tryz.ntmps141
    go_wp2
    go_ret2
    exact ⟨rfl, rfl⟩
set_option maxHeartbeats 1000000 in
theorem mulF (n : Nat) (h1 : 1 ≤ n) (h12 : n ≤ 12) (w : World) : Calls Tryz.prog 118 #[.int .u64 1, .int .u64 n] w fun e w' => e = .returned (.tuple #[.int .u64 0, .int .u64 n]) ∧ w' = w := by
  have K := hide' (mul64F n h1 h12 w)
  go_enter Tryz.func118, Tryz.ntmps118
  go_wp2_with (go_at_call 141; refine K.out.mono ?_; rintro e w1 ⟨rfl, hw⟩; obtain rfl : w = w1 := hw.symm)
  go_ret2
  exact ⟨rfl, rfl⟩
theorem run_copyK {P : Program} (w : World) (dT sT ty elem : TypeId) (k g o dLen dCap : Nat) (a : Addr) (sLen sCap : Nat) (cur : Array Value) (t : TypeId) (cs : List Value)
    (hu : P.underlying dT = some (.slice elem)) (hs : (P.info? elem).map (·.size) = some k)
    (hg : w.heap[g]? = some (.cells cur t (0, 0))) (m : Nat) (hm : min sLen dLen = m) (hn : cs.length = m * k)
    (hsrc : ∀ j v, cs[j]? = some v → w.cell? (a.add j) = some v) (hfit : o + cs.length ≤ cur.size) (h1 : ∀ v ∈ cs, v.oneCell' = true) :
    (Builtin.copy_ #[dT, sT] ty #[.slice (some ⟨g, o, none⟩) dLen dCap, .slice (some a) sLen sCap]).run P w =
      .ok (goInt (m : Nat)) (w.setRow g (cur.toList.take o ++ cs ++ cur.toList.drop (o + cs.length)).toArray) := by
  have hm' : Nat.min sLen dLen = m := hm
  have hl := run_loadCells_list (P := P) w a cs hsrc
  have hst := run_storeCells_at P g o t cs 0 cur w hg (by simpa using hfit) h1
  cases hq : P.info? elem with
  | none => simp [hq] at hs
  | some i =>
    have hi : i.size = k := by simpa [hq] using hs
    simp [Builtin.copy_, run_underlying hu, Builtin.lenOf, Builtin.firstCells, sizeOf, typeInfo, hq, hi, hm', ← hn, hl, hst]
theorem made0 (k : Nat) : (madeCells #[.int .i64 0, .int .i64 0, .int .i64 0, .int .i64 0] k).toList = List.replicate k (.int .i64 0) := by
  apply List.ext_getElem?
  intro i
  simp only [madeCells, Array.toList_map, Array.toList_range, List.getElem?_map, List.getElem?_replicate]
  by_cases h : i < k
  · rw [List.getElem?_range h, if_pos h]
    have : i % 4 = 0 ∨ i % 4 = 1 ∨ i % 4 = 2 ∨ i % 4 = 3 := by omega
    rcases this with e | e | e | e <;> simp [e]
  · rw [List.getElem?_eq_none (by simp; omega), if_neg h]; rfl
theorem makeS4 (m : Nat) (hm : m ≤ 64) (W : World) : (Instr.makeSlice 38 (.int .i64 (m : Int)) (.int .i64 (m : Int))).run Tryz.prog W = .ok (.slice (some ⟨W.heap.size, 0, none⟩) m m) (W.alloc (.cells (List.replicate (m * 4) (Value.int .i64 0)).toArray 42)) := by
  obtain ⟨i, z, hi, hz, hs, hb, _⟩ := elS.inf
  have hz' : i.zero = some (.agg #[.int .i64 0, .int .i64 0, .int .i64 0, .int .i64 0]) := by
    have h : (Tryz.prog.info? 42).map (fun i => i.zero) = some (some (.agg #[.int .i64 0, .int .i64 0, .int .i64 0, .int .i64 0])) := by kernel_rfl
    rw [hi] at h
    simpa using h
  have hr := run_make (P := Tryz.prog) W 38 42 i _ Tryz.underlying38 hi hz' .i64 .i64 m m (by omega) (Int.le_refl _) (by rw [hb]; omega) (by omega)
  simp only [Int.toNat_natCast, hs] at hr
  have e : madeCells (Value.agg #[.int .i64 0, .int .i64 0, .int .i64 0, .int .i64 0]).cells (m * 4) = (List.replicate (m * 4) (Value.int .i64 0)).toArray := by
    rw [show (Value.agg #[.int .i64 0, .int .i64 0, .int .i64 0, .int .i64 0]).cells = #[.int .i64 0, .int .i64 0, .int .i64 0, .int .i64 0] from rfl]
    apply Array.toList_inj.1
    rw [made0]
  rw [hr, e]
/-- The row half filled. -/
def repC (s : SS) (n j : Nat) : List Value := cellsSS (List.replicate j s) ++ List.replicate ((n - j) * 4) (.int .i64 0)
theorem cellsSS_rep (s : SS) (j : Nat) : (cellsSS (List.replicate j s)).length = j * 4 := by
  unfold cellsSS
  rw [four_len sscells sscells_len]; simp
theorem repC_len (s : SS) {n j : Nat} (h : j ≤ n) : (repC s n j).length = n * 4 := by
  unfold repC
  rw [List.length_append, cellsSS_rep, List.length_replicate]
  omega
theorem cellsSS_app (A B : List SS) : cellsSS (A ++ B) = cellsSS A ++ cellsSS B := by simp [cellsSS]
theorem repC_step (s : SS) {n j m : Nat} (h : j + m ≤ n) : (repC s n j).take (j * 4) ++ cellsSS (List.replicate m s) ++ (repC s n j).drop (j * 4 + (cellsSS (List.replicate m s)).length) = repC s n (j + m) := by
  unfold repC
  have e1 : (cellsSS (List.replicate j s) ++ List.replicate ((n - j) * 4) (Value.int .i64 0)).take (j * 4) = cellsSS (List.replicate j s) := by
    rw [List.take_append_of_le_length (by rw [cellsSS_rep]; omega), List.take_of_length_le (by rw [cellsSS_rep]; omega)]
  rw [e1, cellsSS_rep, List.drop_append, List.drop_of_length_le (by rw [cellsSS_rep]; omega), cellsSS_rep, List.nil_append, List.drop_replicate, ← cellsSS_app, List.replicate_append_replicate]
  congr 2
  omega
theorem ssone (L : List SS) : ∀ u ∈ cellsSS L, u.oneCell' = true := by
  intro u hu
  unfold cellsSS at hu
  obtain ⟨s, _, hs⟩ := List.mem_flatMap.1 hu
  simp [sscells] at hs
  rcases hs with rfl | rfl | rfl | rfl <;> rfl
theorem slL4 (g k l : Nat) (h1 : k < l) (W : World) : (Instr.sliceAt 38 (.slice (some ⟨g, 0, none⟩) l l) (some (.int .i64 (k : Int))) none none).run Tryz.prog W = .ok (.slice (some ⟨g, k * 4, none⟩) (l - k) (l - k)) W := by
  rw [run_sliceAt_slice _ _ _ _ _ _ (by kernel_rfl), run_slice_l _ _ _ _ _ (by kernel_rfl) _ _ (by omega) (by omega)]
  have h : ¬ l = k := by omega
  simp [go_sem, sliced, h, Addr.add]
  omega
theorem slH4 (g k l : Nat) (h1 : k < l) (W : World) : (Instr.sliceAt 38 (.slice (some ⟨g, 0, none⟩) l l) none (some (.int .i64 (k : Int))) none).run Tryz.prog W = .ok (.slice (some ⟨g, 0, none⟩) k l) W := by
  have e1 : ¬ l = 0 := by omega
  rw [run_sliceAt_slice _ _ _ _ _ _ (by kernel_rfl), run_slice_h _ _ _ _ _ (by kernel_rfl) _ _ (by omega) (by omega)]
  simp [go_sem, sliced, e1, Addr.add]
theorem rep_src {V : World} {g : Nat} {s : SS} {n j : Nat} (hg : V.heap[g]? = some (.cells (repC s n j).toArray 42 (0, 0))) {m : Nat} (hm : m ≤ j) : ∀ i v, (cellsSS (List.replicate m s))[i]? = some v → V.cell? ((⟨g, 0, none⟩ : Addr).add i) = some v := by
  intro i v h
  have hi := (List.getElem?_eq_some_iff.1 h).1
  rw [cellsSS_rep] at hi
  have e : (cellsSS (List.replicate j s))[i]? = some v := by
    have : List.replicate j s = List.replicate m s ++ List.replicate (j - m) s := by rw [List.replicate_append_replicate]; congr 1; omega
    rw [this, cellsSS_app, List.getElem?_append_left (by rw [cellsSS_rep]; omega)]
    exact h
  have e2 : (repC s n j)[i]? = some v := by
    unfold repC
    rw [List.getElem?_append_left (by rw [cellsSS_rep]; omega)]
    exact e
  rw [Addr.add_lit]
  simp only [World.cell?, hg]
  simpa using e2
set_option maxRecDepth 100000 in
set_option maxHeartbeats 4000000 in
theorem repeatF (gx : Nat) (s : SS) (n : Nat) (h1 : 1 ≤ n) (h12 : n ≤ 12) (w : World) (hx : ∀ i v, (sscells s)[i]? = some v → w.cell? ((⟨gx, 0, none⟩ : Addr).add i) = some v) :
    Calls Tryz.prog 78 #[.slice (some ⟨gx, 0, none⟩) 1 1, .int .i64 n] w fun e w' => ∃ g, e = .returned (.slice (some ⟨g, 0, none⟩) n n) ∧ w'.ownsRow w.heap.size 42 4 (.slice (some ⟨g, 0, none⟩) n n) n (cellsSS (List.replicate n s)) ∧ Below w.heap.size w w' := by
  have KM := hide' (mulF n h1 h12 w)
  have hmk := makeS4 n (by omega) w
  have hsz : (Tryz.prog.info? 42).map (·.size) = some 4 := by kernel_rfl
  have hxg : Hid (gx < w.heap.size) := World.block_lt_of_cell? w _ (hx 0 _ rfl)
  have hb1 : Below w.heap.size w (w.alloc (.cells (List.replicate (n * 4) (Value.int .i64 0)).toArray 42)) := (Below.refl _ w).alloc (Nat.le_refl _) _
  have hg1 := heap_alloc_new w (.cells (List.replicate (n * 4) (Value.int .i64 0)).toArray 42)
  have hcp := run_copyK (P := Tryz.prog) (w.alloc (.cells (List.replicate (n * 4) (Value.int .i64 0)).toArray 42)) 38 38 3 42 4 w.heap.size 0 n n ⟨gx, 0, none⟩ 1 1 _ _ (sscells s) Tryz.underlying38 hsz hg1 1 (by omega) rfl (fun j v hj => by rw [← hx j v hj, Addr.add_lit]; exact hb1.cell (p := ⟨gx, 0 + j, none⟩) hxg.out) (by simp [sscells]; omega) (by intro u hu; simp [sscells] at hu; rcases hu with rfl | rfl | rfl | rfl <;> rfl)
  have e1 : (List.replicate (n * 4) (Value.int .i64 0)).toArray.toList.take 0 ++ sscells s ++ (List.replicate (n * 4) (Value.int .i64 0)).toArray.toList.drop (0 + (sscells s).length) = repC s n 1 := by
    have := repC_step s (n := n) (j := 0) (m := 1) (by omega)
    simpa [repC, cellsSS] using this
  rw [e1] at hcp
  have hg2 : Hid (((w.alloc (.cells (List.replicate (n * 4) (Value.int .i64 0)).toArray 42)).setRow w.heap.size (repC s n 1).toArray).heap[w.heap.size]? = some (.cells (repC s n 1).toArray 42 (0, 0))) := setRow_heap _ _ _ _ _ _ hg1
  have hb2 : Hid (Below w.heap.size w ((w.alloc (.cells (List.replicate (n * 4) (Value.int .i64 0)).toArray 42)).setRow w.heap.size (repC s n 1).toArray)) := hb1.trans ⟨rfl, rfl, rfl, by simp [World.setRow], fun k hk => setRow_other _ _ k _ (by omega)⟩
  clear hg1 hb1 e1 hx hxg
  generalize (w.alloc (.cells (List.replicate (n * 4) (Value.int .i64 0)).toArray 42)).setRow w.heap.size (repC s n 1).toArray = W2 at *
  generalize (List.replicate (n * 4) (Value.int .i64 0)).toArray = Z at *
  go_enter Tryz.func78, Tryz.ntmps78
  go_wp2_with (go_at_call 118; refine KM.out.mono ?_; rintro e w1 ⟨rfl, hw⟩; obtain rfl : w = w1 := hw.symm)
  clear hcp hmk KM
  go_loopw [8] (fun k wr => ∃ j : Nat, 1 ≤ j ∧ j ≤ n ∧ k = .int .i64 j ∧ Hid (wr.heap[w.heap.size]? = some (.cells (repC s n j).toArray 42 (0, 0))) ∧ Hid (Below w.heap.size w wr)) (fun k _ => ((n : Int) - intOf k).toNat)
  case atStart => exact ⟨1, Nat.le_refl _, h1, rfl, hg2, hb2⟩
  case round =>
    clear hg2 hb2
    obtain ⟨j, hj1, hjn, rfl, hG, hB⟩ := hrel
    by_cases hlt : j < n
    · have hs1 := fun W => slL4 w.heap.size j n hlt W
      have hs2 := fun W => slH4 w.heap.size j n hlt W
      obtain ⟨m, hm⟩ : ∃ m, m = min j (n - j) := ⟨_, rfl⟩
      have hm1 : 1 ≤ m := by omega
      have hm2 : j + m ≤ n := by omega
      have hcp := run_copyK (P := Tryz.prog) wr.drew 38 38 3 42 4 w.heap.size (j * 4) (n - j) (n - j) ⟨w.heap.size, 0, none⟩ j n (repC s n j).toArray 42 (cellsSS (List.replicate m s)) Tryz.underlying38 hsz hG.out m hm.symm (cellsSS_rep s m) (rep_src hG.out (by omega)) (by rw [cellsSS_rep]; simp only [List.size_toArray]; rw [repC_len s hjn]; omega) (ssone _)
      have e2 : (repC s n j).toArray.toList.take (j * 4) ++ cellsSS (List.replicate m s) ++ (repC s n j).toArray.toList.drop (j * 4 + (cellsSS (List.replicate m s)).length) = repC s n (j + m) := repC_step s hm2
      rw [e2] at hcp
      have hG2 : Hid ((wr.drew.setRow w.heap.size (repC s n (j + m)).toArray).heap[w.heap.size]? = some (.cells (repC s n (j + m)).toArray 42 (0, 0))) := setRow_heap _ _ _ _ _ _ hG.out
      have hB2 : Hid (Below w.heap.size w (wr.drew.setRow w.heap.size (repC s n (j + m)).toArray)) := hB.out.drew.trans ⟨rfl, rfl, rfl, by simp [World.setRow], fun k hk => setRow_other _ _ k _ (by omega)⟩
      clear e2 hG hB hm
      generalize wr.drew.setRow w.heap.size (repC s n (j + m)).toArray = V2 at *
      have hwj : IntKind.i64.wrap ((j : Int) + (m : Int)) = (j : Int) + (m : Int) := by rw [IntKind.wrap_i64]; omega
      go_wp2
      go_region_held3 (fun _ => True) (first | (exact trivial)) (first | fail)
      go_wp2
      exact ⟨⟨j + m, by omega, hm2, by go_num, hG2, hB2⟩, by simp [intOf]; omega⟩
    · obtain rfl : j = n := by omega
      have hown : Hid (wr.ownsRow w.heap.size 42 4 (.slice (some ⟨w.heap.size, 0, none⟩) j j) j (cellsSS (List.replicate j s))) := by
        have e : repC s j j = cellsSS (List.replicate j s) := by unfold repC; simp
        rw [e] at hG
        exact ⟨cellsSS_rep s j, .inr ⟨_, j, _, rfl, Nat.le_refl _, hG.out, Nat.le_refl _, by unfold maxLen; omega, by simp [cellsSS_rep], by simp [List.take_of_length_le (show (cellsSS (List.replicate j s)).length ≤ j * 4 by rw [cellsSS_rep]; omega)]⟩⟩
      clear hG
      go_wp2
      go_ret
      exact ⟨_, rfl, hown.out, hB.out⟩
end Go.Proofs.YtahfobbiaimoiaaGreatDoor

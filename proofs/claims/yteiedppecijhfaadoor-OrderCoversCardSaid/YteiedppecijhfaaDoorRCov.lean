/- The document's Covers; Pairs of two rows. -/
import Derived.Test.YteiedppecijhfaaDoorRFns
import Derived.Test.YteiedppecijhfaaDoorOCov
namespace Go.Proofs.YteiedppecijhfaaDoor
open Go.RowKit Go.Shelf
/-- Ahead, and nothing of the first k places between. -/
def okK (R : Nat → Nat → Bool) (a b k : Nat) : Bool := R a b && (List.range k).all fun x => !(R a x && R x b)
theorem okK_snoc (R : Nat → Nat → Bool) (a b k : Nat) : okK R a b (k + 1) = (okK R a b k && !(R a k && R k b)) := by
  unfold okK; rw [List.range_succ, List.all_append, Bool.and_assoc]; simp
theorem okK_false {R : Nat → Nat → Bool} {a b k : Nat} (h : okK R a b k = false) : ∀ n, k ≤ n → okK R a b n = false := by
  intro n hn
  obtain ⟨d, rfl⟩ : ∃ d, n = k + d := ⟨n - k, by omega⟩
  clear hn
  induction d with
  | zero => exact h
  | succ d ih => rw [← Nat.add_assoc, okK_snoc, ih]; rfl
/-- The pairs of row a, up to b. -/
def cvRow (R : Nat → Nat → Bool) (m a b : Nat) : List (Int × Int) := ((List.range b).filter fun x => okK R a x m).map fun x : Nat => ((a : Int), (x : Int))
def cvK (R : Nat → Nat → Bool) (m k : Nat) : List (Int × Int) := (List.range k).flatMap fun a => cvRow R m a m
theorem cvK_snoc (R : Nat → Nat → Bool) (m k : Nat) : cvK R m (k + 1) = cvK R m k ++ cvRow R m k m := by
  unfold cvK; rw [List.range_succ, List.flatMap_append]; simp
theorem cvRow_snoc (R : Nat → Nat → Bool) (m a b : Nat) : cvRow R m a (b + 1) = cvRow R m a b ++ (if okK R a b m = true then [((a : Int), (b : Int))] else []) := by
  unfold cvRow; rw [List.range_succ, List.filter_append, List.map_append]
  congr 1
  by_cases h : okK R a b m = true <;> simp [h]
theorem cvRow_len (R : Nat → Nat → Bool) (m a b : Nat) : (cvRow R m a b).length ≤ b := by
  unfold cvRow; rw [List.length_map]
  have := List.length_filter_le (fun x => okK R a x m) (List.range b)
  rwa [List.length_range] at this
theorem cvK_len (R : Nat → Nat → Bool) (m : Nat) : ∀ k, (cvK R m k).length ≤ k * m
  | 0 => by simp [cvK]
  | k + 1 => by
    rw [cvK_snoc, List.length_append]
    have := cvK_len R m k
    have := cvRow_len R m k m
    rw [Nat.add_mul]
    omega
section
variable {w w0 : World} {go m : Nat} {R : Nat → Nat → Bool} {ov : Value} {gr : Nat → Nat}
set_option maxRecDepth 100000 in
set_option maxHeartbeats 1000000 in
theorem refCovers (hM : Mat w0 go m m R ov gr w) (hm : m ≤ 64) :
    Calls Tryd.prog 21 #[.pointer (some ⟨go, 0, none⟩)] w fun e w' => ∃ v, e = .returned v ∧ w'.ownsRow w.heap.size 53 2 v (cvK R m m).length (cellsP (cvK R m m)) ∧ Below w.heap.size w w' := by
  obtain ⟨i0, hi, hz0, hz1, hz2⟩ := info_q infoP
  have c0 := hM.c0
  go_enter Tryd.func21, Tryd.ntmps21
  go_wp2
  go_loopw [3, 4] (fun pl pa W => ∃ a : Nat, a ≤ m ∧ pa = .int .i64 a ∧ W.ownsRow w.heap.size 53 2 pl (cvK R m a).length (cellsP (cvK R m a)) ∧ Below w.heap.size w W) (fun _ pa _ => ((m : Int) - intOf pa).toNat)
  case atStart => exact ⟨0, Nat.zero_le _, rfl, World.ownsRow_nil _ _ _ _, Below.refl _ _⟩
  case round =>
    obtain ⟨a, ha, rfl, hrow, hB⟩ := hrel
    obtain ⟨oa, cap, rfl⟩ := owns_shape' hrow
    have cA := cell_over c0 hB
    by_cases hla : a < m
    · have hKl : (cvK R m a).length ≤ 4096 := by
        have := cvK_len R m a
        have : a * m ≤ 64 * 64 := Nat.mul_le_mul (by omega) hm
        omega
      have hr0 : Hid (cvK R m a ++ cvRow R m a 0 = cvK R m a) := by show _ = _; simp [cvRow]
      have hre : Hid (cvK R m a ++ cvRow R m a m = cvK R m (a + 1)) := (cvK_snoc R m a).symm
      rw [← hr0.out] at hrow
      go_wp2
      go_loopw [3, 5] (fun pl pb W => ∃ b : Nat, b ≤ m ∧ pb = .int .i64 b ∧ W.ownsRow w.heap.size 53 2 pl (cvK R m a ++ cvRow R m a b).length (cellsP (cvK R m a ++ cvRow R m a b)) ∧ Below w.heap.size w W) (fun _ pb _ => ((m : Int) - intOf pb).toNat)
      case atStart => exact ⟨0, Nat.zero_le _, rfl, by rw [hr0.out] at hrow ⊢; exact hrow, hB⟩
      case round =>
        clear hrow hB cA
        obtain ⟨b, hb, rfl, hrow, hB⟩ := hrel
        obtain ⟨oa, cap, rfl⟩ := owns_shape' hrow
        have cA := cell_over c0 hB
        by_cases hlb : b < m
        · obtain ⟨gt, capo, rfl⟩ := hM.shape (by omega)
          have d1 := cell_over hM.c1 hB
          have d2 := cell_over (hM.row rfl hla) hB
          have d3 := cell_over (hM.at hla hlb) hB
          have hMx := hide' (fun k (hk : k < m) => (cell_over (hM.row rfl hk) hB))
          have hMy := hide' (fun k (hk : k < m) => (cell_over (hM.at hla hk) hB))
          have hMz := hide' (fun k (hk : k < m) => (cell_over (hM.at hk hlb) hB))
          have hok0 : okK R a b 0 = R a b := by simp [okK]
          have hsn := hide' (okK_snoc R a b)
          have hfm : Hid (∀ k, okK R a b k = false → k ≤ m → okK R a b m = false) := fun k h hk => okK_false h m hk
          have hrl := cvRow_len R m a b
          have hstep := hide' (cvRow_snoc R m a b)
          rw [← hok0] at d3
          have hlen : (cvK R m a ++ cvRow R m a b).length ≤ 5000 := by rw [List.length_append]; omega
          have happ : Hid (cvK R m a ++ cvRow R m a (b + 1) = (cvK R m a ++ cvRow R m a b) ++ (if okK R a b m = true then [((a : Int), (b : Int))] else [])) := by show _ = _; rw [hstep.out, List.append_assoc]
          clear hok0 hrl hstep
          generalize cvK R m a ++ cvRow R m a b = C at *
          generalize gr a = ga at *
          go_wp2
          go_loopw [6, 7] (fun po pk W => ∃ (k : Nat) (t : Bool), k ≤ m ∧ pk = .int .i64 k ∧ po = .bool t ∧ Hid (okK R a b k = t) ∧ W = wr) (fun _ pk _ => ((m : Int) - intOf pk).toNat)
          case atStart => exact ⟨0, _, Nat.zero_le _, rfl, rfl, rfl, rfl⟩
          case round =>
            obtain ⟨k, t, hk, rfl, rfl, hkt, rfl⟩ := hrel
            have fin : ∀ {t2 : Bool}, okK R a b m = t2 → Hid (okK R a b m = t2) := fun h => h
            by_cases hlk : k < m
            · cases t with
              | true =>
                have e1 := hMx.out k hlk
                have e2 := hMy.out k hlk
                have e3 := hMz.out k hlk
                have hnx : Hid (okK R a b (k + 1) = !(R a k && R k b)) := by show _ = _; rw [hsn.out k, hkt.out]; rfl
                clear hkt fin
                cases h1 : R a k with
                | true =>
                  rw [h1] at e2 hnx
                  cases h2 : R k b with
                  | true =>
                    rw [h2] at e3 hnx
                    clear h1 h2
                    generalize gr k = gk at *
                    go_wp2
                    exact ⟨⟨k + 1, _, by omega, by go_num, rfl, hnx, trivial⟩, by simp [intOf]; omega⟩
                  | false =>
                    rw [h2] at e3 hnx
                    clear h1 h2
                    generalize gr k = gk at *
                    go_wp2
                    exact ⟨⟨k + 1, _, by omega, by go_num, rfl, hnx, trivial⟩, by simp [intOf]; omega⟩
                | false =>
                  rw [h1] at e2 hnx
                  rw [Bool.false_and] at hnx
                  clear h1 e1 e3
                  go_wp2
                  exact ⟨⟨k + 1, _, by omega, by go_num, rfl, hnx, trivial⟩, by simp [intOf]; omega⟩
              | false =>
                have hz := hide' (hfm.out k hkt.out hk)
                rw [hz.out] at happ
                have happ' : Hid (cvK R m a ++ cvRow R m a (b + 1) = C) := by show _ = _; have := happ.out; simpa using this
                clear happ hkt fin hz hfm hsn
                go_wp2
                exact ⟨⟨b + 1, by omega, by go_num, by rw [happ'.out]; exact hrow, hB⟩, by simp [intOf]; omega⟩
            · obtain rfl : k = m := by omega
              cases t with
              | true =>
                rw [hkt.out] at happ
                have happ' : Hid (cvK R k a ++ cvRow R k a (b + 1) = C ++ [((a : Int), (b : Int))]) := by show _ = _; have := happ.out; simpa using this
                have zB := hB.size
                have hr5 := hrow.alloc (.cells #[.int .i64 (a : Int), .int .i64 (b : Int)] 53)
                clear happ hkt fin hfm hsn
                go_wp2_with (at_builtin; refine wpList_append_own _ rfl _ _ 22 rfl w.heap.size 53 i0 (.agg #[.int .i64 0, .int .i64 0]) 2 16 Tryd.underlying22 hi hz0 hz1 hz2 rfl (by decide) (.slice oa C.length cap) C.length (cellsP C) rfl hr5 ⟨wr.heap.size, 0, none⟩ 1 1 [.int .i64 (a : Int), .int .i64 (b : Int)] rfl rfl (World.news_of_block (cs := #[.int .i64 (a : Int), .int .i64 (b : Int)]) (World.alloc_heap_new wr _)) (by simp [Value.oneCell']) (by unfold maxLen; omega) (by omega) (by simp; omega) ?_; intro v1 w5 hown1 hgrow1 hnil1; clear hnil1)
                have hge : ∀ g, (Value.slice oa C.length cap).ownBlock = some g → w.heap.size ≤ g := fun g e => by
                  rcases hr5.2 with ⟨h', _⟩ | ⟨g', cap', cur, h', hb', _⟩
                  · rw [h'] at e; cases e
                  · rw [h'] at e; cases e; exact hb'
                exact ⟨⟨b + 1, by omega, by go_num, by rw [happ'.out, List.length_append, cellsP_snoc]; exact hown1, (hB.alloc zB _).grown hgrow1 (by simp; omega) hge⟩, by simp [intOf]; omega⟩
              | false =>
                rw [hkt.out] at happ
                have happ' : Hid (cvK R k a ++ cvRow R k a (b + 1) = C) := by show _ = _; have := happ.out; simpa using this
                clear happ hkt fin hfm hsn
                go_wp2
                exact ⟨⟨b + 1, by omega, by go_num, by rw [happ'.out]; exact hrow, hB⟩, by simp [intOf]; omega⟩
        · obtain rfl : b = m := by omega
          go_wp2
          exact ⟨⟨a + 1, by omega, by go_num, by rw [← hre.out]; exact hrow, hB⟩, by simp [intOf]; omega⟩
    · obtain rfl : a = m := by omega
      go_wp2
      go_ret
      exact ⟨_, rfl, hrow, hB⟩
end
end Go.Proofs.YteiedppecijhfaaDoor

/- What both orders tell is the same: plain facts; Pairs of two like rows. -/
import Derived.Test.YtjimiabfgmchiaaDoorJ23
import Derived.Test.YtjimiabfgmchiaaDoorOCov
namespace Go.Proofs.YtjimiabfgmchiaaDoor
open Go.RowKit Go.Shelf
/-- Ahead, and nothing of the first k places between. -/
def okK (R : Nat → Nat → Bool) (a b k : Nat) : Bool := R a b && (List.range k).all fun x => !(R a x && R x b)
theorem okK_snoc (R : Nat → Nat → Bool) (a b k : Nat) : okK R a b (k + 1) = (okK R a b k && !(R a k && R k b)) := by
  unfold okK; rw [List.range_succ, List.all_append, Bool.and_assoc]; simp
theorem okK_false {R : Nat → Nat → Bool} {a b k : Nat} (h : okK R a b k = false) : ∀ n, k ≤ n → okK R a b n = false := by
  intro n hn
  obtain ⟨d, rfl⟩ : ∃ d, n = k + d := ⟨n - k, by omega⟩
  clear hn
  induction d with
  | zero => exact h
  | succ d ih => rw [← Nat.add_assoc, okK_snoc, ih]; rfl
/-- The pairs of row a, up to b. -/
def cvRow (R : Nat → Nat → Bool) (m a b : Nat) : List (Int × Int) := ((List.range b).filter fun x => okK R a x m).map fun x : Nat => ((a : Int), (x : Int))
def cvK (R : Nat → Nat → Bool) (m k : Nat) : List (Int × Int) := (List.range k).flatMap fun a => cvRow R m a m
theorem cvK_snoc (R : Nat → Nat → Bool) (m k : Nat) : cvK R m (k + 1) = cvK R m k ++ cvRow R m k m := by
  unfold cvK; rw [List.range_succ, List.flatMap_append]; simp
theorem cvRow_snoc (R : Nat → Nat → Bool) (m a b : Nat) : cvRow R m a (b + 1) = cvRow R m a b ++ (if okK R a b m = true then [((a : Int), (b : Int))] else []) := by
  unfold cvRow; rw [List.range_succ, List.filter_append, List.map_append]
  congr 1
  by_cases h : okK R a b m = true <;> simp [h]
theorem cvRow_len (R : Nat → Nat → Bool) (m a b : Nat) : (cvRow R m a b).length ≤ b := by
  unfold cvRow; rw [List.length_map]
  have := List.length_filter_le (fun x => okK R a x m) (List.range b)
  rwa [List.length_range] at this
theorem cvK_len (R : Nat → Nat → Bool) (m : Nat) : ∀ k, (cvK R m k).length ≤ k * m
  | 0 => by simp [cvK]
  | k + 1 => by
    rw [cvK_snoc, List.length_append]
    have := cvK_len R m k
    have := cvRow_len R m k m
    rw [Nat.add_mul]
    omega
section
variable {w w0 : World} {go m : Nat} {R : Nat → Nat → Bool} {ov : Value} {gr : Nat → Nat}
set_option maxRecDepth 100000 in
set_option maxHeartbeats 1000000 in
theorem refCovers (hM : Mat w0 go m m R ov gr w) (hm : m ≤ 64) :
    Calls Tryd.prog 16 #[.pointer (some ⟨go, 0, none⟩)] w fun e w' => ∃ v, e = .returned v ∧ w'.ownsRow w.heap.size 30 2 v (cvK R m m).length (cellsP (cvK R m m)) ∧ Below w.heap.size w w' := by
  obtain ⟨i0, hi, hz0, hz1, hz2⟩ := info_q infoP
  have c0 := hM.c0
  go_enter Tryd.func16, Tryd.ntmps16
  go_wp2
  go_loopw [3, 4] (fun pl pa W => ∃ a : Nat, a ≤ m ∧ pa = .int .i64 a ∧ W.ownsRow w.heap.size 30 2 pl (cvK R m a).length (cellsP (cvK R m a)) ∧ Below w.heap.size w W) (fun _ pa _ => ((m : Int) - intOf pa).toNat)
  case atStart => exact ⟨0, Nat.zero_le _, rfl, World.ownsRow_nil _ _ _ _, Below.refl _ _⟩
  case round =>
    obtain ⟨a, ha, rfl, hrow, hB⟩ := hrel
    obtain ⟨oa, cap, rfl⟩ := owns_shape' hrow
    have cA := cell_over c0 hB
    by_cases hla : a < m
    · have hKl : (cvK R m a).length ≤ 4096 := by
        have := cvK_len R m a
        have : a * m ≤ 64 * 64 := Nat.mul_le_mul (by omega) hm
        omega
      have hr0 : Hid (cvK R m a ++ cvRow R m a 0 = cvK R m a) := by show _ = _; simp [cvRow]
      have hre : Hid (cvK R m a ++ cvRow R m a m = cvK R m (a + 1)) := (cvK_snoc R m a).symm
      rw [← hr0.out] at hrow
      go_wp2
      go_loopw [3, 5] (fun pl pb W => ∃ b : Nat, b ≤ m ∧ pb = .int .i64 b ∧ W.ownsRow w.heap.size 30 2 pl (cvK R m a ++ cvRow R m a b).length (cellsP (cvK R m a ++ cvRow R m a b)) ∧ Below w.heap.size w W) (fun _ pb _ => ((m : Int) - intOf pb).toNat)
      case atStart => exact ⟨0, Nat.zero_le _, rfl, by rw [hr0.out] at hrow ⊢; exact hrow, hB⟩
      case round =>
        clear hrow hB cA
        obtain ⟨b, hb, rfl, hrow, hB⟩ := hrel
        obtain ⟨oa, cap, rfl⟩ := owns_shape' hrow
        have cA := cell_over c0 hB
        by_cases hlb : b < m
        · obtain ⟨gt, capo, rfl⟩ := hM.shape (by omega)
          have d1 := cell_over hM.c1 hB
          have d2 := cell_over (hM.row rfl hla) hB
          have d3 := cell_over (hM.at hla hlb) hB
          have hMx := hide' (fun k (hk : k < m) => (cell_over (hM.row rfl hk) hB))
          have hMy := hide' (fun k (hk : k < m) => (cell_over (hM.at hla hk) hB))
          have hMz := hide' (fun k (hk : k < m) => (cell_over (hM.at hk hlb) hB))
          have hok0 : okK R a b 0 = R a b := by simp [okK]
          have hsn := hide' (okK_snoc R a b)
          have hfm : Hid (∀ k, okK R a b k = false → k ≤ m → okK R a b m = false) := fun k h hk => okK_false h m hk
          have hrl := cvRow_len R m a b
          have hstep := hide' (cvRow_snoc R m a b)
          rw [← hok0] at d3
          have hlen : (cvK R m a ++ cvRow R m a b).length ≤ 5000 := by rw [List.length_append]; omega
          have happ : Hid (cvK R m a ++ cvRow R m a (b + 1) = (cvK R m a ++ cvRow R m a b) ++ (if okK R a b m = true then [((a : Int), (b : Int))] else [])) := by show _ = _; rw [hstep.out, List.append_assoc]
          clear hok0 hrl hstep
          generalize cvK R m a ++ cvRow R m a b = C at *
          generalize gr a = ga at *
          go_wp2
          go_loopw [6, 7] (fun po pk W => ∃ (k : Nat) (t : Bool), k ≤ m ∧ pk = .int .i64 k ∧ po = .bool t ∧ Hid (okK R a b k = t) ∧ W = wr) (fun _ pk _ => ((m : Int) - intOf pk).toNat)
          case atStart => exact ⟨0, _, Nat.zero_le _, rfl, rfl, rfl, rfl⟩
          case round =>
            obtain ⟨k, t, hk, rfl, rfl, hkt, rfl⟩ := hrel
            have fin : ∀ {t2 : Bool}, okK R a b m = t2 → Hid (okK R a b m = t2) := fun h => h
            by_cases hlk : k < m
            · cases t with
              | true =>
                have e1 := hMx.out k hlk
                have e2 := hMy.out k hlk
                have e3 := hMz.out k hlk
                have hnx : Hid (okK R a b (k + 1) = !(R a k && R k b)) := by show _ = _; rw [hsn.out k, hkt.out]; rfl
                clear hkt fin
                cases h1 : R a k with
                | true =>
                  rw [h1] at e2 hnx
                  cases h2 : R k b with
                  | true =>
                    rw [h2] at e3 hnx
                    clear h1 h2
                    generalize gr k = gk at *
                    go_wp2
                    exact ⟨⟨k + 1, _, by omega, by go_num, rfl, hnx, trivial⟩, by simp [intOf]; omega⟩
                  | false =>
                    rw [h2] at e3 hnx
                    clear h1 h2
                    generalize gr k = gk at *
                    go_wp2
                    exact ⟨⟨k + 1, _, by omega, by go_num, rfl, hnx, trivial⟩, by simp [intOf]; omega⟩
                | false =>
                  rw [h1] at e2 hnx
                  rw [Bool.false_and] at hnx
                  clear h1 e1 e3
                  go_wp2
                  exact ⟨⟨k + 1, _, by omega, by go_num, rfl, hnx, trivial⟩, by simp [intOf]; omega⟩
              | false =>
                have hz := hide' (hfm.out k hkt.out hk)
                rw [hz.out] at happ
                have happ' : Hid (cvK R m a ++ cvRow R m a (b + 1) = C) := by show _ = _; have := happ.out; simpa using this
                clear happ hkt fin hz hfm hsn
                go_wp2
                exact ⟨⟨b + 1, by omega, by go_num, by rw [happ'.out]; exact hrow, hB⟩, by simp [intOf]; omega⟩
            · obtain rfl : k = m := by omega
              cases t with
              | true =>
                rw [hkt.out] at happ
                have happ' : Hid (cvK R k a ++ cvRow R k a (b + 1) = C ++ [((a : Int), (b : Int))]) := by show _ = _; have := happ.out; simpa using this
                have zB := hB.size
                have hr5 := hrow.alloc (.cells #[.int .i64 (a : Int), .int .i64 (b : Int)] 30)
                clear happ hkt fin hfm hsn
                go_wp2_with (at_builtin; refine wpList_append_own _ rfl _ _ 22 rfl w.heap.size 30 i0 (.agg #[.int .i64 0, .int .i64 0]) 2 16 Tryd.underlying22 hi hz0 hz1 hz2 rfl (by decide) (.slice oa C.length cap) C.length (cellsP C) rfl hr5 ⟨wr.heap.size, 0, none⟩ 1 1 [.int .i64 (a : Int), .int .i64 (b : Int)] rfl rfl (World.news_of_block (cs := #[.int .i64 (a : Int), .int .i64 (b : Int)]) (World.alloc_heap_new wr _)) (by simp [Value.oneCell']) (by unfold maxLen; omega) (by omega) (by simp; omega) ?_; intro v1 w5 hown1 hgrow1 hnil1; clear hnil1)
                have hge : ∀ g, (Value.slice oa C.length cap).ownBlock = some g → w.heap.size ≤ g := fun g e => by
                  rcases hr5.2 with ⟨h', _⟩ | ⟨g', cap', cur, h', hb', _⟩
                  · rw [h'] at e; cases e
                  · rw [h'] at e; cases e; exact hb'
                exact ⟨⟨b + 1, by omega, by go_num, by rw [happ'.out, List.length_append, cellsP_snoc]; exact hown1, (hB.alloc zB _).grown hgrow1 (by simp; omega) hge⟩, by simp [intOf]; omega⟩
              | false =>
                rw [hkt.out] at happ
                have happ' : Hid (cvK R k a ++ cvRow R k a (b + 1) = C) := by show _ = _; have := happ.out; simpa using this
                clear happ hkt fin hfm hsn
                go_wp2
                exact ⟨⟨b + 1, by omega, by go_num, by rw [happ'.out]; exact hrow, hB⟩, by simp [intOf]; omega⟩
        · obtain rfl : b = m := by omega
          go_wp2
          exact ⟨⟨a + 1, by omega, by go_num, by rw [← hre.out]; exact hrow, hB⟩, by simp [intOf]; omega⟩
    · obtain rfl : a = m := by omega
      go_wp2
      go_ret
      exact ⟨_, rfl, hrow, hB⟩
end
end Go.Proofs.YtjimiabfgmchiaaDoor
namespace Go.Proofs.YtjimiabfgmchiaaDoor
open Go.RowKit Go.Shelf
theorem pair_eq (a b : Int) (w : World) : (Op.equalIn 10000 30 (.agg #[.int .i64 a, .int .i64 b]) (.agg #[.int .i64 a, .int .i64 b])).run Tryd.prog w = .ok true w := by
  have u3 := Tryd.underlying3
  have a3 := Tryd.isAgg3
  have z3 := Tryd.sizeOf3
  rw [show (10000 : Nat) = 9999 + 1 from rfl, Op.equalIn]
  simp only [Sem.run_bind, run_underlying Tryd.underlying30, Result.andThen_ok]
  simp only [Std.Legacy.Range.forIn_eq_forIn_range', Std.Legacy.Range.size, Nat.sub_zero, Nat.add_sub_cancel, Nat.div_one, List.range'_succ, List.range'_zero, List.forIn_cons, List.forIn_nil]
  go_simp
set_option maxRecDepth 100000 in
set_option maxHeartbeats 1000000 in
theorem keepPairsT (L : List (Int × Int)) (va vb : Value) (w : World) (ha : PairsAt w va L) (hb : PairsAt w vb L) (hn : L.length ≤ 1000000) :
    Calls Tryd.prog 15 #[va, vb] w fun e w' => e = .returned (.bool true) ∧ Below w.heap.size w w' := by
  obtain ⟨oa, ca, rfl, hca, ha⟩ := ha
  obtain ⟨ob, cb, rfl, hcb, hb⟩ := hb
  have ha' := hide' ha
  have hb' := hide' hb
  have hca1 := hca.1
  have hcb1 := hcb.1
  clear ha hb hca hcb
  go_enter Tryd.func15, Tryd.ntmps15
  go_wp2
  go_loopw [5] (fun k wr => Below w.heap.size w wr ∧ ∃ (c : Nat), c ≤ L.length ∧ k = .int .i64 c) (fun k _ => ((L.length : Int) - intOf k).toNat)
  case atStart => exact ⟨Below.refl _ _, 0, Nat.zero_le _, rfl⟩
  case round =>
    obtain ⟨hB, c, hc, rfl⟩ := hrel
    by_cases hlt : c < L.length
    · obtain ⟨⟨x, y⟩, hx⟩ : ∃ x, L[c]? = some x := ⟨_, List.getElem?_eq_getElem hlt⟩
      obtain ⟨g1, o1, rfl, c1', c2'⟩ := ha'.out c _ hx
      obtain ⟨g2, o2, rfl, c3', c4'⟩ := hb'.out c _ hx
      have c1 := cell_over c1' hB
      have c2 := cell_over c2' hB
      have c3 := cell_over c3' hB
      have c4 := cell_over c4' hB
      clear c1' c2' c3' c4' hx
      have hpe := fun W => pair_eq x y W
      simp only [] at c1 c2 c3 c4
      go_wp2
      go_region
      go_wp2
      exact ⟨⟨hB.drew, c + 1, by omega, by go_num⟩, by simp [intOf]; omega⟩
    · obtain rfl : c = L.length := by omega
      go_wp2
      go_ret
      exact ⟨rfl, hB⟩
theorem fin_range (p : Nat → Bool) : ((List.finRange 64).filter fun i => p i.val).map (·.val) = (List.range 64).filter p := by
  have e : (List.finRange 64).map (·.val) = List.range 64 := by decide +kernel
  rw [← e, List.filter_map]
  rfl
theorem range_cut {p : Nat → Bool} {k : Nat} (hk : k ≤ 64) (hp : ∀ i, p i = true → i < k) : (List.range 64).filter p = (List.range k).filter p := by
  obtain ⟨d, hd⟩ : ∃ d, 64 = k + d := ⟨64 - k, by omega⟩
  rw [hd, List.range_add, List.filter_append]
  have : ((List.range d).map (k + ·)).filter p = [] := by
    rw [List.filter_eq_nil_iff]
    intro x hx
    obtain ⟨y, _, rfl⟩ := List.mem_map.1 hx
    intro e
    have := hp _ e
    omega
  rw [this, List.append_nil]
section
variable {n : Nat} {R : Nat → Nat → Bool} {Pf Sf : Nat → Nat} (h : Ord n R Pf Sf)
include h
theorem Ord.bef (a b : Int) : (decide (0 ≤ b) && (sucI n Sf a).testBit b.toNat) = befI R a b := by
  unfold befI sucI
  by_cases hb : 0 ≤ b
  · by_cases ha : 0 ≤ a ∧ a < n
    · rw [if_pos ha, h.suc a.toNat (by omega)]
      simp [hb, ha.1]
    · rw [if_neg ha]
      cases e : R a.toNat b.toNat with
      | false => simp
      | true =>
        have := (h.inn _ _ e).1
        have : ¬ 0 ≤ a := by omega
        simp [this]
  · simp [hb]
theorem Ord.suc_lt' (a : Int) : sucI n Sf a < 18446744073709551616 := by
  unfold sucI
  split
  · exact h.suc_lt (by omega)
  · decide
theorem Ord.accP (a : Int) : accB (fun i => befI R i a) n = preI n Pf a := by
  apply Nat.eq_of_testBit_eq
  intro i
  rw [accB_bits]
  unfold befI preI
  by_cases ha : 0 ≤ a ∧ a < n
  · rw [if_pos ha, h.pre a.toNat (by omega)]
    by_cases hi : i < n
    · simp [hi, ha.1]
    · cases e : R i a.toNat with
      | false => simp [hi]
      | true => exact absurd (h.inn _ _ e).1 hi
  · rw [if_neg ha, Nat.zero_testBit]
    by_cases h0 : 0 ≤ a
    · cases e : R i a.toNat with
      | false => simp [e]
      | true =>
        have := (h.inn _ _ e).2
        exact absurd ⟨h0, by omega⟩ ha
    · simp [h0]
theorem Ord.accS (a : Int) : accB (fun i => befI R a i) n = sucI n Sf a := by
  apply Nat.eq_of_testBit_eq
  intro i
  rw [accB_bits]
  unfold befI sucI
  by_cases ha : 0 ≤ a ∧ a < n
  · rw [if_pos ha, h.suc a.toNat (by omega)]
    by_cases hi : i < n
    · simp [hi, ha.1]
    · cases e : R a.toNat i with
      | false => simp [hi]
      | true => exact absurd (h.inn _ _ e).2 hi
  · rw [if_neg ha, Nat.zero_testBit]
    by_cases h0 : 0 ≤ a
    · cases e : R a.toNat i with
      | false => simp [e]
      | true =>
        have := (h.inn _ _ e).1
        exact absurd ⟨h0, by omega⟩ ha
    · simp [h0]
theorem Ord.accPn {a : Nat} (ha : a < n) : accB (fun i => befI R i (a : Int)) n = Pf a ∧ Pf a < 18446744073709551616 := by
  refine ⟨?_, h.pre_lt ha⟩
  rw [h.accP]
  unfold preI
  rw [if_pos (by omega), Int.toNat_natCast]
theorem Ord.accR {d : Nat} (hd : d < 18446744073709551616) : accB (rdT Pf d) n = rdW n Pf d := by
  apply Nat.eq_of_testBit_eq
  intro i
  rw [accB_bits, Bool.eq_iff_iff, h.rdW_bits hd]
  unfold rdT rdy
  simp only [Bool.and_eq_true, decide_eq_true_eq, Bool.not_eq_true']
  constructor
  · rintro ⟨h1, h2, h3⟩
    refine ⟨h1, h2, fun b hb => ?_⟩
    rw [sub_bits (h.pre_lt h1) hd] at h3
    exact h3 b (by rw [h.pre i h1]; exact hb)
  · rintro ⟨h1, h2, h3⟩
    refine ⟨h1, h2, ?_⟩
    rw [sub_bits (h.pre_lt h1) hd]
    intro b hb
    rw [h.pre i h1] at hb
    exact h3 b hb
theorem Ord.dn_iff {d : Nat} (hd : d < 18446744073709551616) : dnB n Pf d = true ↔ isDown n R d := by
  constructor
  · intro hb
    unfold dnB at hb
    rw [Bool.and_eq_true] at hb
    have hin := in_sub h.n64 hd hb.1
    have hlt : orAll Pf (nums d) < 18446744073709551616 := orAll_lt fun k hk => h.pre_lt (hin k hk)
    have h2 := (sub_bits hlt hd).1 hb.2
    have hlt64 : ∀ a, d.testBit a = true → a < 64 := fun a ha => by
      rcases Nat.lt_or_ge a 64 with h' | h'
      · exact h'
      · rw [Nat.testBit_lt_two_pow (Nat.lt_of_lt_of_le (show d < 2 ^ 64 from hd) (Nat.pow_le_pow_right (by decide) h'))] at ha; cases ha
    refine ⟨fun a ha => hin ⟨a, hlt64 a ha⟩ ((mem_nums _ _).2 ha), fun a b ha hab => h2 b ?_⟩
    rw [orAll_bits, List.any_eq_true]
    exact ⟨⟨a, hlt64 a ha⟩, (mem_nums _ _).2 ha, by rw [h.pre a (hin ⟨a, hlt64 a ha⟩ ((mem_nums _ _).2 ha))]; exact hab⟩
  · exact h.dnB_true
theorem Ord.accD {d : Nat} (hd : d < 18446744073709551616) : dnAll (dnT n Pf d) = dnB n Pf d := by
  rw [Bool.eq_iff_iff, dnAll_iff, h.dn_iff hd]
  have hlt64 : ∀ a, d.testBit a = true → a < 64 := fun a ha => by
    rcases Nat.lt_or_ge a 64 with h' | h'
    · exact h'
    · rw [Nat.testBit_lt_two_pow (Nat.lt_of_lt_of_le (show d < 2 ^ 64 from hd) (Nat.pow_le_pow_right (by decide) h'))] at ha; cases ha
  constructor
  · intro hall
    have key : ∀ a, d.testBit a = true → a < n ∧ (Pf a &&& (18446744073709551615 - d) == 0) = true := fun a ha => by
      have := hall a (hlt64 a ha)
      unfold dnT at this
      rw [ha, Bool.true_and, Bool.or_eq_false_iff] at this
      exact ⟨by have := this.1; simp at this; omega, by simpa using this.2⟩
    refine ⟨fun a ha => (key a ha).1, fun a b ha hab => ?_⟩
    have hk := key a ha
    rw [sub_bits (h.pre_lt hk.1) hd] at hk
    exact hk.2 b (by rw [h.pre a hk.1]; exact hab)
  · rintro ⟨h1, h2⟩ a _
    unfold dnT
    cases ha : d.testBit a with
    | false => rfl
    | true =>
      have hn := h1 a ha
      have : (Pf a &&& (18446744073709551615 - d) == 0) = true := by
        rw [sub_bits (h.pre_lt hn) hd]
        intro i hi
        rw [h.pre a hn] at hi
        exact h2 a i ha hi
      rw [this]
      simp; omega
theorem Ord.cov_iff {a b : Nat} (ha : a < n) (hb : b < n) : okK R a b n = (R a b && ((Sf a &&& Pf b) == 0)) := by
  unfold okK
  congr 1
  rw [Bool.eq_iff_iff, List.all_eq_true, beq_iff_eq]
  constructor
  · intro hall
    apply Nat.eq_of_testBit_eq
    intro i
    rw [Nat.testBit_and, Nat.zero_testBit, h.suc a ha, h.pre b hb]
    by_cases hi : i < n
    · have := hall i (List.mem_range.2 hi)
      cases e : R a i with
      | false => rfl
      | true => rw [e] at this; simpa using this
    · cases e : R a i with
      | false => rfl
      | true => exact absurd (h.inn _ _ e).2 hi
  · intro h0 i _
    have := congrArg (fun x => x.testBit i) h0
    simp only [Nat.testBit_and, Nat.zero_testBit, h.suc a ha, h.pre b hb] at this
    rw [this]; rfl
theorem Ord.cov_row {a : Nat} (ha : a < n) : covRow Pf Sf a (nums (Sf a)) = cvRow R n a n := by
  unfold covRow cvRow nums
  rw [List.filter_filter]
  have e : (List.range n).filter (fun x => okK R a x n) = (List.range 64).filter (fun b => ((Sf a &&& Pf b) == 0) && (Sf a).testBit b) := by
    rw [range_cut h.n64 (p := fun b => ((Sf a &&& Pf b) == 0) && (Sf a).testBit b) fun i hi => by
      rw [Bool.and_eq_true, h.suc a ha] at hi
      exact (h.inn _ _ hi.2).2]
    apply List.filter_congr
    intro b hb
    rw [h.cov_iff ha (List.mem_range.1 hb), h.suc a ha, Bool.and_comm]
  rw [e, ← fin_range, List.map_map]
  rfl
theorem Ord.cov_all : covK Pf Sf n = cvK R n n := by
  unfold covK cvK
  rw [List.flatMap_def, List.flatMap_def]
  congr 1
  exact List.map_congr_left fun a ha => h.cov_row (List.mem_range.1 ha)
theorem Ord.nums_in {a : Nat} (ha : a < n) : ∀ b ∈ nums (Sf a), b.val < n := fun b hb => by
  rw [mem_nums, h.suc a ha] at hb
  exact (h.inn _ _ hb).2
end
end Go.Proofs.YtjimiabfgmchiaaDoor

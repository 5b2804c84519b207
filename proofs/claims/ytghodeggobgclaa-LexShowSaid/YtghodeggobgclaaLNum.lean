/- number: what it answers. -/
import Derived.Test.YtghodeggobgclaaLWord
namespace Go.Proofs.Ytghodeggobgclaa
open Go.RowKit Go.Shelf
def numV (T : List UInt8) : Value :=
  if 9 < len isDig T ∨ (1 < len isDig T ∧ T.head? = some 48) then .tuple #[tv tz, .int .i64 3]
  else if ((T.drop (len isDig T)).head?.any isIn) then .tuple #[tv tz, .int .i64 3]
  else .tuple #[tv ⟨2, T.take (len isDig T), (valu (T.take (len isDig T)) : Nat), 0, 0⟩, .int .i64 0]
theorem takeWhile_all {p : UInt8 → Bool} {T : List UInt8} : ∀ c ∈ T.takeWhile p, p c = true := by
  induction T with
  | nil => intro c hc; cases hc
  | cons a T ih =>
    intro c hc
    by_cases h : p a = true
    · rw [List.takeWhile_cons_of_pos h] at hc
      rcases List.mem_cons.1 hc with rfl | hc
      · exact h
      · exact ih c hc
    · rw [List.takeWhile_cons_of_neg h] at hc; cases hc
set_option maxRecDepth 100000 in
set_option maxHeartbeats 20000000 in
theorem numberF (K : Kd) (T : List UInt8) (w : World) (hk : KOk K w) (hm : T.length ≤ 9223372036854775807) :
    Calls Try.prog 101 #[K.v, .string (bs T)] w fun e w' => e = .returned (numV T) ∧ Below w.heap.size w w' := by
  have hsz := bs_size T
  have hle := len_le isDig T
  have hx := bs_take T (len isDig T)
  have eg := hk.nm.1
  have KL : Hid (∀ W, Below w.heap.size w W → Calls Try.prog 67 #[.string (bs T), .func (.func K.g5) #[] K.l5] W fun e w' => e = .returned (.int .i64 (len isDig T : Nat)) ∧ Below W.heap.size W w') := fun W hb => lengthF T _ _ _ W (hk.di.later hb) hm
  have KN : Hid (∀ W (x : UInt8), Below w.heap.size w W → Calls Try.prog K.g6 (#[.int .u8 (x.toNat : Int)] ++ K.l6) W fun e w' => e = .returned (.bool (isIn x)) ∧ Below W.heap.size W w') := fun W x hb => hk.nm.2 W x (.of 0 hb)
  have KV : Hid (len isDig T ≤ 9 → ∀ W, Calls Try.prog 112 #[.string (bs (T.take (len isDig T)))] W fun e w' => e = .returned (.int .i64 (valu (T.take (len isDig T)) : Nat)) ∧ w' = W) := fun h9 W => by
    refine valueF _ W ?_ ?_
    · rw [List.length_take]; omega
    · rw [len_take]; exact takeWhile_all
  have hz : Hid (tv tz = .agg #[.int .i64 0, .string ⟨#[]⟩, .int .i64 0, .int .i64 0, .int .i64 0]) := rfl
  have hat : Hid (∀ c x, T[c]? = some x → ∃ h : c < (bs T).size, (bs T)[c]'h = x) := fun c x h => bs_at h
  have hhd : Hid (∀ n, (T.drop n).head? = T[n]?) := fun n => by simp
  have h0 : Hid (T.head? = T[0]?) := by show _ = _; cases T <;> rfl
  have hv : Hid (numV T = if 9 < len isDig T ∨ (1 < len isDig T ∧ T[0]? = some 48) then .tuple #[tv tz, .int .i64 3]
  else if (T[len isDig T]?.any isIn) then .tuple #[tv tz, .int .i64 3]
  else .tuple #[.agg #[.int .i64 2, .string (bs (T.take (len isDig T))), .int .i64 (valu (T.take (len isDig T)) : Nat), .int .i64 0, .int .i64 0], .int .i64 0]) := by
    show _ = _
    unfold numV
    rw [h0.out, hhd.out]
    rfl
  rw [hv.out, hz.out]
  clear hv hk hz hhd h0
  unfold Kd.v
  generalize valu (T.take (len isDig T)) = vv at *
  generalize bs (T.take (len isDig T)) = sx at *
  generalize hn : len isDig T = n at *
  generalize hs : bs T = s at *
  clear hs hn
  by_cases h9 : 9 < n
  · rw [if_pos (Or.inl h9)]
    go_enter Try.func101, Try.ntmps101
    go_wp2_with fail
    refine (KL.out _ (((Below.refl _ w).alloc (Nat.le_refl _) _).alloc (by simp) _)).mono ?_
    rintro e w1 ⟨rfl, hb⟩
    have B1 : Hid (Below w.heap.size w w1) := (((Below.refl _ w).alloc (Nat.le_refl _) _).alloc (by simp) _).trans (hb.mono (by simp; omega))
    obtain ⟨c0, c1, c2, c3, c4, f0, f1, f2, f3, f4⟩ := tblk_cells (tblk_new _ _ hb)
    clear hb KL KN KV hat
    go_wp2_with fail
    exact bodyPost_ret (v := .tuple #[.agg #[.int .i64 0, .string ⟨#[]⟩, .int .i64 0, .int .i64 0, .int .i64 0], .int .i64 3]) (by simp [results, Try.results101, go_sem, c0, c1, c2, c3, c4]) rfl ⟨rfl, below_set5 B1.out (by omega) _ _ _ _ _⟩
  · have kv := hide' (KV.out (by omega))
    clear KV
    by_cases h1 : 1 < n ∧ T[0]? = some 48
    · rw [if_pos (Or.inr h1)]
      obtain ⟨h1, hx0⟩ := h1
      obtain ⟨q0, e0⟩ := hat.out 0 48 hx0
      have e48 : (48 : UInt8).toNat = 48 := rfl
      clear hx0
      go_enter Try.func101, Try.ntmps101
      go_wp2_with fail
      refine (KL.out _ (((Below.refl _ w).alloc (Nat.le_refl _) _).alloc (by simp) _)).mono ?_
      rintro e w1 ⟨rfl, hb⟩
      have B1 : Hid (Below w.heap.size w w1) := (((Below.refl _ w).alloc (Nat.le_refl _) _).alloc (by simp) _).trans (hb.mono (by simp; omega))
      obtain ⟨c0, c1, c2, c3, c4, f0, f1, f2, f3, f4⟩ := tblk_cells (tblk_new _ _ hb)
      clear hb KL KN kv hat
      go_wp2_with fail
      exact bodyPost_ret (v := .tuple #[.agg #[.int .i64 0, .string ⟨#[]⟩, .int .i64 0, .int .i64 0, .int .i64 0], .int .i64 3]) (by simp [results, Try.results101, go_sem, c0, c1, c2, c3, c4]) rfl ⟨rfl, below_set5 B1.out (by omega) _ _ _ _ _⟩
    · rw [if_neg (by rintro (h | h); exact h9 h; exact h1 h)]
      have hb0 : Hid (1 < n → ∃ x0, (∃ h : 0 < s.size, s[0]'h = x0) ∧ ((x0.toNat : Int) == 48) = false) := fun h => by
        obtain ⟨x0, hx0⟩ : ∃ x, T[0]? = some x := ⟨_, List.getElem?_eq_getElem (by omega)⟩
        refine ⟨x0, hat.out 0 x0 hx0, ?_⟩
        rw [beq_eq_false_iff_ne]
        refine fun h' => h1 ⟨h, ?_⟩
        rw [hx0]
        exact congrArg some (UInt8.toNat_inj.1 (by show x0.toNat = 48; omega))
      clear h1
      by_cases hlt : n < T.length
      · obtain ⟨y, hy⟩ : ∃ x, T[n]? = some x := ⟨_, List.getElem?_eq_getElem hlt⟩
        obtain ⟨q1, e1⟩ := hat.out n y hy
        rw [hy]
        simp only [Option.any_some]
        clear hy
        have KN1 : Hid (∀ W, Below w.heap.size w W → Calls Try.prog K.g6 (#[.int .u8 (y.toNat : Int)] ++ K.l6) W fun e w' => e = .returned (.bool (isIn y)) ∧ Below W.heap.size W w') := fun W hb => KN.out W y hb
        clear KN
        by_cases hq : isIn y = true
        · rw [if_pos hq]
          rw [hq] at KN1
          clear hq
          by_cases h1 : 1 < n
          · obtain ⟨x0, ⟨q0, e0⟩, hne⟩ := hb0.out h1
            clear hb0
            go_enter Try.func101, Try.ntmps101
            go_wp2_with fail
            refine (KL.out _ (((Below.refl _ w).alloc (Nat.le_refl _) _).alloc (by simp) _)).mono ?_
            rintro e w1 ⟨rfl, hb⟩
            have B1 : Hid (Below w.heap.size w w1) := (((Below.refl _ w).alloc (Nat.le_refl _) _).alloc (by simp) _).trans (hb.mono (by simp; omega))
            have c6 : w1.cell? ⟨w.heap.size, 6, none⟩ = some (fv K.g6 K.l6) := by rw [hb.cell (by simp; omega)]; simp
            have hz1 : Hid (w.heap.size + 1 < w1.heap.size) := by have := hb.size; simp at this; show _ < _; omega
            have tb := hide' (tblk_new _ _ hb)
            clear hb KL hat
            go_upto_region 4 with fail
            have g0 : decide ((n : Int) < (T.length : Int)) = true := by simp; omega
            have g1 : decide (n < T.length) = true := by simp; omega
            have hS : Hid (w1.drew.cell? ⟨w.heap.size, 6, none⟩ = some (fv K.g6 K.l6) ∧ Below w1.heap.size w1 w1.drew) := ⟨c6, (Below.refl _ _).drew⟩
            have hKeep : Hid (∀ V V' : World, (V.cell? ⟨w.heap.size, 6, none⟩ = some (fv K.g6 K.l6) ∧ Below w1.heap.size w1 V) → Below V.heap.size V V' → (V'.cell? ⟨w.heap.size, 6, none⟩ = some (fv K.g6 K.l6) ∧ Below w1.heap.size w1 V')) := fun V V' h hb => ⟨(hb.cell (p := ⟨w.heap.size, 6, none⟩) (Nat.lt_of_lt_of_le (Nat.lt_of_succ_lt hz1.out) h.2.size)).trans h.1, h.2.trans (hb.mono h.2.size)⟩
            have hWB : Hid (∀ V : World, (V.cell? ⟨w.heap.size, 6, none⟩ = some (fv K.g6 K.l6) ∧ Below w1.heap.size w1 V) → Below w.heap.size w V) := fun V h => B1.out.trans (h.2.mono B1.out.size)
            go_region_held3 (fun V => V.cell? ⟨w.heap.size, 6, none⟩ = some (fv K.g6 K.l6) ∧ Below w1.heap.size w1 V) (first | (exact hKeep.out _ _ (by assumption) hb) | (exact hKeep.out _ _ hS.out hb) | (exact hS.out)) (first | (go_at_fn K.g6; refine (KN1.out _ (by first | exact hWB.out _ (by assumption) | exact B1.out.drew)).mono ?_; rintro e w2 ⟨rfl, hb⟩))
            all_goals
              have hb2 : Below w1.heap.size w1 w2 := ((Below.refl _ w1).drew).trans hb
              have B2 : Hid (Below w.heap.size w w2) := B1.out.trans (hb2.mono B1.out.size)
              have tb2 : tblk w2 (w.heap.size + 1) := (hb2.block _ hz1.out).trans tb.out
              clear hb hS hKeep hWB
              obtain ⟨c0, c1, c2, c3, c4, f0, f1, f2, f3, f4⟩ := tblk_cells tb2
              clear tb2 hb2 KN1 c6 tb
              go_wp2_with fail
              exact bodyPost_ret (v := .tuple #[.agg #[.int .i64 0, .string ⟨#[]⟩, .int .i64 0, .int .i64 0, .int .i64 0], .int .i64 3]) (by simp [results, Try.results101, go_sem, c0, c1, c2, c3, c4]) rfl ⟨rfl, below_set5 B2.out (by omega) _ _ _ _ _⟩
          · clear hb0
            go_enter Try.func101, Try.ntmps101
            go_wp2_with fail
            refine (KL.out _ (((Below.refl _ w).alloc (Nat.le_refl _) _).alloc (by simp) _)).mono ?_
            rintro e w1 ⟨rfl, hb⟩
            have B1 : Hid (Below w.heap.size w w1) := (((Below.refl _ w).alloc (Nat.le_refl _) _).alloc (by simp) _).trans (hb.mono (by simp; omega))
            have c6 : w1.cell? ⟨w.heap.size, 6, none⟩ = some (fv K.g6 K.l6) := by rw [hb.cell (by simp; omega)]; simp
            have hz1 : Hid (w.heap.size + 1 < w1.heap.size) := by have := hb.size; simp at this; show _ < _; omega
            have tb := hide' (tblk_new _ _ hb)
            clear hb KL hat
            go_upto_region 4 with fail
            have g0 : decide ((n : Int) < (T.length : Int)) = true := by simp; omega
            have g1 : decide (n < T.length) = true := by simp; omega
            have hS : Hid (w1.drew.cell? ⟨w.heap.size, 6, none⟩ = some (fv K.g6 K.l6) ∧ Below w1.heap.size w1 w1.drew) := ⟨c6, (Below.refl _ _).drew⟩
            have hKeep : Hid (∀ V V' : World, (V.cell? ⟨w.heap.size, 6, none⟩ = some (fv K.g6 K.l6) ∧ Below w1.heap.size w1 V) → Below V.heap.size V V' → (V'.cell? ⟨w.heap.size, 6, none⟩ = some (fv K.g6 K.l6) ∧ Below w1.heap.size w1 V')) := fun V V' h hb => ⟨(hb.cell (p := ⟨w.heap.size, 6, none⟩) (Nat.lt_of_lt_of_le (Nat.lt_of_succ_lt hz1.out) h.2.size)).trans h.1, h.2.trans (hb.mono h.2.size)⟩
            have hWB : Hid (∀ V : World, (V.cell? ⟨w.heap.size, 6, none⟩ = some (fv K.g6 K.l6) ∧ Below w1.heap.size w1 V) → Below w.heap.size w V) := fun V h => B1.out.trans (h.2.mono B1.out.size)
            go_region_held3 (fun V => V.cell? ⟨w.heap.size, 6, none⟩ = some (fv K.g6 K.l6) ∧ Below w1.heap.size w1 V) (first | (exact hKeep.out _ _ (by assumption) hb) | (exact hKeep.out _ _ hS.out hb) | (exact hS.out)) (first | (go_at_fn K.g6; refine (KN1.out _ (by first | exact hWB.out _ (by assumption) | exact B1.out.drew)).mono ?_; rintro e w2 ⟨rfl, hb⟩))
            all_goals
              have hb2 : Below w1.heap.size w1 w2 := ((Below.refl _ w1).drew).trans hb
              have B2 : Hid (Below w.heap.size w w2) := B1.out.trans (hb2.mono B1.out.size)
              have tb2 : tblk w2 (w.heap.size + 1) := (hb2.block _ hz1.out).trans tb.out
              clear hb hS hKeep hWB
              obtain ⟨c0, c1, c2, c3, c4, f0, f1, f2, f3, f4⟩ := tblk_cells tb2
              clear tb2 hb2 KN1 c6 tb
              go_wp2_with fail
              exact bodyPost_ret (v := .tuple #[.agg #[.int .i64 0, .string ⟨#[]⟩, .int .i64 0, .int .i64 0, .int .i64 0], .int .i64 3]) (by simp [results, Try.results101, go_sem, c0, c1, c2, c3, c4]) rfl ⟨rfl, below_set5 B2.out (by omega) _ _ _ _ _⟩
        · rw [if_neg hq]
          have hq' : isIn y = false := by simpa using hq
          rw [hq'] at KN1
          clear hq hq'
          by_cases h1 : 1 < n
          · obtain ⟨x0, ⟨q0, e0⟩, hne⟩ := hb0.out h1
            clear hb0
            go_enter Try.func101, Try.ntmps101
            go_wp2_with fail
            refine (KL.out _ (((Below.refl _ w).alloc (Nat.le_refl _) _).alloc (by simp) _)).mono ?_
            rintro e w1 ⟨rfl, hb⟩
            have B1 : Hid (Below w.heap.size w w1) := (((Below.refl _ w).alloc (Nat.le_refl _) _).alloc (by simp) _).trans (hb.mono (by simp; omega))
            have c6 : w1.cell? ⟨w.heap.size, 6, none⟩ = some (fv K.g6 K.l6) := by rw [hb.cell (by simp; omega)]; simp
            have hz1 : Hid (w.heap.size + 1 < w1.heap.size) := by have := hb.size; simp at this; show _ < _; omega
            have tb := hide' (tblk_new _ _ hb)
            clear hb KL hat
            go_upto_region 4 with fail
            have g0 : decide ((n : Int) < (T.length : Int)) = true := by simp; omega
            have g1 : decide (n < T.length) = true := by simp; omega
            have hS : Hid (w1.drew.cell? ⟨w.heap.size, 6, none⟩ = some (fv K.g6 K.l6) ∧ Below w1.heap.size w1 w1.drew) := ⟨c6, (Below.refl _ _).drew⟩
            have hKeep : Hid (∀ V V' : World, (V.cell? ⟨w.heap.size, 6, none⟩ = some (fv K.g6 K.l6) ∧ Below w1.heap.size w1 V) → Below V.heap.size V V' → (V'.cell? ⟨w.heap.size, 6, none⟩ = some (fv K.g6 K.l6) ∧ Below w1.heap.size w1 V')) := fun V V' h hb => ⟨(hb.cell (p := ⟨w.heap.size, 6, none⟩) (Nat.lt_of_lt_of_le (Nat.lt_of_succ_lt hz1.out) h.2.size)).trans h.1, h.2.trans (hb.mono h.2.size)⟩
            have hWB : Hid (∀ V : World, (V.cell? ⟨w.heap.size, 6, none⟩ = some (fv K.g6 K.l6) ∧ Below w1.heap.size w1 V) → Below w.heap.size w V) := fun V h => B1.out.trans (h.2.mono B1.out.size)
            go_region_held3 (fun V => V.cell? ⟨w.heap.size, 6, none⟩ = some (fv K.g6 K.l6) ∧ Below w1.heap.size w1 V) (first | (exact hKeep.out _ _ (by assumption) hb) | (exact hKeep.out _ _ hS.out hb) | (exact hS.out)) (first | (go_at_fn K.g6; refine (KN1.out _ (by first | exact hWB.out _ (by assumption) | exact B1.out.drew)).mono ?_; rintro e w2 ⟨rfl, hb⟩))
            all_goals
              have hb2 : Below w1.heap.size w1 w2 := ((Below.refl _ w1).drew).trans hb
              have B2 : Hid (Below w.heap.size w w2) := B1.out.trans (hb2.mono B1.out.size)
              have tb2 : tblk w2 (w.heap.size + 1) := (hb2.block _ hz1.out).trans tb.out
              clear hb hS hKeep hWB
              obtain ⟨c0, c1, c2, c3, c4, f0, f1, f2, f3, f4⟩ := tblk_cells tb2
              clear tb2 hb2 KN1 c6 tb
              go_upto_region 6 with fail
              go_region_held3 (fun _ => True) (trivial) (first | (go_at_call 112; refine (kv.out _).mono ?_; rintro e w3 ⟨rfl, rfl⟩))
              all_goals go_wp2_with fail
              all_goals exact bodyPost_ret (v := .tuple #[.agg #[.int .i64 2, .string sx, .int .i64 vv, .int .i64 0, .int .i64 0], .int .i64 0]) (by simp [results, Try.results101, go_sem, c0, c1, c2, c3, c4]) rfl ⟨rfl, by first | exact below_set5 B2.out (by omega) _ _ _ _ _ | exact below_set5 B2.out.drew (by omega) _ _ _ _ _ | exact below_set5 B2.out.drew.drew (by omega) _ _ _ _ _⟩
          · clear hb0
            go_enter Try.func101, Try.ntmps101
            go_wp2_with fail
            refine (KL.out _ (((Below.refl _ w).alloc (Nat.le_refl _) _).alloc (by simp) _)).mono ?_
            rintro e w1 ⟨rfl, hb⟩
            have B1 : Hid (Below w.heap.size w w1) := (((Below.refl _ w).alloc (Nat.le_refl _) _).alloc (by simp) _).trans (hb.mono (by simp; omega))
            have c6 : w1.cell? ⟨w.heap.size, 6, none⟩ = some (fv K.g6 K.l6) := by rw [hb.cell (by simp; omega)]; simp
            have hz1 : Hid (w.heap.size + 1 < w1.heap.size) := by have := hb.size; simp at this; show _ < _; omega
            have tb := hide' (tblk_new _ _ hb)
            clear hb KL hat
            go_upto_region 4 with fail
            have g0 : decide ((n : Int) < (T.length : Int)) = true := by simp; omega
            have g1 : decide (n < T.length) = true := by simp; omega
            have hS : Hid (w1.drew.cell? ⟨w.heap.size, 6, none⟩ = some (fv K.g6 K.l6) ∧ Below w1.heap.size w1 w1.drew) := ⟨c6, (Below.refl _ _).drew⟩
            have hKeep : Hid (∀ V V' : World, (V.cell? ⟨w.heap.size, 6, none⟩ = some (fv K.g6 K.l6) ∧ Below w1.heap.size w1 V) → Below V.heap.size V V' → (V'.cell? ⟨w.heap.size, 6, none⟩ = some (fv K.g6 K.l6) ∧ Below w1.heap.size w1 V')) := fun V V' h hb => ⟨(hb.cell (p := ⟨w.heap.size, 6, none⟩) (Nat.lt_of_lt_of_le (Nat.lt_of_succ_lt hz1.out) h.2.size)).trans h.1, h.2.trans (hb.mono h.2.size)⟩
            have hWB : Hid (∀ V : World, (V.cell? ⟨w.heap.size, 6, none⟩ = some (fv K.g6 K.l6) ∧ Below w1.heap.size w1 V) → Below w.heap.size w V) := fun V h => B1.out.trans (h.2.mono B1.out.size)
            go_region_held3 (fun V => V.cell? ⟨w.heap.size, 6, none⟩ = some (fv K.g6 K.l6) ∧ Below w1.heap.size w1 V) (first | (exact hKeep.out _ _ (by assumption) hb) | (exact hKeep.out _ _ hS.out hb) | (exact hS.out)) (first | (go_at_fn K.g6; refine (KN1.out _ (by first | exact hWB.out _ (by assumption) | exact B1.out.drew)).mono ?_; rintro e w2 ⟨rfl, hb⟩))
            all_goals
              have hb2 : Below w1.heap.size w1 w2 := ((Below.refl _ w1).drew).trans hb
              have B2 : Hid (Below w.heap.size w w2) := B1.out.trans (hb2.mono B1.out.size)
              have tb2 : tblk w2 (w.heap.size + 1) := (hb2.block _ hz1.out).trans tb.out
              clear hb hS hKeep hWB
              obtain ⟨c0, c1, c2, c3, c4, f0, f1, f2, f3, f4⟩ := tblk_cells tb2
              clear tb2 hb2 KN1 c6 tb
              go_upto_region 6 with fail
              go_region_held3 (fun _ => True) (trivial) (first | (go_at_call 112; refine (kv.out _).mono ?_; rintro e w3 ⟨rfl, rfl⟩))
              all_goals go_wp2_with fail
              all_goals exact bodyPost_ret (v := .tuple #[.agg #[.int .i64 2, .string sx, .int .i64 vv, .int .i64 0, .int .i64 0], .int .i64 0]) (by simp [results, Try.results101, go_sem, c0, c1, c2, c3, c4]) rfl ⟨rfl, by first | exact below_set5 B2.out (by omega) _ _ _ _ _ | exact below_set5 B2.out.drew (by omega) _ _ _ _ _ | exact below_set5 B2.out.drew.drew (by omega) _ _ _ _ _⟩
      · have hnn : T[n]? = none := List.getElem?_eq_none (by omega)
        rw [hnn]
        simp only [Option.any_none, Bool.false_eq_true, if_false]
        clear hnn KN
        by_cases h1 : 1 < n
        · obtain ⟨x0, ⟨q0, e0⟩, hne⟩ := hb0.out h1
          clear hb0
          go_enter Try.func101, Try.ntmps101
          go_wp2_with fail
          refine (KL.out _ (((Below.refl _ w).alloc (Nat.le_refl _) _).alloc (by simp) _)).mono ?_
          rintro e w1 ⟨rfl, hb⟩
          have B1 : Hid (Below w.heap.size w w1) := (((Below.refl _ w).alloc (Nat.le_refl _) _).alloc (by simp) _).trans (hb.mono (by simp; omega))
          have c6 : w1.cell? ⟨w.heap.size, 6, none⟩ = some (fv K.g6 K.l6) := by rw [hb.cell (by simp; omega)]; simp
          have hz1 : Hid (w.heap.size + 1 < w1.heap.size) := by have := hb.size; simp at this; show _ < _; omega
          have tb := hide' (tblk_new _ _ hb)
          clear hb KL hat
          go_upto_region 4 with fail
          have g0 : decide ((n : Int) < (T.length : Int)) = false := by simp; omega
          have g1 : decide (n < T.length) = false := by simp; omega
          go_quiet (fail)
          all_goals
            have B2 : Hid (Below w.heap.size w (w1.drewN nq)) := B1.out.trans ⟨rfl, rfl, rfl, Nat.le_refl _, fun _ _ => rfl⟩
            have tb2 : tblk (w1.drewN nq) (w.heap.size + 1) := tb.out
            obtain ⟨c0, c1, c2, c3, c4, f0, f1, f2, f3, f4⟩ := tblk_cells tb.out
            clear c6 tb tb2 g0 g1
            go_upto_region 6 with fail
            go_region_held3 (fun _ => True) (trivial) (first | (go_at_call 112; refine (kv.out _).mono ?_; rintro e w3 ⟨rfl, rfl⟩))
            all_goals go_wp2_with fail
            all_goals exact bodyPost_ret (v := .tuple #[.agg #[.int .i64 2, .string sx, .int .i64 vv, .int .i64 0, .int .i64 0], .int .i64 0]) (by simp [results, Try.results101, go_sem, c0, c1, c2, c3, c4]) rfl ⟨rfl, by first | exact below_set5 B2.out (by omega) _ _ _ _ _ | exact below_set5 B2.out.drew (by omega) _ _ _ _ _ | exact below_set5 B2.out.drew.drew (by omega) _ _ _ _ _⟩
        · clear hb0
          go_enter Try.func101, Try.ntmps101
          go_wp2_with fail
          refine (KL.out _ (((Below.refl _ w).alloc (Nat.le_refl _) _).alloc (by simp) _)).mono ?_
          rintro e w1 ⟨rfl, hb⟩
          have B1 : Hid (Below w.heap.size w w1) := (((Below.refl _ w).alloc (Nat.le_refl _) _).alloc (by simp) _).trans (hb.mono (by simp; omega))
          have c6 : w1.cell? ⟨w.heap.size, 6, none⟩ = some (fv K.g6 K.l6) := by rw [hb.cell (by simp; omega)]; simp
          have hz1 : Hid (w.heap.size + 1 < w1.heap.size) := by have := hb.size; simp at this; show _ < _; omega
          have tb := hide' (tblk_new _ _ hb)
          clear hb KL hat
          go_upto_region 4 with fail
          have g0 : decide ((n : Int) < (T.length : Int)) = false := by simp; omega
          have g1 : decide (n < T.length) = false := by simp; omega
          go_quiet (fail)
          all_goals
            have B2 : Hid (Below w.heap.size w (w1.drewN nq)) := B1.out.trans ⟨rfl, rfl, rfl, Nat.le_refl _, fun _ _ => rfl⟩
            have tb2 : tblk (w1.drewN nq) (w.heap.size + 1) := tb.out
            obtain ⟨c0, c1, c2, c3, c4, f0, f1, f2, f3, f4⟩ := tblk_cells tb.out
            clear c6 tb tb2 g0 g1
            go_upto_region 6 with fail
            go_region_held3 (fun _ => True) (trivial) (first | (go_at_call 112; refine (kv.out _).mono ?_; rintro e w3 ⟨rfl, rfl⟩))
            all_goals go_wp2_with fail
            all_goals exact bodyPost_ret (v := .tuple #[.agg #[.int .i64 2, .string sx, .int .i64 vv, .int .i64 0, .int .i64 0], .int .i64 0]) (by simp [results, Try.results101, go_sem, c0, c1, c2, c3, c4]) rfl ⟨rfl, by first | exact below_set5 B2.out (by omega) _ _ _ _ _ | exact below_set5 B2.out.drew (by omega) _ _ _ _ _ | exact below_set5 B2.out.drew.drew (by omega) _ _ _ _ _⟩
end Go.Proofs.Ytghodeggobgclaa

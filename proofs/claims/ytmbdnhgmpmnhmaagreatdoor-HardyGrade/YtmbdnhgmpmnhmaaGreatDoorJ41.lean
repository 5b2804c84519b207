/- The document's weak, Weak, Grade. -/
import Derived.Test.YtmbdnhgmpmnhmaaGreatDoorJ32
import Derived.Test.YtmbdnhgmpmnhmaaGreatDoorJ39
import Derived.Test.YtmbdnhgmpmnhmaaGreatDoorJ40
namespace Go.Proofs.YtmbdnhgmpmnhmaaGreatDoor.S
open Go.RowKit Go.Shelf
theorem loP_ok {P : Pb} (hk : Pok P) (x : Nat) : Pok (loP P x) := by
  unfold loP
  by_cases h : chkN P = 0
  · rw [if_pos h]; exact lesP_ok hk x
  · rw [if_neg h]; exact ⟨Nat.zero_le _, Nat.zero_le _, Nat.zero_le _, (fun r hr => by cases hr), (fun z hz => by cases hz)⟩
set_option maxRecDepth 100000 in
set_option maxHeartbeats 2000000 in
theorem lostD (P : Pb) (wv fv rv : Value) (x : Nat) (hx : x < 18446744073709551616) (w : World) (h : PbV w P wv fv rv) (hk : Pok P) (hT : M.Tab w) :
    Calls Tryz.prog 34 #[pbV P wv fv rv, .int .u64 (x : Int)] w fun e w' => e = .returned (.bool (!canB (loP P x))) ∧ Below w.heap.size w w' := by
  have hB1 : Hid (Below w.heap.size w (w.alloc (.cells #[.int .i64 P.users, wv, fv, rv] 26))) := (Below.refl _ _).alloc (Nat.le_refl _) _
  have hb1 : Hid (PbB (w.alloc (.cells #[.int .i64 P.users, wv, fv, rv] 26)) w.heap.size P wv fv rv) := heap_new w _
  have p0 := hb1.out.c0
  have p1 := hb1.out.c1
  have p2 := hb1.out.c2
  have p3 := hb1.out.c3
  have KL := hide' (loseD P wv fv rv x hx _ (h.below hB1.out) hk)
  have KC : Hid (∀ V a b c, M.Tab V → PbV V (loP P x) a b c → Calls Tryz.prog 33 #[.agg #[.int .i64 (loP P x).users, a, b, c]] V fun e w' => e = .returned (.bool (canB (loP P x))) ∧ Below V.heap.size V w') := fun V a b c hV hq => canDF (loP P x) a b c V hq (loP_ok hk x) hV
  have hT' := hide' hT
  unfold pbV at KL ⊢
  unfold WtP at KL
  clear h hk hT
  generalize loP P x = X at *
  go_enter Tryz.func34, Tryz.ntmps34
  go_upto_region 1 with fail
  generalize w.alloc (.cells #[.int .i64 P.users, wv, fv, rv] 26) = w1 at *
  go_wp2_with fail
  refine KL.out.mono ?_
  rintro e w2 ⟨o1, n1, c1, o2, n2, c2, o3, n3, c3, rfl, hX2, hb2, _, _⟩
  have hB2 : Hid (Below w.heap.size w w2) := hB1.out.trans (hb2.out.mono hB1.out.size)
  have hq := QAt.block (heap_new w2 (.cells #[.int .i64 X.users, .slice o1 n1 c1, .slice o2 n2 c2, .slice o3 n3 c3] 26))
  have x0 := hq.c0
  have x1 := hq.c1
  have x2 := hq.c2
  have x3 := hq.c3
  have hB3 : Hid (Below w.heap.size w (w2.alloc (.cells #[.int .i64 X.users, .slice o1 n1 c1, .slice o2 n2 c2, .slice o3 n3 c3] 26))) := hB2.out.alloc hB2.out.size _
  have hX3 := hide' (hX2.out.below ((Below.refl _ w2).alloc (Nat.le_refl _) (.cells #[.int .i64 X.users, .slice o1 n1 c1, .slice o2 n2 c2, .slice o3 n3 c3] 26)))
  have KC2 := hide' (KC.out _ _ _ _ (hT'.out.over hB3.out) hX3.out)
  clear KL KC hb2 hX2 hq hX3 hT' p0 p1 p2 p3 hb1
  go_wp2_with fail
  refine KC2.out.mono ?_
  rintro e w4 ⟨rfl, hb4⟩
  have hB4 := hide' (hB3.out.trans (hb4.mono hB3.out.size))
  clear hb4 KC2
  go_wp2
  go_ret
  exact ⟨rfl, hB4.out⟩
set_option maxRecDepth 100000 in
set_option maxHeartbeats 4000000 in
theorem neededD (P : Pb) (wv fv rv : Value) (w : World) (h : PbV w P wv fv rv) (hk : Pok P) (hT : M.Tab w) :
    Calls Tryz.prog 16 #[pbV P wv fv rv] w fun e w' => e = .returned (.int .u64 ((nedP P : Nat) : Int)) ∧ Below w.heap.size w w' := by
  have hB1 : Hid (Below w.heap.size w (w.alloc (.cells #[.int .i64 P.users, wv, fv, rv] 26))) := (Below.refl _ _).alloc (Nat.le_refl _) _
  have hb1 : Hid (PbB (w.alloc (.cells #[.int .i64 P.users, wv, fv, rv] 26)) w.heap.size P wv fv rv) := heap_new w _
  have p0 := hb1.out.c0
  have p1 := hb1.out.c1
  have p2 := hb1.out.c2
  have p3 := hb1.out.c3
  have KK := hide' (rCheckF P wv fv rv _ (h.below hB1.out) hk)
  have KC : Hid (∀ V, Below w.heap.size w V → Calls Tryz.prog 33 #[.agg #[.int .i64 P.users, wv, fv, rv]] V fun e w' => e = .returned (.bool (canB P)) ∧ Below V.heap.size V w') := fun V hV => canDF P wv fv rv V (h.below hV) hk (hT.over hV)
  have KL : Hid (∀ (x : Nat) V, x < 18446744073709551616 → Below w.heap.size w V → Calls Tryz.prog 34 #[.agg #[.int .i64 P.users, wv, fv, rv], .int .u64 (x : Int)] V fun e w' => e = .returned (.bool (!canB (loP P x))) ∧ Below V.heap.size V w') := fun x V hx hV => lostD P wv fv rv x hx V (h.below hV) hk (hT.over hV)
  have hlz := hide' (les_zero hk)
  have hM : Hid (∀ V, Below (w.alloc (.cells #[.int .i64 P.users, wv, fv, rv] 26)).heap.size (w.alloc (.cells #[.int .i64 P.users, wv, fv, rv] 26)) V → Below w.heap.size w V ∧ (V.cell? ⟨w.heap.size, 0, none⟩ = some (.int .i64 P.users) ∧ V.cell? ⟨w.heap.size, 1, none⟩ = some wv ∧ V.cell? ⟨w.heap.size, 2, none⟩ = some fv ∧ V.cell? ⟨w.heap.size, 3, none⟩ = some rv)) := fun V hV => ⟨hB1.out.trans (hV.mono hB1.out.size), (hb1.out.below hV).all⟩
  unfold pbV at KK ⊢
  clear h hk hT hb1
  go_enter Tryz.func16, Tryz.ntmps16
  go_upto_region 1 with fail
  generalize w.alloc (.cells #[.int .i64 P.users, wv, fv, rv] 26) = w1 at *
  by_cases hC : chkN P = 0
  · rw [hC] at KK
    obtain ⟨g12, g0, g64, g32, gF, gW, gR⟩ := chkN_zero hC
    have hlo : Hid (∀ x, loP P x = lesP P x) := fun x => by unfold loP; rw [if_pos hC]
    obtain ⟨U, hU⟩ : ∃ U : Nat, P.users = (U : Int) := Int.eq_ofNat_of_zero_le g0
    have hU64 : U ≤ 64 := by omega
    have hUt : Hid (P.users.toNat = U) := by show _ = _; rw [hU, Int.toNat_natCast]
    have hUh := hide' hU
    have hne : Hid (nedP P = if canB P = true then nedJ P U else 0) := by
      show _ = _
      unfold nedP
      rw [hlz.out, hUt.out]
      by_cases q : canB P = true
      · rw [if_pos ⟨hC, q⟩, if_pos q]
      · rw [if_neg fun r => q r.2, if_neg q]
    clear hC g12 g0 g64 g32 gF gW gR hlz hU
    go_wp2_with fail
    refine KK.out.mono ?_
    rintro e w2 ⟨rfl, hb2⟩
    obtain ⟨hB2, p0, p1, p2, p3⟩ := hM.out w2 hb2
    have KC2 := hide' (KC.out w2 hB2)
    have hb2' := hide' hb2
    clear KK KC hb2 hB2
    cases hcb : canB P with
    | false =>
      rw [hcb] at KC2 hne
      have hn0 : Hid (nedP P = 0) := hne.out
      clear hne KL hcb
      go_wp2_with fail
      refine KC2.out.mono ?_
      rintro e w3 ⟨rfl, hb3⟩
      have hB3 := hide' (hM.out w3 (hb2'.out.trans (hb3.mono hb2'.out.size))).1
      clear KC2 hb3
      go_wp2
      go_ret
      exact ⟨by rw [hn0.out]; rfl, hB3.out⟩
    | true =>
      rw [hcb] at KC2 hne
      have hn1 : Hid (nedP P = nedJ P U) := hne.out
      clear hne hcb
      go_wp2_with fail
      refine KC2.out.mono ?_
      rintro e w3 ⟨rfl, hb3⟩
      have hb3' := hide' (hb2'.out.trans (hb3.mono hb2'.out.size))
      clear KC2 hb3 hb2' p0 p1 p2 p3
      go_wp2
      go_loopw [3, 4] (fun q p wr => ∃ j : Nat, j ≤ U ∧ q = .int .u64 ((nedJ P j : Nat) : Int) ∧ p = .int .i64 (j : Int) ∧ Hid (Below w1.heap.size w1 wr)) (fun _ p _ => ((U : Int) - intOf p).toNat)
      case atStart => exact ⟨0, Nat.zero_le _, rfl, rfl, hb3'⟩
      case round =>
        clear hb3'
        obtain ⟨j, hj, rfl, rfl, hb⟩ := hrel
        obtain ⟨hBr, p0, p1, p2, p3⟩ := hM.out wr hb.out
        rw [hUh.out] at p0
        by_cases hlt : j < U
        · have hlt' : (j : Int) < (U : Int) := by omega
          have hj0 : ¬ (j : Int) < 0 := by omega
          have hj64 : j < 64 := by omega
          have hmn : min j 64 = j := by omega
          have hpl : (2 : Nat) ^ j < 18446744073709551616 := Nat.lt_of_lt_of_le (Nat.pow_lt_pow_right (by decide) hj64) (Nat.le_refl (2 ^ 64))
          have hsh : IntKind.u64.wrap ((2 : Int) ^ j) = ((2 ^ j : Nat) : Int) := by
            rw [IntKind.wrap_u64, show ((2 : Int) ^ j) = ((2 ^ j : Nat) : Int) by push_cast; rfl]
            generalize (2 : Nat) ^ j = q at *
            omega
          have hS : Hid (nedJ P (j + 1) = if canB (lesP P (2 ^ j)) then nedJ P j else nedJ P j ||| 2 ^ j) := rfl
          have hacc := nedJ_lt P (j := j) (by omega)
          have hor := u64_or_nat (nedJ P j) (2 ^ j) hacc hpl
          have KLj : Hid (∀ V, Below w1.heap.size w1 V → Calls Tryz.prog 34 #[.agg #[.int .i64 (U : Int), wv, fv, rv], .int .u64 ((2 ^ j : Nat) : Int)] V fun e w' => e = .returned (.bool (!canB (lesP P (2 ^ j)))) ∧ Below V.heap.size V w') := fun V hV => by
            have := KL.out (2 ^ j) V hpl (hM.out V hV).1
            rw [hlo.out, hUh.out] at this
            exact this
          have hMM : Hid (∀ V, Below w1.heap.size w1 V → V.cell? ⟨w.heap.size, 0, none⟩ = some (.int .i64 (U : Int)) ∧ V.cell? ⟨w.heap.size, 1, none⟩ = some wv ∧ V.cell? ⟨w.heap.size, 2, none⟩ = some fv ∧ V.cell? ⟨w.heap.size, 3, none⟩ = some rv) := fun V hV => by
            have := (hM.out V hV).2
            rw [hUh.out] at this
            exact this
          generalize canB (lesP P (2 ^ j)) = cb at *
          generalize nedJ P j ||| 2 ^ j = a2 at *
          generalize nedJ P j = a1 at *
          generalize (2 : Nat) ^ j = pj at *
          clear hpl hacc KL hlo hBr hj64
          have hbd : Hid (Below w1.heap.size w1 wr.drew) := hb.out.drew
          go_upto_region 7 with fail
          go_region_held3 (fun V => V.cell? ⟨w.heap.size, 0, none⟩ = some (.int .i64 (U : Int)) ∧ V.cell? ⟨w.heap.size, 1, none⟩ = some wv ∧ V.cell? ⟨w.heap.size, 2, none⟩ = some fv ∧ V.cell? ⟨w.heap.size, 3, none⟩ = some rv) (first | (exact hMM.out _ hbd.out) | (exact hMM.out _ (hbd.out.trans (hb4.mono hbd.out.size)))) (first | (go_at_call 34; refine (KLj.out _ hbd.out).mono ?_; rintro e w4 ⟨rfl, hb4⟩))
          all_goals
            have hb5 := hide' (hbd.out.trans (hb4.mono hbd.out.size))
            clear hb hb4 hbd KLj p0 p1 p2 p3
            cases cb
            · have hS' : Hid (nedJ P (j + 1) = a2) := hS.out
              clear hS
              go_wp2
              exact ⟨⟨j + 1, by omega, by rw [hS'.out], by go_num, hb5⟩, by simp [intOf]; omega⟩
            · have hS' : Hid (nedJ P (j + 1) = a1) := hS.out
              clear hS
              go_wp2
              exact ⟨⟨j + 1, by omega, by rw [hS'.out], by go_num, hb5⟩, by simp [intOf]; omega⟩
        · obtain rfl : j = U := by omega
          clear KL hlo
          go_wp2
          go_ret
          exact ⟨by rw [hn1.out]; rfl, hBr⟩
  · have h0 : Hid (nedP P = 0) := by show _ = _; unfold nedP; rw [if_neg fun q => hC q.1]
    have hne : ¬ ((chkN P : Nat) : Int) = 0 := by omega
    have hne2 : (((chkN P : Nat) : Int) != 0) = true := by rw [bne_iff_ne]; exact hne
    generalize ((chkN P : Nat) : Int) = cc at *
    clear hC KL KC hlz
    go_wp2_with fail
    refine KK.out.mono ?_
    rintro e w2 ⟨rfl, hb2⟩
    have hB2 := hide' (hM.out w2 hb2).1
    clear KK hb2
    go_wp2
    go_ret
    exact ⟨by rw [h0.out]; rfl, hB2.out⟩
end Go.Proofs.YtmbdnhgmpmnhmaaGreatDoor.S
namespace Go.Proofs.YtmbdnhgmpmnhmaaGreatDoor.S
open Go.RowKit Go.Shelf
/-- Those taken: rising, below f, their word x. -/
structure WkT (f x : Nat) (T : List Nat) : Prop where
  asc : T.Pairwise (· < ·)
  lt : ∀ t ∈ T, t < f
  f64 : f ≤ 64
  word : orL T = x
  few : T.length + 3 ≤ 1000
theorem WkT.lt64 {f x : Nat} {T : List Nat} (h : WkT f x T) : x < 18446744073709551616 := by
  rw [← h.word]
  exact orL_lt (n := 64) fun t ht => by have := h.lt t ht; have := h.f64; omega
theorem WkT.num {f x : Nat} {T : List Nat} (h : WkT f x T) : numN x = T := by
  rw [← h.word]
  exact numN_orL h.asc fun t ht => by have := h.lt t ht; have := h.f64; omega
theorem WkT.more {f x u : Nat} {T : List Nat} (h : WkT f x T) (h1 : f ≤ u) (h2 : u < 64) (h3 : T.length + 4 ≤ 1000) : WkT (u + 1) (x ||| 2 ^ u) (T ++ [u]) :=
  ⟨List.pairwise_append.2 ⟨h.asc, List.pairwise_singleton _ _, fun a ha b hb => by rw [List.mem_singleton] at hb; subst hb; have := h.lt a ha; omega⟩, fun t ht => by
    rcases List.mem_append.1 ht with q | q
    · have := h.lt t q; omega
    · rw [List.mem_singleton] at q; omega, by omega, by rw [orL_snoc, h.word], by rw [List.length_append, List.length_singleton]; omega⟩
/-- What the document's weak answers. -/
def WdP (w : World) (r : Option Nat) (e : Ending) (w' : World) : Prop :=
  ∃ o n c t, e = .returned (.tuple #[.slice o n c, .bool t]) ∧ Hid (t = r.isSome ∧ ∀ y, r = some y → RowI w' (.slice o n c) (ints (numN y))) ∧ Hid (Below w.heap.size w w')
set_option maxRecDepth 100000 in
set_option maxHeartbeats 4000000 in
theorem weakD (P : Pb) (hk : Pok P) (hC : chkN P = 0) : ∀ (m f x : Nat) (T : List Nat) (tv wv fv rv : Value) (w : World), m ≤ 3 → PbV w P wv fv rv → RowI w tv (ints T) → WkT f x T → T.length + m ≤ 3 → M.Tab w →
    Calls Tryz.prog 28 #[pbV P wv fv rv, .int .i64 (f : Int), .int .i64 (m : Int), tv, .int .u64 (x : Int)] w (WdP w (wekP P m x f)) := by
  intro m
  induction m with
  | zero =>
    intro f x T tv wv fv rv w _ h hT hW hl ht
    have hB1 : Hid (Below w.heap.size w (w.alloc (.cells #[.int .i64 P.users, wv, fv, rv] 26))) := (Below.refl _ _).alloc (Nat.le_refl _) _
    have hb1 : Hid (PbB (w.alloc (.cells #[.int .i64 P.users, wv, fv, rv] 26)) w.heap.size P wv fv rv) := heap_new w _
    have p0 := hb1.out.c0
    have p1 := hb1.out.c1
    have p2 := hb1.out.c2
    have p3 := hb1.out.c3
    have KL := hide' (lostD P wv fv rv x hW.lt64 _ (h.below hB1.out) hk (ht.over hB1.out))
    have hlo : loP P x = lesP P x := by unfold loP; rw [if_pos hC]
    rw [hlo] at KL
    have hr : Hid ((wekP P 0 x f).isSome = !canB (lesP P x) ∧ ∀ y, wekP P 0 x f = some y → y = x) := by
      unfold wekP
      cases canB (lesP P x) with
      | true => exact ⟨rfl, fun y e => by cases e⟩
      | false => exact ⟨rfl, fun y e => by injection e with e; exact e.symm⟩
    have hn := hide' hW.num
    have hT' := hide' hT
    obtain ⟨oT, cT, rfl, _, _⟩ := hT
    unfold pbV at KL ⊢
    clear h hW ht hlo hk hC hl
    generalize wekP P 0 x f = r at *
    generalize canB (lesP P x) = cb at *
    go_enter Tryz.func28, Tryz.ntmps28
    go_upto_region 1 with fail
    generalize w.alloc (.cells #[.int .i64 P.users, wv, fv, rv] 26) = w1 at *
    go_wp2_with fail
    refine KL.out.mono ?_
    rintro e w2 ⟨rfl, hb2⟩
    have hB2 : Hid (Below w.heap.size w w2) := hB1.out.trans (hb2.mono hB1.out.size)
    clear hb2 KL hb1 p0 p1 p2 p3
    go_wp2
    refine bodyPost_ret (v := .tuple #[.slice oT (ints T).length cT, .bool (!cb)]) (by simp [results, Tryz.results28, go_sem]) rfl ?_
    exact ⟨_, _, _, _, rfl, ⟨hr.out.1.symm, fun y e => by rw [hr.out.2 y e, hn.out]; exact hT'.out.below hB2.out (Nat.le_refl _)⟩, hB2⟩
  | succ m ih =>
    intro f x T tv wv fv rv w hm h hT hW hl ht
    obtain ⟨g12, g0, g64, g32, gF, gW, gR⟩ := chkN_zero hC
    obtain ⟨U, hU⟩ : ∃ U : Nat, P.users = (U : Int) := Int.eq_ofNat_of_zero_le g0
    have hU64 : U ≤ 64 := by omega
    have hUt : P.users.toNat = U := by rw [hU, Int.toNat_natCast]
    have hUh := hide' hU
    have hB0 : Hid (Below w.heap.size w (w.alloc (.cells #[.int .i64 P.users, wv, fv, rv] 26))) := (Below.refl _ w).alloc (Nat.le_refl _) _
    have hb0 : Hid (PbB (w.alloc (.cells #[.int .i64 P.users, wv, fv, rv] 26)) w.heap.size P wv fv rv) := heap_new w _
    have KS : Hid (∀ V (u : Nat) tv2, Below w.heap.size w V → f ≤ u → u < U → RowI V tv2 (ints T ++ [(u : Int)]) → Calls Tryz.prog 28 #[.agg #[.int .i64 (U : Int), wv, fv, rv], .int .i64 ((u : Int) + 1), .int .i64 (m : Int), tv2, .int .u64 ((x ||| 2 ^ u : Nat) : Int)] V (WdP V (wekP P m (x ||| 2 ^ u) (u + 1)))) := fun V u tv2 hV h1 h2 hR => by
      have := ih (u + 1) (x ||| 2 ^ u) (T ++ [u]) tv2 wv fv rv V (by omega) (h.below hV) (by rw [show ints (T ++ [u]) = ints T ++ [(u : Int)] by simp [ints]]; exact hR) (hW.more h1 (by omega) (by omega)) (by rw [List.length_append, List.length_singleton]; omega) (ht.over hV)
      unfold pbV at this
      rw [hUh.out] at this
      exact this
    have hx64 := hW.lt64
    have hno : Hid ((∀ i, i < U - f → wekP P m (x ||| 2 ^ (f + i)) (f + i + 1) = none) → wekP P (m + 1) x f = none) := fun q => by
      show _ = _
      unfold wekP
      rw [hUt]
      exact findR_none q
    have hfd : Hid (∀ j y, j < U - f → (∀ i, i < j → wekP P m (x ||| 2 ^ (f + i)) (f + i + 1) = none) → wekP P m (x ||| 2 ^ (f + j)) (f + j + 1) = some y → wekP P (m + 1) x f = some y) := fun j y q1 q2 q3 => by
      show _ = _
      unfold wekP
      rw [hUt]
      exact findR_some q1 q2 q3
    have hf64 := hW.f64
    have ha' := hide' hT
    have hil : (ints T).length ≤ 1000 := by rw [ints_len]; omega
    have hM : Hid (∀ V, Below (w.alloc (.cells #[.int .i64 P.users, wv, fv, rv] 26)).heap.size (w.alloc (.cells #[.int .i64 P.users, wv, fv, rv] 26)) V → Below w.heap.size w V ∧ (V.cell? ⟨w.heap.size, 0, none⟩ = some (.int .i64 (U : Int)) ∧ V.cell? ⟨w.heap.size, 1, none⟩ = some wv ∧ V.cell? ⟨w.heap.size, 2, none⟩ = some fv ∧ V.cell? ⟨w.heap.size, 3, none⟩ = some rv)) := fun V hV => ⟨hB0.out.trans (hV.mono hB0.out.size), by rw [← hUh.out]; exact (hb0.out.below hV).all⟩
    obtain ⟨oT, cT, rfl, _, _⟩ := hT
    obtain ⟨W1, hW1⟩ : ∃ W, W = w.alloc (.cells #[.int .i64 P.users, wv, fv, rv] 26) := ⟨_, rfl⟩
    rw [← hW1] at hM
    have hm3 : m ≤ 2 := by omega
    obtain ⟨m1, hm1⟩ : ∃ m1, m1 = m + 1 := ⟨_, rfl⟩
    have hmz : ((m1 : Int) == 0) = false := by rw [beq_eq_false_iff_ne]; omega
    have hmi : (m1 : Int) - 1 = (m : Int) := by omega
    rw [← hm1] at hno hfd ⊢
    unfold WdP at KS
    unfold pbV
    clear h hk hC g12 g0 g64 g32 gF gW gR hU hUt hW hl ht ih hb0 hB0 hm hm1
    go_enter Tryz.func28, Tryz.ntmps28
    go_upto_region 1 with fail
    rw [← hW1]
    clear hW1
    have hb1 : Hid (Below W1.heap.size W1 W1) := Below.refl _ _
    go_wp2
    go_loopw [1, 12, 13, 14] (fun p _ _ _ wr => ∃ j : Nat, f + j ≤ 64 ∧ (j = 0 ∨ f + j ≤ U) ∧ p = .int .i64 ((f + j : Nat) : Int) ∧ Hid (∀ i, i < j → wekP P m (x ||| 2 ^ (f + i)) (f + i + 1) = none) ∧ Hid (Below W1.heap.size W1 wr)) (fun p _ _ _ _ => ((64 : Int) - intOf p).toNat)
    case atStart => exact ⟨0, by omega, .inl rfl, rfl, fun i hi => absurd hi (Nat.not_lt_zero _), hb1⟩
    case round =>
      clear hb1
      obtain ⟨j, hj, hjU, rfl, hN, hB⟩ := hrel
      obtain ⟨hBw, p0, p1, p2, p3⟩ := hM.out wr hB.out
      have hBw' := hide' hBw
      obtain ⟨u, hu⟩ : ∃ u, u = f + j := ⟨_, rfl⟩
      rw [← hu] at hj hjU ⊢
      by_cases hlt : u < U
      · have hlt' : (u : Int) < (U : Int) := by omega
        have hu0 : ¬ (u : Int) < 0 := by omega
        have hmn : min u 64 = u := by omega
        have hpl : (2 : Nat) ^ u < 18446744073709551616 := Nat.lt_of_lt_of_le (Nat.pow_lt_pow_right (by decide) (by omega : u < 64)) (Nat.le_refl (2 ^ 64))
        have hsh : IntKind.u64.wrap ((2 : Int) ^ u) = ((2 ^ u : Nat) : Int) := by
          rw [IntKind.wrap_u64, show ((2 : Int) ^ u) = ((2 ^ u : Nat) : Int) by push_cast; rfl]
          generalize (2 : Nat) ^ u = q at *
          omega
        have hor := u64_or_nat x (2 ^ u) hx64 hpl
        have haw := hide' (ha'.out.below hBw'.out (Nat.le_refl _))
        have hsz := hBw'.out.size
        have KSu := hide' (fun V tv2 h1 h2 => KS.out V u tv2 h1 (by omega) hlt h2)
        have hfn : Hid (∀ y, wekP P m (x ||| 2 ^ u) (u + 1) = some y → wekP P m1 x f = some y) := fun y e => hfd.out j y (by omega) hN.out (by rw [← hu]; exact e)
        have hnn : Hid (wekP P m (x ||| 2 ^ u) (u + 1) = none → ∀ i, i < j + 1 → wekP P m (x ||| 2 ^ (f + i)) (f + i + 1) = none) := fun e i hi => by
          by_cases q : i = j
          · subst q; rw [← hu]; exact e
          · exact hN.out i (by omega)
        generalize wekP P m (x ||| 2 ^ u) (u + 1) = r at *
        generalize x ||| 2 ^ u = x2 at *
        generalize (2 : Nat) ^ u = pu at *
        have hwu : IntKind.i64.wrap ((u : Int) + 1) = (u : Int) + 1 := by rw [IntKind.wrap_i64]; omega
        have hwm : IntKind.i64.wrap (m : Int) = (m : Int) := by rw [IntKind.wrap_i64]; omega
        have huh := hide' hu
        have hjU' := hide' hjU
        clear KS hno hfd hN hBw hpl hx64 hu hjU
        go_wp2_with (first | (at_builtin; refine all_intsS rfl (.tmp 27) (.tmp 28) wr _ (ints T) rfl rfl rfl haw.out hil ?_; intro o2 n2 c2 w2 hO2 hb2))
        have hBx := hide' (hB.out.trans (hb2.out.mono hB.out.size))
        have hBd : Hid (Below W1.heap.size W1 w2.drew) := hBx.out.drew
        have hBa : Hid (Below W1.heap.size W1 (w2.drew.alloc (.cells #[.int .i64 (u : Int)] 3))) := hBd.out.alloc hBd.out.size _
        have hBs : wr.heap.size ≤ w2.drew.heap.size := hb2.out.size
        have hBs2 : W1.heap.size ≤ wr.heap.size := hB.out.size
        clear hb2 p0 p1 p2 p3
        have hil2 : (ints T).length ≤ 1000000 := by omega
        go_upto_region 7 with fail
        refine wp_region_held_drew (S := (fun V => V.cell? ⟨w.heap.size, 0, none⟩ = some (.int .i64 (U : Int)) ∧ V.cell? ⟨w.heap.size, 1, none⟩ = some wv ∧ V.cell? ⟨w.heap.size, 2, none⟩ = some fv ∧ V.cell? ⟨w.heap.size, 3, none⟩ = some rv)) (by kernel_rfl) ?_ (fun hHeld => ?_)
        · exact (hM.out _ hBd.out).2
        refine wpAnyH_take (i := 0) (oi := { dst := some 31, op := Op.load 26 (Operand.tmp 5), type := 26, pos := "ref.go:50", after := #[], guard := none }) (v := ?_) rfl (by kernel_rfl) (by kernel_rfl) (by kernel_rfl) (fun _ _ _ h => h) (Or.inl ⟨by rfl, ?_⟩) (by assumption) ?_
        rotate_left
        · intro w hSw; (try dsimp only at hSw); go_simp <;> with_reducible rfl
        simp only [Act.put, List.setIfInBounds_toArray, List.set_cons_zero, List.set_cons_succ]
        refine wpAnyH_take (i := 1) (oi := { dst := some 32, op := Op.move (Operand.tmp 1), type := 3, pos := "ref.go:50", after := #[], guard := none }) (v := ?_) rfl (by kernel_rfl) (by kernel_rfl) (by kernel_rfl) (fun _ _ _ h => h) (Or.inl ⟨by rfl, ?_⟩) (by assumption) ?_
        rotate_left
        · intro w hSw; (try dsimp only at hSw); go_simp <;> with_reducible rfl
        simp only [Act.put, List.setIfInBounds_toArray, List.set_cons_zero, List.set_cons_succ]
        refine wpAnyH_take (i := 2) (oi := { dst := some 33, op := Op.binOp BinOp.add 3 (Operand.tmp 32) (Operand.const (Value.int IntKind.i64 1)) 3, type := 3, pos := "ref.go:50", after := #[{ on := 1, ground := Ground.data }], guard := none }) (v := ?_) rfl (by kernel_rfl) (by kernel_rfl) (by kernel_rfl) (fun _ _ _ h => h) (Or.inl ⟨by rfl, ?_⟩) (by assumption) ?_
        rotate_left
        · intro w hSw; (try dsimp only at hSw); go_simp <;> with_reducible rfl
        simp only [Act.put, List.setIfInBounds_toArray, List.set_cons_zero, List.set_cons_succ]
        refine wpAnyH_take (i := 3) (oi := { dst := some 34, op := Op.move (Operand.tmp 2), type := 3, pos := "ref.go:50", after := #[], guard := none }) (v := ?_) rfl (by kernel_rfl) (by kernel_rfl) (by kernel_rfl) (fun _ _ _ h => h) (Or.inl ⟨by rfl, ?_⟩) (by assumption) ?_
        rotate_left
        · intro w hSw; (try dsimp only at hSw); go_simp <;> with_reducible rfl
        simp only [Act.put, List.setIfInBounds_toArray, List.set_cons_zero, List.set_cons_succ]
        refine wpAnyH_take (i := 4) (oi := { dst := some 35, op := Op.binOp BinOp.sub 3 (Operand.tmp 34) (Operand.const (Value.int IntKind.i64 1)) 3, type := 3, pos := "ref.go:50", after := #[{ on := 3, ground := Ground.data }], guard := none }) (v := ?_) rfl (by kernel_rfl) (by kernel_rfl) (by kernel_rfl) (fun _ _ _ h => h) (Or.inl ⟨by rfl, ?_⟩) (by assumption) ?_
        rotate_left
        · intro w hSw; (try dsimp only at hSw); go_simp <;> with_reducible rfl
        simp only [Act.put, List.setIfInBounds_toArray, List.set_cons_zero, List.set_cons_succ]
        refine wpAnyH_take (i := 5) (oi := { dst := some 36, op := Op.move (Operand.tmp 12), type := 23, pos := "ref.go:50", after := #[], guard := none }) (v := ?_) rfl (by kernel_rfl) (by kernel_rfl) (by kernel_rfl) (fun _ _ _ h => h) (Or.inl ⟨by rfl, ?_⟩) (by assumption) ?_
        rotate_left
        · intro w hSw; (try dsimp only at hSw); go_simp <;> with_reducible rfl
        simp only [Act.put, List.setIfInBounds_toArray, List.set_cons_zero, List.set_cons_succ]
        refine wpAnyH_take (i := 6) (oi := { dst := some 37, op := Op.move (Operand.tmp 1), type := 3, pos := "ref.go:50", after := #[], guard := none }) (v := ?_) rfl (by kernel_rfl) (by kernel_rfl) (by kernel_rfl) (fun _ _ _ h => h) (Or.inl ⟨by rfl, ?_⟩) (by assumption) ?_
        rotate_left
        · intro w hSw; (try dsimp only at hSw); go_simp <;> with_reducible rfl
        simp only [Act.put, List.setIfInBounds_toArray, List.set_cons_zero, List.set_cons_succ]
        refine wpAnyH_take (i := 9) (oi := { dst := some 40, op := Op.move (Operand.tmp 4), type := 27, pos := "ref.go:50", after := #[], guard := none }) (v := ?_) rfl (by kernel_rfl) (by kernel_rfl) (by kernel_rfl) (fun _ _ _ h => h) (Or.inl ⟨by rfl, ?_⟩) (by assumption) ?_
        rotate_left
        · intro w hSw; (try dsimp only at hSw); go_simp <;> with_reducible rfl
        simp only [Act.put, List.setIfInBounds_toArray, List.set_cons_zero, List.set_cons_succ]
        refine wpAnyH_take (i := 10) (oi := { dst := some 41, op := Op.move (Operand.tmp 1), type := 3, pos := "ref.go:50", after := #[], guard := none }) (v := ?_) rfl (by kernel_rfl) (by kernel_rfl) (by kernel_rfl) (fun _ _ _ h => h) (Or.inl ⟨by rfl, ?_⟩) (by assumption) ?_
        rotate_left
        · intro w hSw; (try dsimp only at hSw); go_simp <;> with_reducible rfl
        simp only [Act.put, List.setIfInBounds_toArray, List.set_cons_zero, List.set_cons_succ]
        refine wpAnyH_take (i := 11) (oi := { dst := some 42, op := Op.binOp BinOp.shl 27 (Operand.const (Value.int IntKind.u64 1)) (Operand.tmp 41) 3, type := 27, pos := "ref.go:50", after := #[{ on := 10, ground := Ground.data }], guard := none }) (v := ?_) rfl (by kernel_rfl) (by kernel_rfl) (by kernel_rfl) (fun _ _ _ h => h) (Or.inl ⟨by rfl, ?_⟩) (by assumption) ?_
        rotate_left
        · intro w hSw; (try dsimp only at hSw); go_simp <;> with_reducible rfl
        simp only [Act.put, List.setIfInBounds_toArray, List.set_cons_zero, List.set_cons_succ]
        refine wpAnyH_take (i := 12) (oi := { dst := some 43, op := Op.binOp BinOp.or 27 (Operand.tmp 40) (Operand.tmp 42) 27, type := 27, pos := "ref.go:50", after := #[{ on := 9, ground := Ground.data }, { on := 11, ground := Ground.data }], guard := none }) (v := ?_) rfl (by kernel_rfl) (by kernel_rfl) (by kernel_rfl) (fun _ _ _ h => h) (Or.inl ⟨by rfl, ?_⟩) (by assumption) ?_
        rotate_left
        · intro w hSw; (try dsimp only at hSw); go_simp <;> with_reducible rfl
        simp only [Act.put, List.setIfInBounds_toArray, List.set_cons_zero, List.set_cons_succ]
        refine wpAnyH_ready (rs := [7]) (by kernel_rfl) (by simp) ?_
        refine AllReadyH.cons (o := { dst := some 38, op := Op.buildSlice 23 1 #[(0, Operand.tmp 37)], type := 23, pos := "ref.go:50", after := #[{ on := 6, ground := Ground.data }], guard := none }) rfl (fun K hK => ?_) AllReadyH.nil
        go_simp
        refine hK.out _ _ ?_ (fun hHeld => ?_)
        · exact (hM.out _ hBa.out).2
        clear hK K
        try simp only [Act.put, List.setIfInBounds_toArray, List.set_cons_zero, List.set_cons_succ]
        refine wpAnyH_ready (rs := [8]) (by kernel_rfl) (by simp) ?_
        refine AllReadyH.cons (o := { dst := some 39, op := Op.call { callee := Callee.builtin Builtin.append, args := #[Operand.tmp 36, Operand.tmp 38], argTypes := #[23, 23] }, type := 23, pos := "ref.go:50", after := #[{ on := 5, ground := Ground.data }, { on := 7, ground := Ground.data }], guard := none }) rfl (fun K hK => ?_) AllReadyH.nil
        rw [if_pos (by rfl)]
        refine app_oneS (.tmp 36) (.tmp 38) wr.heap.size w2.drew _ (ints T) (u : Int) rfl rfl rfl hO2.out hBs hil2 ?_; intro v3 w3 hO3 hb3'; have hb3 : Hid (Below W1.heap.size W1 w3) := hBd.out.trans (hb3'.out.mono hBs2); (try dsimp only)
        refine hK.out _ _ ?_ (fun hHeld => ?_)
        · exact (hM.out _ hb3.out).2
        clear hK K
        try simp only [Act.put, List.setIfInBounds_toArray, List.set_cons_zero, List.set_cons_succ]
        refine wpAnyH_ready (rs := [13]) (by kernel_rfl) (by simp) ?_
        refine AllReadyH.cons (o := { dst := some 44, op := Op.call { callee := Callee.value (Operand.func 28), args := #[Operand.tmp 31, Operand.tmp 33, Operand.tmp 35, Operand.tmp 39, Operand.tmp 43], argTypes := #[26, 3, 3, 23, 27] }, type := 39, pos := "ref.go:50", after := #[{ on := 0, ground := Ground.data }, { on := 2, ground := Ground.data }, { on := 4, ground := Ground.data }, { on := 8, ground := Ground.data }, { on := 12, ground := Ground.data }, { on := 8, ground := Ground.chain }], guard := none }) rfl (fun K hK => ?_) AllReadyH.nil
        go_simp
        go_at_call 28; refine (KSu.out _ _ (hM.out _ hb3.out).1 (RowI.of_owns hO3.out)).mono ?_; rintro e w4 ⟨o4, n4, c4, t4, rfl, hQ, hb4⟩; (try dsimp only)
        refine hK.out _ _ ?_ (fun hHeld => ?_)
        · exact (hM.out _ (hb3.out.trans (hb4.out.mono hb3.out.size))).2
        clear hK K
        try simp only [Act.put, List.setIfInBounds_toArray, List.set_cons_zero, List.set_cons_succ]
        refine wpAnyH_take (i := 14) (oi := { dst := some 30, op := Op.move (Operand.tmp 44), type := 39, pos := "ref.go:50", after := #[{ on := 13, ground := Ground.data }], guard := none }) (v := ?_) rfl (by kernel_rfl) (by kernel_rfl) (by kernel_rfl) (fun _ _ _ h => h) (Or.inl ⟨by rfl, ?_⟩) (by assumption) ?_
        rotate_left
        · intro w hSw; (try dsimp only at hSw); go_simp <;> with_reducible rfl
        simp only [Act.put, List.setIfInBounds_toArray, List.set_cons_zero, List.set_cons_succ]
        refine wpAnyH_take (i := 15) (oi := { dst := some 45, op := Op.extract (Operand.tmp 30) 0, type := 23, pos := "ref.go:50", after := #[{ on := 14, ground := Ground.data }], guard := none }) (v := ?_) rfl (by kernel_rfl) (by kernel_rfl) (by kernel_rfl) (fun _ _ _ h => h) (Or.inl ⟨by rfl, ?_⟩) (by assumption) ?_
        rotate_left
        · intro w hSw; (try dsimp only at hSw); go_simp <;> with_reducible rfl
        simp only [Act.put, List.setIfInBounds_toArray, List.set_cons_zero, List.set_cons_succ]
        refine wpAnyH_take (i := 16) (oi := { dst := some 46, op := Op.extract (Operand.tmp 30) 1, type := 4, pos := "ref.go:50", after := #[{ on := 14, ground := Ground.data }, { on := 17, ground := Ground.gcOnly Departure.lateStores }], guard := none }) (v := ?_) rfl (by kernel_rfl) (by kernel_rfl) (by kernel_rfl) (fun _ _ _ h => h) (Or.inl ⟨by rfl, ?_⟩) (by assumption) ?_
        rotate_left
        · intro w hSw; (try dsimp only at hSw); go_simp <;> with_reducible rfl
        simp only [Act.put, List.setIfInBounds_toArray, List.set_cons_zero, List.set_cons_succ]
        refine wpAnyH_take (i := 17) (oi := { dst := some 13, op := Op.assign (Operand.tmp 45), type := 23, pos := "ref.go:50", after := #[{ on := 15, ground := Ground.data }, { on := 13, ground := Ground.chain }, { on := 0, ground := Ground.phase }, { on := 1, ground := Ground.phase }, { on := 2, ground := Ground.phase }, { on := 3, ground := Ground.phase }, { on := 4, ground := Ground.phase }, { on := 5, ground := Ground.phase }, { on := 6, ground := Ground.phase }, { on := 7, ground := Ground.phase }, { on := 8, ground := Ground.phase }, { on := 9, ground := Ground.phase }, { on := 10, ground := Ground.phase }, { on := 11, ground := Ground.phase }, { on := 12, ground := Ground.phase }, { on := 13, ground := Ground.phase }, { on := 14, ground := Ground.phase }, { on := 15, ground := Ground.phase }, { on := 16, ground := Ground.textOnly Departure.lateStores }], guard := none }) (v := ?_) rfl (by kernel_rfl) (by kernel_rfl) (by kernel_rfl) (fun _ _ _ h => h) (Or.inl ⟨by rfl, ?_⟩) (by assumption) ?_
        rotate_left
        · intro w hSw; (try dsimp only at hSw); go_simp <;> with_reducible rfl
        simp only [Act.put, List.setIfInBounds_toArray, List.set_cons_zero, List.set_cons_succ]
        refine wpAnyH_take (i := 18) (oi := { dst := some 14, op := Op.assign (Operand.tmp 46), type := 4, pos := "ref.go:50", after := #[{ on := 16, ground := Ground.data }, { on := 17, ground := Ground.chain }, { on := 0, ground := Ground.phase }, { on := 1, ground := Ground.phase }, { on := 2, ground := Ground.phase }, { on := 3, ground := Ground.phase }, { on := 4, ground := Ground.phase }, { on := 5, ground := Ground.phase }, { on := 6, ground := Ground.phase }, { on := 7, ground := Ground.phase }, { on := 8, ground := Ground.phase }, { on := 9, ground := Ground.phase }, { on := 10, ground := Ground.phase }, { on := 11, ground := Ground.phase }, { on := 12, ground := Ground.phase }, { on := 13, ground := Ground.phase }, { on := 14, ground := Ground.phase }, { on := 15, ground := Ground.phase }, { on := 16, ground := Ground.phase }, { on := 17, ground := Ground.phase }], guard := none }) (v := ?_) rfl (by kernel_rfl) (by kernel_rfl) (by kernel_rfl) (fun _ _ _ h => h) (Or.inl ⟨by rfl, ?_⟩) (by assumption) ?_
        rotate_left
        · intro w hSw; (try dsimp only at hSw); go_simp <;> with_reducible rfl
        simp only [Act.put, List.setIfInBounds_toArray, List.set_cons_zero, List.set_cons_succ]
        refine wpAnyH_done (by kernel_rfl) ?_ _
        skip
        have hB4 := hide' (hb3.out.trans (hb4.out.mono hb3.out.size))
        have hB5 := hide' (hM.out _ hB4.out).1
        clear hb4 hO3 hb3' hBd hBa hO2 hBx KSu
        cases t4 with
        | false =>
          have hN2 := hide' (hnn.out (Option.isNone_iff_eq_none.1 (by have := hQ.out.1; cases r with | none => rfl | some y => cases this)))
          clear hQ hnn hfn
          go_wp2
          exact ⟨⟨j + 1, by have := huh.out; omega, by have := huh.out; omega, by rw [show f + (j + 1) = u + 1 by have := huh.out; omega]; first | rfl | go_num, hN2, hB4⟩, by simp [intOf]; omega⟩
        | true =>
          have hF : Hid (WdP w (wekP P m1 x f) (.returned (.tuple #[.slice o4 n4 c4, .bool true])) w4) := by
            cases r with
            | none => have := hQ.out.1; cases this
            | some y =>
              have hy := hfn.out y rfl
              rw [hy]
              exact ⟨_, _, _, _, rfl, ⟨rfl, fun z e => by injection e with e; subst e; exact hQ.out.2 y rfl⟩, hB5⟩
          clear hQ hnn hfn
          go_wp2
          go_ret2
          exact hF.out
      · have hlt' : ¬ (u : Int) < (U : Int) := by omega
        have hr : Hid (wekP P m1 x f = none) := hno.out fun i hi => hN.out i (by omega)
        clear KS hno hfd hN hBw hx64 hu hjU
        go_wp2
        refine bodyPost_ret (v := .tuple #[.slice none 0 0, .bool false]) (by simp [results, Tryz.results28, go_sem]) rfl ?_
        exact ⟨_, _, _, _, rfl, ⟨by rw [hr.out]; rfl, fun y e => by rw [hr.out] at e; cases e⟩, hBw'⟩
/-- What the document's Weak answers. -/
def WeD (w : World) (r : Option Nat) (e : Ending) (w' : World) : Prop :=
  ∃ o n c, e = .returned (.tuple #[.slice o n c, .bool r.isSome]) ∧ Hid (RowI w' (.slice o n c) (ints (numN (r.getD 0)))) ∧ Hid (Below w.heap.size w w')
theorem row_nilH (W : World) : RowI W (.slice none 0 0) (ints (numN 0)) := by
  have e : numN 0 = [] := List.eq_nil_iff_forall_not_mem.2 fun k hk => by have := (numN_mem.1 hk).2; rw [Nat.zero_testBit] at this; cases this
  rw [e]
  exact ⟨none, 0, rfl, ⟨Nat.le_refl _, fun _ => rfl⟩, fun i z h => by cases h⟩
set_option maxRecDepth 100000 in
set_option maxHeartbeats 4000000 in
theorem weakWD (P : Pb) (wv fv rv : Value) (z : Int) (w : World) (h : PbV w P wv fv rv) (hk : Pok P) (hT : M.Tab w) :
    Calls Tryz.prog 14 #[pbV P wv fv rv, .int .i64 z] w (WeD w (weaP P z)) := by
  have hB1 : Hid (Below w.heap.size w (w.alloc (.cells #[.int .i64 P.users, wv, fv, rv] 26))) := (Below.refl _ _).alloc (Nat.le_refl _) _
  have hb1 : Hid (PbB (w.alloc (.cells #[.int .i64 P.users, wv, fv, rv] 26)) w.heap.size P wv fv rv) := heap_new w _
  have p0 := hb1.out.c0
  have p1 := hb1.out.c1
  have p2 := hb1.out.c2
  have p3 := hb1.out.c3
  have KC := hide' (rCheckF P wv fv rv _ (h.below hB1.out) hk)
  have KW : Hid (chkN P = 0 → ∀ (m : Nat) V, m ≤ 3 → Below w.heap.size w V → Calls Tryz.prog 28 #[.agg #[.int .i64 P.users, wv, fv, rv], .int .i64 0, .int .i64 (m : Int), .slice none 0 0, .int .u64 0] V (WdP V (wekP P m 0 0))) := fun hC m V hm hV => weakD P hk hC m 0 0 [] (.slice none 0 0) wv fv rv V hm (h.below hV) ⟨none, 0, rfl, ⟨Nat.le_refl _, fun _ => rfl⟩, fun i z h => by cases h⟩ ⟨List.Pairwise.nil, (fun t ht => by cases ht), by omega, rfl, by decide⟩ (by simpa using hm) (hT.over hV)
  unfold WdP at KW
  unfold pbV at KC ⊢
  clear h hk hT
  by_cases hC : chkN P = 0
  · rw [hC] at KC
    have KW2 := hide' (KW.out hC)
    by_cases hz0 : z < 0
    · have hr : Hid (weaP P z = none) := by show _ = _; unfold weaP; rw [if_neg (by omega)]
      clear KW KW2 hC
      go_enter Tryz.func14, Tryz.ntmps14
      go_upto_region 1 with fail
      generalize w.alloc (.cells #[.int .i64 P.users, wv, fv, rv] 26) = w1 at *
      go_wp2_with fail
      refine KC.out.mono ?_
      rintro e w2 ⟨rfl, hb2⟩
      have hB2 : Hid (Below w.heap.size w w2) := hB1.out.trans (hb2.mono hB1.out.size)
      clear hb2
      go_wp2
      refine bodyPost_ret (v := .tuple #[.slice none 0 0, .bool false]) (by simp [results, Tryz.results14, go_sem]) rfl ?_
      exact ⟨none, 0, 0, by rw [hr.out]; rfl, by rw [hr.out]; exact row_nilH _, hB2⟩
    · by_cases hz3 : 3 < z
      · have hr : Hid (weaP P z = none) := by show _ = _; unfold weaP; rw [if_neg (by omega)]
        clear KW KW2 hC
        go_enter Tryz.func14, Tryz.ntmps14
        go_upto_region 1 with fail
        generalize w.alloc (.cells #[.int .i64 P.users, wv, fv, rv] 26) = w1 at *
        go_wp2_with fail
        refine KC.out.mono ?_
        rintro e w2 ⟨rfl, hb2⟩
        have hB2 : Hid (Below w.heap.size w w2) := hB1.out.trans (hb2.mono hB1.out.size)
        clear hb2
        go_wp2
        refine bodyPost_ret (v := .tuple #[.slice none 0 0, .bool false]) (by simp [results, Tryz.results14, go_sem]) rfl ?_
        exact ⟨none, 0, 0, by rw [hr.out]; rfl, by rw [hr.out]; exact row_nilH _, hB2⟩
      · obtain ⟨m, rfl⟩ := Int.eq_ofNat_of_zero_le (show 0 ≤ z by omega)
        have hm3 : m ≤ 3 := by omega
        have hr : Hid (weaP P (m : Int) = wekP P m 0 0) := by show _ = _; unfold weaP; rw [if_pos ⟨hC, by omega, by omega⟩, Int.toNat_natCast]
        have KWm := hide' (fun V => KW2.out m V hm3)
        generalize wekP P m 0 0 = r at *
        clear KW KW2 hC
        go_enter Tryz.func14, Tryz.ntmps14
        go_upto_region 1 with fail
        generalize w.alloc (.cells #[.int .i64 P.users, wv, fv, rv] 26) = w1 at *
        go_wp2_with fail
        refine KC.out.mono ?_
        rintro e w2 ⟨rfl, hb2⟩
        have hB2 : Hid (Below w.heap.size w w2) := hB1.out.trans (hb2.mono hB1.out.size)
        have hb3 := hide' (hb1.out.below hb2)
        have p0 := hb3.out.c0
        have p1 := hb3.out.c1
        have p2 := hb3.out.c2
        have p3 := hb3.out.c3
        have KW3 := hide' (KWm.out w2 hB2.out)
        clear KC KWm hb2 hb1 hb3
        go_wp2_with fail
        refine KW3.out.mono ?_
        rintro e w3 ⟨o, n, c, t, rfl, hQ, hb3⟩
        have hB3 : Hid (Below w.heap.size w w3) := hB2.out.trans (hb3.out.mono hB2.out.size)
        clear KW3 hb3 p0 p1 p2 p3
        cases t with
        | false =>
          have hn : Hid (r = none) := by show _ = _; have := hQ.out.1; cases r with | none => rfl | some y => cases this
          clear hQ
          go_wp2
          refine bodyPost_ret (v := .tuple #[.slice none 0 0, .bool false]) (by simp [results, Tryz.results14, go_sem]) rfl ?_
          exact ⟨none, 0, 0, by rw [hr.out, hn.out]; rfl, by rw [hr.out, hn.out]; exact row_nilH _, hB3⟩
        | true =>
          have hs : Hid (∃ y, r = some y ∧ RowI w3 (.slice o n c) (ints (numN y))) := by
            show ∃ y, _
            obtain ⟨h1, h2⟩ := hQ.out
            cases r with
            | none => cases h1
            | some y => exact ⟨y, rfl, h2 y rfl⟩
          clear hQ
          go_wp2
          refine bodyPost_ret (v := .tuple #[.slice o n c, .bool true]) (by simp [results, Tryz.results14, go_sem]) rfl ?_
          obtain ⟨y, h1, h2⟩ := hs.out
          exact ⟨o, n, c, by rw [hr.out, h1]; rfl, by rw [hr.out, h1]; exact h2, hB3⟩
  · have hne : ¬ ((chkN P : Nat) : Int) = 0 := by omega
    have hne2 : (((chkN P : Nat) : Int) != 0) = true := by rw [bne_iff_ne]; exact hne
    have hr : Hid (weaP P z = none) := by show _ = _; unfold weaP; rw [if_neg fun q => hC q.1]
    generalize ((chkN P : Nat) : Int) = cc at *
    clear KW hC
    go_enter Tryz.func14, Tryz.ntmps14
    go_upto_region 1 with fail
    generalize w.alloc (.cells #[.int .i64 P.users, wv, fv, rv] 26) = w1 at *
    go_wp2_with fail
    refine KC.out.mono ?_
    rintro e w2 ⟨rfl, hb2⟩
    have hB2 : Hid (Below w.heap.size w w2) := hB1.out.trans (hb2.mono hB1.out.size)
    clear hb2
    go_wp2
    refine bodyPost_ret (v := .tuple #[.slice none 0 0, .bool false]) (by simp [results, Tryz.results14, go_sem]) rfl ?_
    exact ⟨none, 0, 0, by rw [hr.out]; rfl, by rw [hr.out]; exact row_nilH _, hB2⟩
set_option maxRecDepth 100000 in
set_option maxHeartbeats 4000000 in
theorem gradeD (P : Pb) (wv fv rv : Value) (w : World) (h : PbV w P wv fv rv) (hk : Pok P) (hT : M.Tab w) :
    Calls Tryz.prog 18 #[pbV P wv fv rv] w fun e w' => e = .returned (.int .i64 (graP P)) ∧ Below w.heap.size w w' := by
  have hB1 : Hid (Below w.heap.size w (w.alloc (.cells #[.int .i64 P.users, wv, fv, rv] 26))) := (Below.refl _ _).alloc (Nat.le_refl _) _
  have hb1 : Hid (PbB (w.alloc (.cells #[.int .i64 P.users, wv, fv, rv] 26)) w.heap.size P wv fv rv) := heap_new w _
  have p0 := hb1.out.c0
  have p1 := hb1.out.c1
  have p2 := hb1.out.c2
  have p3 := hb1.out.c3
  have KC := hide' (rCheckF P wv fv rv _ (h.below hB1.out) hk)
  have KW : Hid (∀ (j : Nat) V, Below w.heap.size w V → Calls Tryz.prog 14 #[.agg #[.int .i64 P.users, wv, fv, rv], .int .i64 (j : Int)] V (WeD V (weaP P (j : Int)))) := fun j V hV => weakWD P wv fv rv (j : Int) V (h.below hV) hk (hT.over hV)
  have hM : Hid (∀ V, Below (w.alloc (.cells #[.int .i64 P.users, wv, fv, rv] 26)).heap.size (w.alloc (.cells #[.int .i64 P.users, wv, fv, rv] 26)) V → Below w.heap.size w V ∧ (V.cell? ⟨w.heap.size, 0, none⟩ = some (.int .i64 P.users) ∧ V.cell? ⟨w.heap.size, 1, none⟩ = some wv ∧ V.cell? ⟨w.heap.size, 2, none⟩ = some fv ∧ V.cell? ⟨w.heap.size, 3, none⟩ = some rv)) := fun V hV => ⟨hB1.out.trans (hV.mono hB1.out.size), (hb1.out.below hV).all⟩
  unfold WeD at KW
  unfold pbV at KC ⊢
  clear h hk hT hb1
  by_cases hC : chkN P = 0
  · rw [hC] at KC
    have hCh := hide' hC
    clear hC
    go_enter Tryz.func18, Tryz.ntmps18
    go_upto_region 1 with fail
    generalize w.alloc (.cells #[.int .i64 P.users, wv, fv, rv] 26) = w1 at *
    go_wp2_with fail
    refine KC.out.mono ?_
    rintro e w2 ⟨rfl, hb2⟩
    have hb2' := hide' hb2
    clear KC hb2 p0 p1 p2 p3
    go_wp2
    go_loopw [3, 4, 5] (fun kv _ _ wr => ∃ j : Nat, j ≤ 4 ∧ kv = .int .i64 (j : Int) ∧ Hid (∀ i, i < j → (if (wekP P i 0 0).isSome then some ((i : Int) - 1) else none) = none) ∧ Hid (Below w1.heap.size w1 wr)) (fun kv _ _ _ => ((4 : Int) - intOf kv).toNat)
    case atStart => exact ⟨0, by omega, rfl, fun i hi => absurd hi (Nat.not_lt_zero _), hb2'⟩
    case round =>
      clear hb2'
      obtain ⟨j, hj, rfl, hno, hb⟩ := hrel
      obtain ⟨hBr, p0, p1, p2, p3⟩ := hM.out wr hb.out
      by_cases hlt : j < 4
      · have hlt' : (j : Int) ≤ 3 := by omega
        have KWj := hide' (KW.out j wr hBr)
        have hwe : weaP P (j : Int) = wekP P j 0 0 := by unfold weaP; rw [if_pos ⟨hCh.out, by omega, by omega⟩, Int.toNat_natCast]
        rw [hwe] at KWj
        obtain ⟨r, hr⟩ : ∃ r, r = wekP P j 0 0 := ⟨_, rfl⟩
        rw [← hr] at KWj
        have hgr : Hid (r.isSome = true → graP P = (j : Int) - 1) := fun q => by
          show _ = _
          unfold graP
          rw [if_pos hCh.out, findR_some hlt hno.out (by rw [← hr, if_pos q])]
          rfl
        have hno' : Hid (r.isSome = false → ∀ i, i < j + 1 → (if (wekP P i 0 0).isSome then some ((i : Int) - 1) else none) = none) := fun q i hi => by
          by_cases e : i = j
          · subst e; rw [← hr, q]; rfl
          · exact hno.out i (by omega)
        have hjw : IntKind.i64.wrap ((j : Int) - 1) = (j : Int) - 1 := by rw [IntKind.wrap_i64]; omega
        generalize r.isSome = bs at *
        clear hwe hr hBr KW hno
        go_wp2_with fail
        refine KWj.out.mono ?_
        rintro e w4 ⟨o, n, c, rfl, _, hb4⟩
        have hb5 := hide' (hb.out.trans (hb4.out.mono hb.out.size))
        clear KWj hb4 hb p0 p1 p2 p3
        cases bs
        · have hn := hide' (hno'.out rfl)
          clear hno' hgr
          go_wp2
          exact ⟨⟨j + 1, by omega, by go_num, hn, hb5⟩, by simp [intOf]; omega⟩
        · have hg := hide' (hgr.out rfl)
          have hB5 := hide' (hM.out _ hb5.out).1
          clear hno' hgr
          go_wp2
          go_ret
          exact ⟨by rw [hg.out]; rfl, hB5.out⟩
      · obtain rfl : j = 4 := by omega
        have hg : Hid (graP P = 3) := by
          show _ = _
          unfold graP
          rw [if_pos hCh.out, findR_none hno.out]
          rfl
        clear hno KW
        go_wp2
        go_ret
        exact ⟨by rw [hg.out]; rfl, hBr⟩
  · have hne : ¬ ((chkN P : Nat) : Int) = 0 := by omega
    have hne2 : (((chkN P : Nat) : Int) != 0) = true := by rw [bne_iff_ne]; exact hne
    have h0 : Hid (graP P = -1) := by show _ = _; unfold graP; rw [if_neg hC]
    generalize ((chkN P : Nat) : Int) = cc at *
    clear KW hC
    go_enter Tryz.func18, Tryz.ntmps18
    go_upto_region 1 with fail
    generalize w.alloc (.cells #[.int .i64 P.users, wv, fv, rv] 26) = w1 at *
    go_wp2_with fail
    refine KC.out.mono ?_
    rintro e w2 ⟨rfl, hb2⟩
    have hB2 := hide' (hM.out w2 hb2).1
    clear KC hb2
    go_wp2
    go_ret
    exact ⟨by rw [h0.out]; rfl, hB2.out⟩
end Go.Proofs.YtmbdnhgmpmnhmaaGreatDoor.S

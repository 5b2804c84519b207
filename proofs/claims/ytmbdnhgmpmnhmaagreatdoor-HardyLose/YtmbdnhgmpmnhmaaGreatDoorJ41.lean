/- The document's lost, Needed. -/
import Derived.Test.YtmbdnhgmpmnhmaaGreatDoorJ32
import Derived.Test.YtmbdnhgmpmnhmaaGreatDoorJ39
import Derived.Test.YtmbdnhgmpmnhmaaGreatDoorJ40
namespace Go.Proofs.YtmbdnhgmpmnhmaaGreatDoor.S
open Go.RowKit Go.Shelf
theorem loP_ok {P : Pb} (hk : Pok P) (x : Nat) : Pok (loP P x) := by
  unfold loP
  by_cases h : chkN P = 0
  · rw [if_pos h]; exact lesP_ok hk x
  · rw [if_neg h]; exact ⟨Nat.zero_le _, Nat.zero_le _, Nat.zero_le _, (fun r hr => by cases hr), (fun z hz => by cases hz)⟩
set_option maxRecDepth 100000 in
set_option maxHeartbeats 2000000 in
theorem lostD (P : Pb) (wv fv rv : Value) (x : Nat) (hx : x < 18446744073709551616) (w : World) (h : PbV w P wv fv rv) (hk : Pok P) (hT : M.Tab w) :
    Calls Tryz.prog 34 #[pbV P wv fv rv, .int .u64 (x : Int)] w fun e w' => e = .returned (.bool (!canB (loP P x))) ∧ Below w.heap.size w w' := by
  have hB1 : Hid (Below w.heap.size w (w.alloc (.cells #[.int .i64 P.users, wv, fv, rv] 26))) := (Below.refl _ _).alloc (Nat.le_refl _) _
  have hb1 : Hid (PbB (w.alloc (.cells #[.int .i64 P.users, wv, fv, rv] 26)) w.heap.size P wv fv rv) := heap_new w _
  have p0 := hb1.out.c0
  have p1 := hb1.out.c1
  have p2 := hb1.out.c2
  have p3 := hb1.out.c3
  have KL := hide' (loseD P wv fv rv x hx _ (h.below hB1.out) hk)
  have KC : Hid (∀ V a b c, M.Tab V → PbV V (loP P x) a b c → Calls Tryz.prog 33 #[.agg #[.int .i64 (loP P x).users, a, b, c]] V fun e w' => e = .returned (.bool (canB (loP P x))) ∧ Below V.heap.size V w') := fun V a b c hV hq => canDF (loP P x) a b c V hq (loP_ok hk x) hV
  have hT' := hide' hT
  unfold pbV at KL ⊢
  unfold WtP at KL
  clear h hk hT
  generalize loP P x = X at *
  go_enter Tryz.func34, Tryz.ntmps34
  go_upto_region 1 with fail
  generalize w.alloc (.cells #[.int .i64 P.users, wv, fv, rv] 26) = w1 at *
  go_wp2_with fail
  refine KL.out.mono ?_
  rintro e w2 ⟨o1, n1, c1, o2, n2, c2, o3, n3, c3, rfl, hX2, hb2, _, _⟩
  have hB2 : Hid (Below w.heap.size w w2) := hB1.out.trans (hb2.out.mono hB1.out.size)
  have hq := QAt.block (heap_new w2 (.cells #[.int .i64 X.users, .slice o1 n1 c1, .slice o2 n2 c2, .slice o3 n3 c3] 26))
  have x0 := hq.c0
  have x1 := hq.c1
  have x2 := hq.c2
  have x3 := hq.c3
  have hB3 : Hid (Below w.heap.size w (w2.alloc (.cells #[.int .i64 X.users, .slice o1 n1 c1, .slice o2 n2 c2, .slice o3 n3 c3] 26))) := hB2.out.alloc hB2.out.size _
  have hX3 := hide' (hX2.out.below ((Below.refl _ w2).alloc (Nat.le_refl _) (.cells #[.int .i64 X.users, .slice o1 n1 c1, .slice o2 n2 c2, .slice o3 n3 c3] 26)))
  have KC2 := hide' (KC.out _ _ _ _ (hT'.out.over hB3.out) hX3.out)
  clear KL KC hb2 hX2 hq hX3 hT' p0 p1 p2 p3 hb1
  go_wp2_with fail
  refine KC2.out.mono ?_
  rintro e w4 ⟨rfl, hb4⟩
  have hB4 := hide' (hB3.out.trans (hb4.mono hB3.out.size))
  clear hb4 KC2
  go_wp2
  go_ret
  exact ⟨rfl, hB4.out⟩
set_option maxRecDepth 100000 in
set_option maxHeartbeats 4000000 in
theorem neededD (P : Pb) (wv fv rv : Value) (w : World) (h : PbV w P wv fv rv) (hk : Pok P) (hT : M.Tab w) :
    Calls Tryz.prog 16 #[pbV P wv fv rv] w fun e w' => e = .returned (.int .u64 ((nedP P : Nat) : Int)) ∧ Below w.heap.size w w' := by
  have hB1 : Hid (Below w.heap.size w (w.alloc (.cells #[.int .i64 P.users, wv, fv, rv] 26))) := (Below.refl _ _).alloc (Nat.le_refl _) _
  have hb1 : Hid (PbB (w.alloc (.cells #[.int .i64 P.users, wv, fv, rv] 26)) w.heap.size P wv fv rv) := heap_new w _
  have p0 := hb1.out.c0
  have p1 := hb1.out.c1
  have p2 := hb1.out.c2
  have p3 := hb1.out.c3
  have KK := hide' (rCheckF P wv fv rv _ (h.below hB1.out) hk)
  have KC : Hid (∀ V, Below w.heap.size w V → Calls Tryz.prog 33 #[.agg #[.int .i64 P.users, wv, fv, rv]] V fun e w' => e = .returned (.bool (canB P)) ∧ Below V.heap.size V w') := fun V hV => canDF P wv fv rv V (h.below hV) hk (hT.over hV)
  have KL : Hid (∀ (x : Nat) V, x < 18446744073709551616 → Below w.heap.size w V → Calls Tryz.prog 34 #[.agg #[.int .i64 P.users, wv, fv, rv], .int .u64 (x : Int)] V fun e w' => e = .returned (.bool (!canB (loP P x))) ∧ Below V.heap.size V w') := fun x V hx hV => lostD P wv fv rv x hx V (h.below hV) hk (hT.over hV)
  have hlz := hide' (les_zero hk)
  have hM : Hid (∀ V, Below (w.alloc (.cells #[.int .i64 P.users, wv, fv, rv] 26)).heap.size (w.alloc (.cells #[.int .i64 P.users, wv, fv, rv] 26)) V → Below w.heap.size w V ∧ (V.cell? ⟨w.heap.size, 0, none⟩ = some (.int .i64 P.users) ∧ V.cell? ⟨w.heap.size, 1, none⟩ = some wv ∧ V.cell? ⟨w.heap.size, 2, none⟩ = some fv ∧ V.cell? ⟨w.heap.size, 3, none⟩ = some rv)) := fun V hV => ⟨hB1.out.trans (hV.mono hB1.out.size), (hb1.out.below hV).all⟩
  unfold pbV at KK ⊢
  clear h hk hT hb1
  go_enter Tryz.func16, Tryz.ntmps16
  go_upto_region 1 with fail
  generalize w.alloc (.cells #[.int .i64 P.users, wv, fv, rv] 26) = w1 at *
  by_cases hC : chkN P = 0
  · rw [hC] at KK
    obtain ⟨g12, g0, g64, g32, gF, gW, gR⟩ := chkN_zero hC
    have hlo : Hid (∀ x, loP P x = lesP P x) := fun x => by unfold loP; rw [if_pos hC]
    obtain ⟨U, hU⟩ : ∃ U : Nat, P.users = (U : Int) := Int.eq_ofNat_of_zero_le g0
    have hU64 : U ≤ 64 := by omega
    have hUt : Hid (P.users.toNat = U) := by show _ = _; rw [hU, Int.toNat_natCast]
    have hUh := hide' hU
    have hne : Hid (nedP P = if canB P = true then nedJ P U else 0) := by
      show _ = _
      unfold nedP
      rw [hlz.out, hUt.out]
      by_cases q : canB P = true
      · rw [if_pos ⟨hC, q⟩, if_pos q]
      · rw [if_neg fun r => q r.2, if_neg q]
    clear hC g12 g0 g64 g32 gF gW gR hlz hU
    go_wp2_with fail
    refine KK.out.mono ?_
    rintro e w2 ⟨rfl, hb2⟩
    obtain ⟨hB2, p0, p1, p2, p3⟩ := hM.out w2 hb2
    have KC2 := hide' (KC.out w2 hB2)
    have hb2' := hide' hb2
    clear KK KC hb2 hB2
    cases hcb : canB P with
    | false =>
      rw [hcb] at KC2 hne
      have hn0 : Hid (nedP P = 0) := hne.out
      clear hne KL hcb
      go_wp2_with fail
      refine KC2.out.mono ?_
      rintro e w3 ⟨rfl, hb3⟩
      have hB3 := hide' (hM.out w3 (hb2'.out.trans (hb3.mono hb2'.out.size))).1
      clear KC2 hb3
      go_wp2
      go_ret
      exact ⟨by rw [hn0.out]; rfl, hB3.out⟩
    | true =>
      rw [hcb] at KC2 hne
      have hn1 : Hid (nedP P = nedJ P U) := hne.out
      clear hne hcb
      go_wp2_with fail
      refine KC2.out.mono ?_
      rintro e w3 ⟨rfl, hb3⟩
      have hb3' := hide' (hb2'.out.trans (hb3.mono hb2'.out.size))
      clear KC2 hb3 hb2' p0 p1 p2 p3
      go_wp2
      go_loopw [3, 4] (fun q p wr => ∃ j : Nat, j ≤ U ∧ q = .int .u64 ((nedJ P j : Nat) : Int) ∧ p = .int .i64 (j : Int) ∧ Hid (Below w1.heap.size w1 wr)) (fun _ p _ => ((U : Int) - intOf p).toNat)
      case atStart => exact ⟨0, Nat.zero_le _, rfl, rfl, hb3'⟩
      case round =>
        clear hb3'
        obtain ⟨j, hj, rfl, rfl, hb⟩ := hrel
        obtain ⟨hBr, p0, p1, p2, p3⟩ := hM.out wr hb.out
        rw [hUh.out] at p0
        by_cases hlt : j < U
        · have hlt' : (j : Int) < (U : Int) := by omega
          have hj0 : ¬ (j : Int) < 0 := by omega
          have hj64 : j < 64 := by omega
          have hmn : min j 64 = j := by omega
          have hpl : (2 : Nat) ^ j < 18446744073709551616 := Nat.lt_of_lt_of_le (Nat.pow_lt_pow_right (by decide) hj64) (Nat.le_refl (2 ^ 64))
          have hsh : IntKind.u64.wrap ((2 : Int) ^ j) = ((2 ^ j : Nat) : Int) := by
            rw [IntKind.wrap_u64, show ((2 : Int) ^ j) = ((2 ^ j : Nat) : Int) by push_cast; rfl]
            generalize (2 : Nat) ^ j = q at *
            omega
          have hS : Hid (nedJ P (j + 1) = if canB (lesP P (2 ^ j)) then nedJ P j else nedJ P j ||| 2 ^ j) := rfl
          have hacc := nedJ_lt P (j := j) (by omega)
          have hor := u64_or_nat (nedJ P j) (2 ^ j) hacc hpl
          have KLj : Hid (∀ V, Below w1.heap.size w1 V → Calls Tryz.prog 34 #[.agg #[.int .i64 (U : Int), wv, fv, rv], .int .u64 ((2 ^ j : Nat) : Int)] V fun e w' => e = .returned (.bool (!canB (lesP P (2 ^ j)))) ∧ Below V.heap.size V w') := fun V hV => by
            have := KL.out (2 ^ j) V hpl (hM.out V hV).1
            rw [hlo.out, hUh.out] at this
            exact this
          have hMM : Hid (∀ V, Below w1.heap.size w1 V → V.cell? ⟨w.heap.size, 0, none⟩ = some (.int .i64 (U : Int)) ∧ V.cell? ⟨w.heap.size, 1, none⟩ = some wv ∧ V.cell? ⟨w.heap.size, 2, none⟩ = some fv ∧ V.cell? ⟨w.heap.size, 3, none⟩ = some rv) := fun V hV => by
            have := (hM.out V hV).2
            rw [hUh.out] at this
            exact this
          generalize canB (lesP P (2 ^ j)) = cb at *
          generalize nedJ P j ||| 2 ^ j = a2 at *
          generalize nedJ P j = a1 at *
          generalize (2 : Nat) ^ j = pj at *
          clear hpl hacc KL hlo hBr hj64
          have hbd : Hid (Below w1.heap.size w1 wr.drew) := hb.out.drew
          go_upto_region 7 with fail
          go_region_held3 (fun V => V.cell? ⟨w.heap.size, 0, none⟩ = some (.int .i64 (U : Int)) ∧ V.cell? ⟨w.heap.size, 1, none⟩ = some wv ∧ V.cell? ⟨w.heap.size, 2, none⟩ = some fv ∧ V.cell? ⟨w.heap.size, 3, none⟩ = some rv) (first | (exact hMM.out _ hbd.out) | (exact hMM.out _ (hbd.out.trans (hb4.mono hbd.out.size)))) (first | (go_at_call 34; refine (KLj.out _ hbd.out).mono ?_; rintro e w4 ⟨rfl, hb4⟩))
          all_goals
            have hb5 := hide' (hbd.out.trans (hb4.mono hbd.out.size))
            clear hb hb4 hbd KLj p0 p1 p2 p3
            cases cb
            · have hS' : Hid (nedJ P (j + 1) = a2) := hS.out
              clear hS
              go_wp2
              exact ⟨⟨j + 1, by omega, by rw [hS'.out], by go_num, hb5⟩, by simp [intOf]; omega⟩
            · have hS' : Hid (nedJ P (j + 1) = a1) := hS.out
              clear hS
              go_wp2
              exact ⟨⟨j + 1, by omega, by rw [hS'.out], by go_num, hb5⟩, by simp [intOf]; omega⟩
        · obtain rfl : j = U := by omega
          clear KL hlo
          go_wp2
          go_ret
          exact ⟨by rw [hn1.out]; rfl, hBr⟩
  · have h0 : Hid (nedP P = 0) := by show _ = _; unfold nedP; rw [if_neg fun q => hC q.1]
    have hne : ¬ ((chkN P : Nat) : Int) = 0 := by omega
    have hne2 : (((chkN P : Nat) : Int) != 0) = true := by rw [bne_iff_ne]; exact hne
    generalize ((chkN P : Nat) : Int) = cc at *
    clear hC KL KC hlz
    go_wp2_with fail
    refine KK.out.mono ?_
    rintro e w2 ⟨rfl, hb2⟩
    have hB2 := hide' (hM.out w2 hb2).1
    clear KK hb2
    go_wp2
    go_ret
    exact ⟨by rw [h0.out]; rfl, hB2.out⟩
end Go.Proofs.YtmbdnhgmpmnhmaaGreatDoor.S

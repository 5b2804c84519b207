/- OrderExact answers true. -/
import Derived.Test.YteiedppecijhfaaDoorOBoth
import Derived.Test.YteiedppecijhfaaDoorOExactM
namespace Go.Proofs.YteiedppecijhfaaDoor
open Go.RowKit Go.Shelf
theorem keep5 {W0 W w1 : World} {b0 i0 b1 i1 b2 i2 b3 i3 : Nat} {u0 u1 u2 u3 : Value} (h : W.cell? ⟨b0, i0, none⟩ = some u0 ∧ W.cell? ⟨b1, i1, none⟩ = some u1 ∧ W.cell? ⟨b2, i2, none⟩ = some u2 ∧ W.cell? ⟨b3, i3, none⟩ = some u3 ∧ Below W0.heap.size W0 W) (hb : Below W.heap.size W w1) :
    w1.cell? ⟨b0, i0, none⟩ = some u0 ∧ w1.cell? ⟨b1, i1, none⟩ = some u1 ∧ w1.cell? ⟨b2, i2, none⟩ = some u2 ∧ w1.cell? ⟨b3, i3, none⟩ = some u3 ∧ Below W0.heap.size W0 w1 :=
  ⟨cell_over h.1 hb, cell_over h.2.1 hb, cell_over h.2.2.1 hb, cell_over h.2.2.2.1 hb, h.2.2.2.2.trans (hb.mono h.2.2.2.2.size)⟩
theorem same_below {P : Program} {f : FuncId} {args : Array Value} {W : World} {v : Value} (h : Calls P f args W fun e w' => e = .returned v ∧ w' = W) : Calls P f args W fun e w' => e = .returned v ∧ Below W.heap.size W w' :=
  h.mono fun _ _ ⟨h1, h2⟩ => ⟨h1, h2 ▸ Below.refl _ _⟩
set_option maxRecDepth 100000 in
set_option maxHeartbeats 1000000 in
theorem orderExact_walk (n : Int) (v : Value) (L : List (Int × Int)) (A B : Int) (s : Nat) (ob : Option Addr) (lb cb : Nat) (mo : Int) (w : World) (hv : PairsAt w v L) (hn : L.length * 16 ≤ 140737488351232) (ht : Tab w) (hs : s < 18446744073709551616) :
    Calls Tryd.prog 3 #[.agg #[.int .i64 n, v, .int .i64 A, .int .i64 B, .int .u64 s, .slice ob lb cb, .int .u64 mo]] w fun e w' => e = .returned (.bool true) ∧ Below w.heap.size w w' := by
  obtain ⟨oa, cap, hve, _⟩ := id hv
  subst hve
  have hB0 : Below w.heap.size w (w.alloc (.cells #[.int .i64 n, .slice oa L.length cap, .int .i64 A, .int .i64 B, .int .u64 s, .slice ob lb cb, .int .u64 mo] 26)) := (Below.refl _ w).alloc (Nat.le_refl _) _
  have c2 : (w.alloc (.cells #[.int .i64 n, .slice oa L.length cap, .int .i64 A, .int .i64 B, .int .u64 s, .slice ob lb cb, .int .u64 mo] 26)).cell? ⟨w.heap.size, 2, none⟩ = some (.int .i64 A) := by simp
  have c3 : (w.alloc (.cells #[.int .i64 n, .slice oa L.length cap, .int .i64 A, .int .i64 B, .int .u64 s, .slice ob lb cb, .int .u64 mo] 26)).cell? ⟨w.heap.size, 3, none⟩ = some (.int .i64 B) := by simp
  have c4 : (w.alloc (.cells #[.int .i64 n, .slice oa L.length cap, .int .i64 A, .int .i64 B, .int .u64 s, .slice ob lb cb, .int .u64 mo] 26)).cell? ⟨w.heap.size, 4, none⟩ = some (.int .u64 s) := by simp
  have KB := hide' (bothP n _ L A B s ob lb cb mo _ (hv.over hB0) hn (ht.over hB0))
  go_enter Tryd.func3, Tryd.ntmps3
  go_wp2_with fail
  refine KB.out.mono ?_
  rintro e w1 ⟨hb1, po, pr, rfl, hor⟩
  have B1 := hB0.trans (hb1.mono hB0.size)
  have d2 := cell_over c2 hb1
  have d3 := cell_over c3 hb1
  have d4 := cell_over c4 hb1
  clear c2 c3 c4 KB
  rcases hor with ⟨rfl, rfl⟩ | ⟨m, go, gp, gs, Pf, Sf, gr, ov, rr, w0, rfl, hok, rfl, rfl, ho, hO, hM⟩
  · go_wp2
    go_ret
    exact ⟨rfl, B1⟩
  · have hm := hO.n64
    have cN := hM.c0
    have hin := hO.inn
    have hPl : ∀ a, a < m → Pf a < 18446744073709551616 := fun a ha => hO.pre_lt ha
    have KL : Hid (∀ W, Below w1.heap.size w1 W → Calls Tryd.prog 8 #[.pointer (some ⟨go, 0, none⟩)] W fun e w' => e = .returned (.int .i64 m) ∧ Below W.heap.size W w') := fun W hW => same_below (lenO (ho.over hW))
    have K1 : Hid (∀ W, Below w1.heap.size w1 W → Calls Tryd.prog 9 #[.pointer (some ⟨go, 0, none⟩), .int .i64 A, .int .i64 B] W fun e w' => e = .returned (.bool (befI (ordL m L) A B)) ∧ Below W.heap.size W w') := fun W hW => by
      have := beforeO (ho.over hW) A B _ rfl (hO.suc_lt' A)
      rwa [hO.bef A B] at this
    have K2 : Hid (∀ W, Below w1.heap.size w1 W → Calls Tryd.prog 10 #[.pointer (some ⟨gr, 0, none⟩), .int .i64 A, .int .i64 B] W fun e w' => e = .returned (.bool (befI (ordL m L) A B)) ∧ Below W.heap.size W w') := fun W hW => same_below (refBefore (hM.over hW) hin A B)
    have K3 : Hid (∀ (a : Int) W, Below w1.heap.size w1 W → Calls Tryd.prog 11 #[.pointer (some ⟨go, 0, none⟩), .int .i64 a] W fun e w' => e = .returned (.int .u64 (preI m Pf a : Int)) ∧ Below W.heap.size W w') := fun a W hW => predsO (ho.over hW) a
    have K4 : Hid (∀ (a : Int) W, Below w1.heap.size w1 W → Calls Tryd.prog 12 #[.pointer (some ⟨gr, 0, none⟩), .int .i64 a] W fun e w' => e = .returned (.int .u64 (preI m Pf a : Int)) ∧ Below W.heap.size W w') := fun a W hW => by
      have := same_below (refPreds (hM.over hW) hm hin a)
      rwa [hO.accP a] at this
    have K5 : Hid (∀ (a : Int) W, Below w1.heap.size w1 W → Calls Tryd.prog 13 #[.pointer (some ⟨go, 0, none⟩), .int .i64 a] W fun e w' => e = .returned (.int .u64 (sucI m Sf a : Int)) ∧ Below W.heap.size W w') := fun a W hW => succsO (ho.over hW) a
    have K6 : Hid (∀ (a : Int) W, Below w1.heap.size w1 W → Calls Tryd.prog 14 #[.pointer (some ⟨gr, 0, none⟩), .int .i64 a] W fun e w' => e = .returned (.int .u64 (sucI m Sf a : Int)) ∧ Below W.heap.size W w') := fun a W hW => by
      have := same_below (refSuccs (hM.over hW) hm hin a)
      rwa [hO.accS a] at this
    have K7 : Hid (∀ W, Below w1.heap.size w1 W → Calls Tryd.prog 15 #[.pointer (some ⟨go, 0, none⟩), .int .u64 s] W fun e w' => e = .returned (.int .u64 (rdW m Pf s : Int)) ∧ Below W.heap.size W w') := fun W hW => readyO (ho.over hW) hm hPl s hs (ht.over (B1.trans (hW.mono B1.size)))
    have K8 : Hid (∀ W, Below w1.heap.size w1 W → Calls Tryd.prog 16 #[.pointer (some ⟨gr, 0, none⟩), .int .u64 s] W fun e w' => e = .returned (.int .u64 (rdW m Pf s : Int)) ∧ Below W.heap.size W w') := fun W hW => by
      have := same_below (refReady (hM.over hW) hm hin (fun a ha => hO.accPn ha) s hs)
      rwa [hO.accR hs] at this
    have K9 : Hid (∀ W, Below w1.heap.size w1 W → Calls Tryd.prog 17 #[.pointer (some ⟨go, 0, none⟩), .int .u64 s] W fun e w' => e = .returned (.bool (dnB m Pf s)) ∧ Below W.heap.size W w') := fun W hW => downO (ho.over hW) hm hPl s hs (ht.over (B1.trans (hW.mono B1.size)))
    have KA : Hid (∀ W, Below w1.heap.size w1 W → Calls Tryd.prog 18 #[.pointer (some ⟨gr, 0, none⟩), .int .u64 s] W fun e w' => e = .returned (.bool (dnB m Pf s)) ∧ Below W.heap.size W w') := fun W hW => by
      have := same_below (refDown (hM.over hW) hm hin (fun a ha => hO.accPn ha) s hs)
      rwa [hO.accD hs] at this
    have KC : Hid (∀ W, Below w1.heap.size w1 W → Calls Tryd.prog 20 #[.pointer (some ⟨go, 0, none⟩)] W fun e w' => ∃ v, e = .returned v ∧ PairsAt w' v (cvK (ordL m L) m m) ∧ Below W.heap.size W w') := fun W hW =>
      (coversO (ho.over hW) hm hPl (fun a ha => hO.suc_lt ha) (fun a ha => hO.nums_in ha) (ht.over (B1.trans (hW.mono B1.size)))).mono fun e w' ⟨v, h1, h2, h3⟩ => ⟨v, h1, by rw [hO.cov_all] at h2; exact PairsAt.of_owns h2, h3⟩
    have KD : Hid (∀ W, Below w1.heap.size w1 W → Calls Tryd.prog 21 #[.pointer (some ⟨gr, 0, none⟩)] W fun e w' => ∃ v, e = .returned v ∧ PairsAt w' v (cvK (ordL m L) m m) ∧ Below W.heap.size W w') := fun W hW =>
      (refCovers (hM.over hW) hm).mono fun e w' ⟨v, h1, h2, h3⟩ => ⟨v, h1, PairsAt.of_owns h2, h3⟩
    have hcl : (cvK (ordL m L) m m).length ≤ 1000000 := by
      have := cvK_len (ordL m L) m m
      have : m * m ≤ 64 * 64 := Nat.mul_le_mul hm hm
      omega
    have KE : Hid (∀ W va vb, PairsAt W va (cvK (ordL m L) m m) → PairsAt W vb (cvK (ordL m L) m m) → Calls Tryd.prog 19 #[va, vb] W fun e w' => e = .returned (.bool true) ∧ Below W.heap.size W w') := fun W va vb h1 h2 => keepPairsT _ va vb W h1 h2 hcl
    clear ho hO hM hin hPl hok hcl hv
    generalize befI (ordL m L) A B = tb at *
    generalize rdW m Pf s = r at *
    generalize dnB m Pf s = td at *
    generalize cvK (ordL m L) m m = C at *
    generalize preI m Pf = pf at *
    generalize sucI m Sf = sf at *
    go_wp2_with fail
    simp only [List.append_eq, List.cons_append, List.nil_append]
    have hi0 : Hid (w1.drew.cell? ⟨w.heap.size, 2, none⟩ = some (.int .i64 A) ∧ w1.drew.cell? ⟨w.heap.size, 3, none⟩ = some (.int .i64 B) ∧ w1.drew.cell? ⟨w.heap.size, 4, none⟩ = some (.int .u64 s) ∧ w1.drew.cell? ⟨gr, 0, none⟩ = some (.int .i64 m) ∧ Below w1.heap.size w1 w1.drew) := ⟨d2, d3, d4, cN, (Below.refl _ _).drew⟩
    go_region_held3 (fun V => V.cell? ⟨w.heap.size, 2, none⟩ = some (.int .i64 A) ∧ V.cell? ⟨w.heap.size, 3, none⟩ = some (.int .i64 B) ∧ V.cell? ⟨w.heap.size, 4, none⟩ = some (.int .u64 s) ∧ V.cell? ⟨gr, 0, none⟩ = some (.int .i64 m) ∧ Below w1.heap.size w1 V) (first | (exact keep5 (by assumption) hb) | (exact keep5 hi0.out hb) | (exact hi0.out)) (first | (go_at_call 8; refine (KL.out _ (by first | exact ‹_ ∧ _ ∧ _ ∧ _ ∧ _›.2.2.2.2 | exact (Below.refl _ _).drew)).mono ?_; rintro e w2 ⟨rfl, hb⟩) | (go_at_call 9; refine (K1.out _ ‹_ ∧ _ ∧ _ ∧ _ ∧ _›.2.2.2.2).mono ?_; rintro e w2 ⟨rfl, hb⟩) | (go_at_call 10; refine (K2.out _ ‹_ ∧ _ ∧ _ ∧ _ ∧ _›.2.2.2.2).mono ?_; rintro e w2 ⟨rfl, hb⟩) | (go_at_call 11; refine (K3.out A _ ‹_ ∧ _ ∧ _ ∧ _ ∧ _›.2.2.2.2).mono ?_; rintro e w2 ⟨rfl, hb⟩) | (go_at_call 12; refine (K4.out A _ ‹_ ∧ _ ∧ _ ∧ _ ∧ _›.2.2.2.2).mono ?_; rintro e w2 ⟨rfl, hb⟩) | (go_at_call 13; refine (K5.out B _ ‹_ ∧ _ ∧ _ ∧ _ ∧ _›.2.2.2.2).mono ?_; rintro e w2 ⟨rfl, hb⟩) | (go_at_call 14; refine (K6.out B _ ‹_ ∧ _ ∧ _ ∧ _ ∧ _›.2.2.2.2).mono ?_; rintro e w2 ⟨rfl, hb⟩) | (go_at_call 15; refine (K7.out _ ‹_ ∧ _ ∧ _ ∧ _ ∧ _›.2.2.2.2).mono ?_; rintro e w2 ⟨rfl, hb⟩) | (go_at_call 16; refine (K8.out _ ‹_ ∧ _ ∧ _ ∧ _ ∧ _›.2.2.2.2).mono ?_; rintro e w2 ⟨rfl, hb⟩) | (go_at_call 17; refine (K9.out _ ‹_ ∧ _ ∧ _ ∧ _ ∧ _›.2.2.2.2).mono ?_; rintro e w2 ⟨rfl, hb⟩) | (go_at_call 18; refine (KA.out _ ‹_ ∧ _ ∧ _ ∧ _ ∧ _›.2.2.2.2).mono ?_; rintro e w2 ⟨rfl, hb⟩))
    obtain ⟨_, _, _, _, hB2⟩ := ‹_ ∧ _ ∧ _ ∧ _ ∧ Below w1.heap.size w1 w2›
    clear KL K1 K2 K7 K8 K9 KA hi0 d2 d3 d4
    go_wp2
    go_loopw [6] (fun pa W => ∃ a : Nat, a ≤ m ∧ pa = .int .i64 a ∧ Below w1.heap.size w1 W) (fun pa _ => ((m : Int) - intOf pa).toNat)
    case atStart => exact ⟨0, Nat.zero_le _, rfl, hB2⟩
    case round =>
      clear hB2
      obtain ⟨a, ha, rfl, hBW⟩ := hrel
      have cN' := cell_over cN hBW
      by_cases hlt : a < m
      · go_wp2_with fail
        refine (K3.out _ _ hBW).mono ?_
        rintro e w3 ⟨rfl, hb3⟩
        have hB3 := hBW.trans (hb3.mono hBW.size)
        go_wp2_with fail
        refine (K4.out _ _ hB3).mono ?_
        rintro e w4 ⟨rfl, hb4⟩
        have hB4 := hB3.trans (hb4.mono hB3.size)
        go_wp2_with fail
        refine (K5.out _ _ hB4).mono ?_
        rintro e w5 ⟨rfl, hb5⟩
        have hB5 := hB4.trans (hb5.mono hB4.size)
        go_wp2_with fail
        refine (K6.out _ _ hB5).mono ?_
        rintro e w6 ⟨rfl, hb6⟩
        have hB6 := hB5.trans (hb6.mono hB5.size)
        go_wp2
        exact ⟨⟨a + 1, by omega, by go_num, hB6⟩, by simp [intOf]; omega⟩
      · obtain rfl : a = m := by omega
        go_wp2_with fail
        refine (KC.out _ hBW).mono ?_
        rintro e w3 ⟨va, rfl, hva, hb3⟩
        have hB3 := hBW.trans (hb3.mono hBW.size)
        go_wp2_with fail
        refine (KD.out _ hB3).mono ?_
        rintro e w4 ⟨vb, rfl, hvb, hb4⟩
        have hB4 := hB3.trans (hb4.mono hB3.size)
        go_wp2_with fail
        refine (KE.out _ _ _ (hva.over hb4) hvb).mono ?_
        rintro e w5 ⟨rfl, hb5⟩
        have hB5 := hB4.trans (hb5.mono hB4.size)
        go_wp2
        go_ret
        exact ⟨rfl, B1.trans (hB5.mono B1.size)⟩
end Go.Proofs.YteiedppecijhfaaDoor

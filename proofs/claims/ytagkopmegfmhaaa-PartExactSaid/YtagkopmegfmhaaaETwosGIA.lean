/- twos: Finer, Meet, Join, Merge of two rows. -/
import Derived.Test.YtagkopmegfmhaaaESteps
import Derived.Test.YtagkopmegfmhaaaEJoin
import Derived.Deep.RegionHeld3
namespace Go.Proofs.Ytagkopmegfmhaaa
open Go.RowKit
set_option maxRecDepth 100000 in
set_option maxHeartbeats 4000000 in
theorem twosGIA (XA XB LA LB : List Int) (n : Nat) (vA vB : Value) (xN xI xJ xR : Int) (w : World) (rA : RowI w vA XA) (rB : RowI w vB XB) (hXA : XA.take 99 = LA) (hXB : XB.take 99 = LB) (hla : LA.length = n) (hlb : LB.length = n) (m : List Nat) (hLA : LA = ints m) (hm : Leg 0 m) (hm25 : n ≤ 25) (m2 : List Nat) (hLB : LB = ints m2) (hm2 : Leg 0 m2) (i j : Nat) (hxI : xI = (i : Int)) (hxJ : xJ = (j : Int)) (hi : i < n) (hj : j < n) :
    Calls Try.prog 10 #[.agg #[vA, vB, .int .i64 xN, .int .i64 xI, .int .i64 xJ, .int .u64 xR]] w fun e w' => e = .returned (.bool true) ∧ Below w.heap.size w w' := by
  have hl99 : n ≤ 99 := by rw [← hla, ← hXA, List.length_take]; omega
  have hl99b : n ≤ 99 := by rw [← hlb, ← hXB, List.length_take]; omega
  have hml : m.length = n := by rw [← hla, hLA, ints_len]
  have hm2l : m2.length = n := by rw [← hlb, hLB, ints_len]
  have hAb : Hid (Below w.heap.size w (w.alloc (.cells #[vA, vB, .int .i64 xN, .int .i64 xI, .int .i64 xJ, .int .u64 xR] 25))) := (Below.refl _ w).alloc (Nat.le_refl _) _
  have hS : Hid (∀ V, Below (w.alloc (.cells #[vA, vB, .int .i64 xN, .int .i64 xI, .int .i64 xJ, .int .u64 xR] 25)).heap.size (w.alloc (.cells #[vA, vB, .int .i64 xN, .int .i64 xI, .int .i64 xJ, .int .u64 xR] 25)) V → V.cell? ⟨w.heap.size, 0, none⟩ = some vA ∧ V.cell? ⟨w.heap.size, 1, none⟩ = some vB ∧ V.cell? ⟨w.heap.size, 3, none⟩ = some (.int .i64 xI) ∧ V.cell? ⟨w.heap.size, 4, none⟩ = some (.int .i64 xJ)) := fun V hV => by
    have h1 : V.heap[w.heap.size]? = some (.cells #[vA, vB, .int .i64 xN, .int .i64 xI, .int .i64 xJ, .int .u64 xR] 25) := (hV.block _ (by simp)).trans (heap_new w _)
    refine ⟨?_, ?_, ?_, ?_⟩ <;> simp [World.cell?, h1]
  have hC0 : Hid (Ch [w.alloc (.cells #[vA, vB, .int .i64 xN, .int .i64 xI, .int .i64 xJ, .int .u64 xR] 25)] (w.alloc (.cells #[vA, vB, .int .i64 xN, .int .i64 xI, .int .i64 xJ, .int .u64 xR] 25))) := (Ch.mk (fun u hu => by cases hu) : Ch [] _).cons
  have K1 : Hid (Calls Try.prog 4 #[vA, .int .i64 99] (w.alloc (.cells #[vA, vB, .int .i64 xN, .int .i64 xI, .int .i64 xJ, .int .u64 xR] 25)) fun e w' => ∃ o c, e = .returned (.slice o n c) ∧ Hid (RowI w' (.slice o n c) LA) ∧ Below (w.alloc (.cells #[vA, vB, .int .i64 xN, .int .i64 xI, .int .i64 xJ, .int .u64 xR] 25)).heap.size (w.alloc (.cells #[vA, vB, .int .i64 xN, .int .i64 xI, .int .i64 xJ, .int .u64 xR] 25)) w') := by
    refine (few XA vA 99 _ (rA.below hAb.out (Nat.le_refl _)) (by decide)).mono ?_
    rintro e w' ⟨v', rfl, h1, h2⟩
    rw [hXA] at h1
    obtain ⟨o, c, rfl⟩ := h1.shapeQ
    rw [hla] at h1 ⊢
    exact ⟨o, c, rfl, h1, h2⟩
  have K2 : Hid (∀ V, Below (w.alloc (.cells #[vA, vB, .int .i64 xN, .int .i64 xI, .int .i64 xJ, .int .u64 xR] 25)).heap.size (w.alloc (.cells #[vA, vB, .int .i64 xN, .int .i64 xI, .int .i64 xJ, .int .u64 xR] 25)) V → Calls Try.prog 4 #[vB, .int .i64 99] V fun e w' => ∃ o c, e = .returned (.slice o n c) ∧ Hid (RowI w' (.slice o n c) LB) ∧ Below V.heap.size V w') := fun V hV => by
    refine (few XB vB 99 V ((rB.below hAb.out (Nat.le_refl _)).below hV (Nat.le_refl _)) (by decide)).mono ?_
    rintro e w' ⟨v', rfl, h1, h2⟩
    rw [hXB] at h1
    obtain ⟨o, c, rfl⟩ := h1.shapeQ
    rw [hlb] at h1 ⊢
    exact ⟨o, c, rfl, h1, h2⟩
  have KFa : Hid (∀ o c V, RowI V (.slice o n c) LA → Calls Try.prog 4 #[.slice o n c, .int .i64 99] V fun e w' => ∃ o c, e = .returned (.slice o n c) ∧ Hid (RowI w' (.slice o n c) LA) ∧ Below V.heap.size V w') := fun o c V h => by
    have := fewS LA (by omega) _ V h
    rw [hla] at this
    exact this
  have KFb : Hid (∀ o c V, RowI V (.slice o n c) LB → Calls Try.prog 4 #[.slice o n c, .int .i64 99] V fun e w' => ∃ o c, e = .returned (.slice o n c) ∧ Hid (RowI w' (.slice o n c) LB) ∧ Below V.heap.size V w') := fun o c V h => by
    have := fewS LB (by omega) _ V h
    rw [hlb] at this
    exact this
  have ha' : ∀ {V v}, RowI V v LA → RowI V v (ints m) := fun h => by rw [← hLA]; exact h
  have hb' : ∀ {V v}, RowI V v LB → RowI V v (ints m2) := fun h => by rw [← hLB]; exact h
  have KM : Hid (∀ o c o2 c2 V, RowI V (.slice o n c) LA → RowI V (.slice o2 n c2) LB → Calls Try.prog 31 #[.slice o n c, .slice o2 n c2] V fun e w' => ∃ g, e = .returned (.tuple #[.slice (some ⟨g, 0, none⟩) n n, .int .i64 0]) ∧ Hid (RowI w' (.slice (some ⟨g, 0, none⟩) n n) (ints (pat (pairs m m2)))) ∧ Below V.heap.size V w') := fun o c o2 c2 V h1 h2 => by
    refine (meetP n m m2 _ _ V (ha' h1) (hb' h2) hml hm2l hm25 hm hm2).mono ?_
    rintro e w' ⟨g, rfl, h3, h4⟩
    exact ⟨g, rfl, RowI.of_own h3, h4⟩
  have KJ : Hid (∀ o c o2 c2 V, RowI V (.slice o n c) LA → RowI V (.slice o2 n c2) LB → Calls Try.prog 32 #[.slice o n c, .slice o2 n c2] V fun e w' => ∃ g, e = .returned (.tuple #[.slice (some ⟨g, 0, none⟩) n n, .int .i64 0]) ∧ Hid (RowI w' (.slice (some ⟨g, 0, none⟩) n n) (ints (joinR m m2))) ∧ Below V.heap.size V w') := fun o c o2 c2 V h1 h2 => by
    refine (joinQ n m m2 _ _ V (ha' h1) (hb' h2) hml hm2l hm25 hm hm2).mono ?_
    rintro e w' ⟨g, rfl, h3, h4⟩
    exact ⟨g, rfl, RowI.of_own h3, h4⟩
  obtain ⟨q, hq⟩ : ∃ q : Bool, q = true ↔ Finr m m2 := by
    by_cases h : Finr m m2
    · exact ⟨true, fun _ => h, fun _ => rfl⟩
    · exact ⟨false, fun e => (by cases e), fun e => absurd e h⟩
  have KFi : Hid (∀ o c o2 c2 V, RowI V (.slice o n c) LA → RowI V (.slice o2 n c2) LB → Calls Try.prog 34 #[.slice o n c, .slice o2 n c2] V fun e w' => e = .returned (.bool q) ∧ Below V.heap.size V w') := fun o c o2 c2 V h1 h2 => finerP n m m2 _ _ V (ha' h1) (hb' h2) hml hm2l hm25 hm hm2 q hq
  have RFi : Hid (∀ o c o2 c2 V, RowI V (.slice o n c) LA → RowI V (.slice o2 n c2) LB → Calls Try.prog 35 #[.slice o n c, .slice o2 n c2] V fun e w' => e = .returned (.bool q) ∧ Below V.heap.size V w') := fun o c o2 c2 V h1 h2 => refFiner n m m2 _ _ V (ha' h1) (hb' h2) hml hm2l hm25 hm hm2 q hq
  have RAl : Hid (∀ o c o2 c2 V, RowI V (.slice o n c) LA → RowI V (.slice o2 n c2) LB → Calls Try.prog 37 #[.slice o n c, .slice o2 n c2] V fun e w' => e = .returned (.bool true) ∧ w' = V) := fun o c o2 c2 V h1 h2 => by
    have := refAlike LA LB _ _ V h1 h2 (by rw [hla]; omega) (by rw [hlb]; omega)
    rwa [show Ak LA LB = true by unfold Ak; rw [hLA, hLB, Lg.ints hm (by omega), Lg.ints hm2 (by omega), ints_len, ints_len, decide_eq_true (by omega)]; rfl] at this
  have RM : Hid (∀ o c o2 c2 V, RowI V (.slice o n c) LA → RowI V (.slice o2 n c2) LB → Calls Try.prog 38 #[.slice o n c, .slice o2 n c2] V fun e w' => ∃ g, e = .returned (.slice (some ⟨g, 0, none⟩) n n) ∧ Hid (RowI w' (.slice (some ⟨g, 0, none⟩) n n) (ints (pat (pairs m m2)))) ∧ Below V.heap.size V w') := fun o c o2 c2 V h1 h2 => refMeet n m m2 _ _ V (ha' h1) (hb' h2) hml hm2l hm25 hm hm2
  have RJ : Hid (∀ o c o2 c2 V, RowI V (.slice o n c) LA → RowI V (.slice o2 n c2) LB → Calls Try.prog 39 #[.slice o n c, .slice o2 n c2] V fun e w' => ∃ g, e = .returned (.slice (some ⟨g, 0, none⟩) n n) ∧ Hid (RowI w' (.slice (some ⟨g, 0, none⟩) n n) (ints (joinR m m2))) ∧ Below V.heap.size V w') := fun o c o2 c2 V h1 h2 => refJoin n m m2 _ _ V (ha' h1) (hb' h2) hml hm2l hm25
  have hlM : Hid ((ints (pat (pairs m m2))).length ≤ 1000 ∧ (ints (joinR m m2)).length ≤ 1000) := by
    show _ ∧ _
    rw [ints_len, ints_len, pat_len, pairs_len (by omega), joinR_len]
    omega
  have hqq : (q != q) = false := by simp
  have KG : Hid (∀ o c V, RowI V (.slice o n c) LA → Calls Try.prog 33 #[.slice o n c, .int .i64 xI, .int .i64 xJ] V fun e w' => ∃ g, e = .returned (.tuple #[.slice (some ⟨g, 0, none⟩) n n, .int .i64 0]) ∧ Hid (RowI w' (.slice (some ⟨g, 0, none⟩) n n) (ints (mrg m i j))) ∧ Below V.heap.size V w') := fun o c V h1 => by
    rw [hxI, hxJ]
    exact mergeP n m o c i j V (by rw [← hLA]; exact h1) hml hm25 hm hi hj
  have RG : Hid (∀ o c V, RowI V (.slice o n c) LA → Calls Try.prog 36 #[.slice o n c, .int .i64 xI, .int .i64 xJ] V fun e w' => ∃ g, e = .returned (.slice (some ⟨g, 0, none⟩) n n) ∧ Hid (RowI w' (.slice (some ⟨g, 0, none⟩) n n) (ints (mrg m i j))) ∧ Below V.heap.size V w') := fun o c V h1 => by
    rw [hxI, hxJ]
    exact refMerge n m _ i j V (by rw [← hLA]; exact h1) hml hm25 hi hj
  have hlG : Hid ((ints (mrg m i j)).length ≤ 1000) := by show _ ≤ _; rw [ints_len, mrg_len]; omega
  have RL : Hid (∀ o c V, RowI V (.slice o n c) LA → Calls Try.prog 24 #[.slice o n c] V fun e w' => e = .returned (.bool true) ∧ w' = V) := fun o c V h1 => by
    have := refLegal LA _ V h1 (by rw [hla]; omega)
    rwa [hLA, Lg.ints hm (by omega)] at this
  have ha0 : ¬ xI < 0 := by omega
  have ha0d : decide (xI < 0) = false := decide_eq_false ha0
  have ha1 : ¬ (n : Int) ≤ xI := by omega
  have ha1d : decide ((n : Int) ≤ xI) = false := decide_eq_false ha1
  have hb0 : ¬ xJ < 0 := by omega
  have hb0d : decide (xJ < 0) = false := decide_eq_false hb0
  have hb1 : ¬ (n : Int) ≤ xJ := by omega
  have hb1d : decide ((n : Int) ≤ xJ) = false := decide_eq_false hb1
  clear hLA hm hml hxI hxJ hi hj
  clear hLB hm2 hm2l ha' hb' hq
  generalize pat (pairs m m2) = PM at *
  generalize joinR m m2 = PJ at *
  generalize mrg m i j = PG at *
  clear rA rB hXA hXB hla hlb
  go_enter Try.func10, Try.ntmps10
  go_wp2_with fail
  refine (K1.out).mono ?_
  rintro e w1 ⟨oa, ca, rfl, hA, hb1⟩
  have hC1 := hide' (hC0.out.step hb1).cons
  clear hb1
  obtain ⟨sA, sB, sI, sJ⟩ := hS.out _ (hC1.out.all _ (by simp))
  go_wp2_with fail
  refine (K2.out _ (hC1.out.all _ (by simp))).mono ?_
  rintro e w2 ⟨ob, cb, rfl, hB, hb2⟩
  have hC2 := hide' (hC1.out.step hb2).cons
  clear hb2 hC1
  clear K1 K2 sA sB sI sJ
  have hA1 := hide' (hA.out.below (hC2.out.all _ (by simp)) (Nat.le_refl _))
  have hAV : Hid (∀ V, Below w2.heap.size w2 V → RowI V (.slice oa n ca) LA) := fun V hV => hA1.out.below hV (Nat.le_refl _)
  have hBV : Hid (∀ V, Below w2.heap.size w2 V → RowI V (.slice ob n cb) LB) := fun V hV => hB.out.below hV (Nat.le_refl _)
  clear hA hB hA1
  go_wp2_with fail
  refine (KFa.out _ _ _ (hAV.out _ (hC2.out.all _ (by simp)))).mono ?_
  rintro e w3 ⟨o3, c3, rfl, hR3, hb3⟩
  have hC3 := hide' (hC2.out.step hb3).cons
  clear hb3 hC2
  go_wp2_with fail
  refine (KFb.out _ _ _ (hBV.out _ (hC3.out.all _ (by simp)))).mono ?_
  rintro e w4 ⟨o4, c4, rfl, hR4, hb4⟩
  have hC4 := hide' (hC3.out.step hb4)
  clear hb4 hC3
  go_wp2_with fail
  refine (KM.out _ _ _ _ _ (hR3.out.below (hC4.out.all _ (by simp)) (Nat.le_refl _)) hR4.out).mono ?_
  rintro e w5 ⟨gM, rfl, hM, hb5⟩
  have hC5 := hide' (hC4.out.step hb5).cons
  clear hb5 hC4
  go_wp2_with fail
  refine (KFa.out _ _ _ (hAV.out _ (hC5.out.all _ (by simp)))).mono ?_
  rintro e w6 ⟨o6, c6, rfl, hR6, hb6⟩
  have hC6 := hide' (hC5.out.step hb6).cons
  clear hb6 hC5
  go_wp2_with fail
  refine (KFb.out _ _ _ (hBV.out _ (hC6.out.all _ (by simp)))).mono ?_
  rintro e w7 ⟨o7, c7, rfl, hR7, hb7⟩
  have hC7 := hide' (hC6.out.step hb7)
  clear hb7 hC6
  go_wp2_with fail
  refine (KJ.out _ _ _ _ _ (hR6.out.below (hC7.out.all _ (by simp)) (Nat.le_refl _)) hR7.out).mono ?_
  rintro e w8 ⟨gJ, rfl, hJ, hb8⟩
  have hC8 := hide' (hC7.out.step hb8).cons
  clear hb8 hC7
  clear KM KJ
  have hd := hide' (hC8.out.step (Below.refl _ w8).drew)
  have hS0 := hide' (hS.out _ (hd.out.all _ (by simp))).2.2
  go_wp2
  go_region_held3 (fun V => V.cell? ⟨w.heap.size, 3, none⟩ = some (.int .i64 xI) ∧ V.cell? ⟨w.heap.size, 4, none⟩ = some (.int .i64 xJ)) (first | (exact hS0.out) | (exact hS1.out) | (exact hS2.out)) (first | (go_at_call 4; refine (KFa.out _ _ _ (hAV.out _ (hd.out.all _ (by simp)))).mono ?_; rintro e w9 ⟨o9, c9, rfl, hR9, hb9⟩; have hC9 := hide' (hd.out.step hb9); have hS1 := hide' (hS.out _ (hC9.out.all _ (by simp))).2.2; clear hb9) | (go_at_call 33; refine (KG.out _ _ _ hR9.out).mono ?_; rintro e w10 ⟨gG, rfl, hG, hb10⟩; have hC10 := hide' (hC9.out.step hb10).cons; have hS2 := hide' (hS.out _ (hC10.out.all _ (by simp))).2.2; clear hb10))
  clear hd hS0 hS1 hS2 hC8 hC9 KG
  go_wp2_with fail
  refine (KFa.out _ _ _ (hAV.out _ (hC10.out.all _ (by simp)))).mono ?_
  rintro e w11 ⟨o11, c11, rfl, hR11, hb11⟩
  have hC11 := hide' (hC10.out.step hb11).cons
  clear hb11 hC10
  go_wp2_with fail
  refine (KFb.out _ _ _ (hBV.out _ (hC11.out.all _ (by simp)))).mono ?_
  rintro e w12 ⟨o12, c12, rfl, hR12, hb12⟩
  have hC12 := hide' (hC11.out.step hb12)
  clear hb12 hC11
  go_wp2_with fail
  refine (KFi.out _ _ _ _ _ (hR11.out.below (hC12.out.all _ (by simp)) (Nat.le_refl _)) hR12.out).mono ?_
  rintro e w13 ⟨rfl, hb13⟩
  have hC13 := hide' (hC12.out.step hb13)
  clear hb13 hC12
  go_wp2_with fail
  refine (RFi.out _ _ _ _ _ (hAV.out _ (hC13.out.all _ (by simp))) (hBV.out _ (hC13.out.all _ (by simp)))).mono ?_
  rintro e w14 ⟨rfl, hb14⟩
  have hC14 := hide' (hC13.out.step hb14)
  clear hb14 hC13
  clear KFi RFi KFa KFb
  go_wp2_with fail
  refine (RL.out _ _ _ (hAV.out _ (hC14.out.all _ (by simp)))).mono ?_
  rintro e w15 ⟨rfl, hw15⟩
  obtain rfl : w14 = w15 := hw15.symm
  obtain ⟨sA, sB, sI, sJ⟩ := hS.out _ (hC14.out.all _ (by simp))
  clear sA sB
  go_wp2_with fail
  refine (RG.out _ _ _ (hAV.out _ (hC14.out.all _ (by simp)))).mono ?_
  rintro e w16 ⟨g16, rfl, hX16, hb16⟩
  have hC16 := hide' (hC14.out.step hb16)
  clear hb16 hC14
  go_wp2_with fail
  refine (keepT (ints PG) _ _ _ (hG.out.below (hC16.out.all _ (by simp)) (Nat.le_refl _)) hX16.out hlG.out).mono ?_
  rintro e w17 ⟨rfl, hb17⟩
  have hC17 := hide' (hC16.out.step hb17)
  clear hb17 hC16
  clear sI sJ
  go_wp2_with fail
  refine (RAl.out _ _ _ _ _ (hAV.out _ (hC17.out.all _ (by simp))) (hBV.out _ (hC17.out.all _ (by simp)))).mono ?_
  rintro e w18 ⟨rfl, hw18⟩
  obtain rfl : w17 = w18 := hw18.symm
  go_wp2_with fail
  refine (RM.out _ _ _ _ _ (hAV.out _ (hC17.out.all _ (by simp))) (hBV.out _ (hC17.out.all _ (by simp)))).mono ?_
  rintro e w19 ⟨g19, rfl, hX19, hb19⟩
  have hC19 := hide' (hC17.out.step hb19)
  clear hb19 hC17
  go_wp2_with fail
  refine (keepT (ints PM) _ _ _ (hM.out.below (hC19.out.all _ (by simp)) (Nat.le_refl _)) hX19.out hlM.out.1).mono ?_
  rintro e w20 ⟨rfl, hb20⟩
  have hC20 := hide' (hC19.out.step hb20)
  clear hb20 hC19
  go_wp2_with fail
  refine (RJ.out _ _ _ _ _ (hAV.out _ (hC20.out.all _ (by simp))) (hBV.out _ (hC20.out.all _ (by simp)))).mono ?_
  rintro e w21 ⟨g21, rfl, hX21, hb21⟩
  have hC21 := hide' (hC20.out.step hb21)
  clear hb21 hC20
  go_wp2_with fail
  refine (keepT (ints PJ) _ _ _ (hJ.out.below (hC21.out.all _ (by simp)) (Nat.le_refl _)) hX21.out hlM.out.2).mono ?_
  rintro e w22 ⟨rfl, hb22⟩
  have hC22 := hide' (hC21.out.step hb22)
  clear hb22 hC21
  go_wp2
  go_ret
  exact ⟨rfl, hAb.out.trans ((hC22.out.all _ (by simp)).mono hAb.out.size)⟩
end Go.Proofs.Ytagkopmegfmhaaa

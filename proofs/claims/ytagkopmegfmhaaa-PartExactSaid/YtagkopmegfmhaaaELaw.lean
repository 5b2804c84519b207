/- PartExact's walk. -/
import Derived.Test.YtagkopmegfmhaaaETwosB
import Derived.Test.YtagkopmegfmhaaaETwosGIA
import Derived.Test.YtagkopmegfmhaaaETwosGIN
import Derived.Test.YtagkopmegfmhaaaETwosGNA
import Derived.Test.YtagkopmegfmhaaaETwosGNN
namespace Go.Proofs.Ytagkopmegfmhaaa
open Go.RowKit
theorem countsT (n : Int) (r : Nat) (w : World) : Calls Try.prog 8 #[.int .i64 n, .int .u64 (r : Int)] w fun e w' => e = .returned (.bool true) ∧ Below w.heap.size w w' := by
  by_cases h : n < 0 ∨ 25 < n
  · exact countsB n r h w
  · obtain ⟨k, rfl⟩ : ∃ k : Nat, n = (k : Int) := ⟨n.toNat, by omega⟩
    exact countsG k (by omega) r w
theorem stepsT (l : List Int) (hl99 : l.length ≤ 99) (v : Value) (w : World) (hr : RowI w v l) : Calls Try.prog 9 #[v] w fun e w' => e = .returned (.bool true) ∧ Below w.heap.size w w' := by
  cases h : Lg l
  · exact stepsB l hl99 h v w hr
  · obtain ⟨m, rfl, hm, hm25⟩ := Lg.ex h
    obtain ⟨oa, ca, rfl⟩ := hr.shapeQ
    rw [ints_len] at hr ⊢
    exact stepsG m.length m hm rfl hm25 oa ca w hr
theorem twosT (XA XB : List Int) (vA vB : Value) (xN xI xJ xR : Int) (w : World) (rA : RowI w vA XA) (rB : RowI w vB XB) :
    Calls Try.prog 10 #[.agg #[vA, vB, .int .i64 xN, .int .i64 xI, .int .i64 xJ, .int .u64 xR]] w fun e w' => e = .returned (.bool true) ∧ Below w.heap.size w w' := by
  cases h : Lg (XA.take 99)
  · exact twosB XA XB _ _ _ _ vA vB xN xI xJ xR w rA rB rfl rfl rfl rfl h
  · obtain ⟨m, hm1, hm, hm25⟩ := Lg.ex h
    have hl : (XA.take 99).length = m.length := by rw [hm1, ints_len]
    by_cases hix : xI < 0 ∨ (m.length : Int) ≤ xI ∨ xJ < 0 ∨ (m.length : Int) ≤ xJ
    · cases hak : Ak (XA.take 99) (XB.take 99)
      · exact twosGNN XA XB _ _ m.length _ vA vB xN xI xJ xR w rA rB rfl rfl hl rfl m hm1 hm hm25 hak hix
      · unfold Ak at hak
        rw [Bool.and_eq_true, Bool.and_eq_true, decide_eq_true_eq] at hak
        obtain ⟨m2, hm2, hL2, _⟩ := Lg.ex hak.2
        exact twosGNA XA XB _ _ m.length vA vB xN xI xJ xR w rA rB rfl rfl hl (by rw [← hak.1.1]; exact hl) m hm1 hm hm25 m2 hm2 hL2 hix
    · obtain ⟨i, hi⟩ : ∃ i : Nat, xI = (i : Int) := ⟨xI.toNat, by omega⟩
      obtain ⟨j, hj⟩ : ∃ j : Nat, xJ = (j : Int) := ⟨xJ.toNat, by omega⟩
      cases hak : Ak (XA.take 99) (XB.take 99)
      · exact twosGIN XA XB _ _ m.length _ vA vB xN xI xJ xR w rA rB rfl rfl hl rfl m hm1 hm hm25 hak i j hi hj (by omega) (by omega)
      · unfold Ak at hak
        rw [Bool.and_eq_true, Bool.and_eq_true, decide_eq_true_eq] at hak
        obtain ⟨m2, hm2, hL2, _⟩ := Lg.ex hak.2
        exact twosGIA XA XB _ _ m.length vA vB xN xI xJ xR w rA rB rfl rfl hl (by rw [← hak.1.1]; exact hl) m hm1 hm hm25 m2 hm2 hL2 i j hi hj (by omega) (by omega)
set_option maxRecDepth 100000 in
set_option maxHeartbeats 4000000 in
theorem partExact_walk (XA XB : List Int) (oA oB : Option Addr) (cA cB : Nat) (xN xI xJ : Int) (xR : Nat) (w : World) (rA : RowI w (.slice oA XA.length cA) XA) (rB : RowI w (.slice oB XB.length cB) XB) (wA : ∀ z ∈ XA, (Lit.int .i64 z).wf = true) :
    Calls Try.prog 3 #[.agg #[.slice oA XA.length cA, .slice oB XB.length cB, .int .i64 xN, .int .i64 xI, .int .i64 xJ, .int .u64 (xR : Int)]] w fun e w' => e = .returned (.bool true) ∧ Below w.heap.size w w' := by
  obtain ⟨W0, hW0⟩ : ∃ W, w.alloc (.cells #[.slice oA XA.length cA, .slice oB XB.length cB, .int .i64 xN, .int .i64 xI, .int .i64 xJ, .int .u64 (xR : Int)] 25) = W := ⟨_, rfl⟩
  have hAb : Hid (Below w.heap.size w W0) := by rw [← hW0]; exact (Below.refl _ w).alloc (Nat.le_refl _) _
  have hS : Hid (∀ V, Below W0.heap.size W0 V → V.cell? ⟨w.heap.size, 0, none⟩ = some (.slice oA XA.length cA) ∧ V.cell? ⟨w.heap.size, 1, none⟩ = some (.slice oB XB.length cB) ∧ V.cell? ⟨w.heap.size, 2, none⟩ = some (.int .i64 xN) ∧ V.cell? ⟨w.heap.size, 3, none⟩ = some (.int .i64 xI) ∧ V.cell? ⟨w.heap.size, 4, none⟩ = some (.int .i64 xJ) ∧ V.cell? ⟨w.heap.size, 5, none⟩ = some (.int .u64 (xR : Int))) := fun V hV => by
    have h1 : V.heap[w.heap.size]? = some (.cells #[.slice oA XA.length cA, .slice oB XB.length cB, .int .i64 xN, .int .i64 xI, .int .i64 xJ, .int .u64 (xR : Int)] 25) := (hV.block _ (by rw [← hW0]; simp)).trans (by rw [← hW0]; exact heap_new w _)
    refine ⟨?_, ?_, ?_, ?_, ?_, ?_⟩ <;> simp [World.cell?, h1]
  obtain ⟨L, hL⟩ : ∃ L, XA.take 99 = L := ⟨_, rfl⟩
  obtain ⟨n, hn⟩ : ∃ n, L.length = n := ⟨_, rfl⟩
  have hn99 : n ≤ 99 := by rw [← hn, ← hL, List.length_take]; omega
  have hwf : ∀ z ∈ L, (Lit.int .i64 z).wf = true := fun z hz => wA z (by rw [← hL] at hz; exact List.mem_of_mem_take hz)
  have hrA : Hid (∀ V, Below W0.heap.size W0 V → RowI V (.slice oA XA.length cA) XA) := fun V hV => (rA.below hAb.out (Nat.le_refl _)).below hV (Nat.le_refl _)
  have hrB : Hid (∀ V, Below W0.heap.size W0 V → RowI V (.slice oB XB.length cB) XB) := fun V hV => (rB.below hAb.out (Nat.le_refl _)).below hV (Nat.le_refl _)
  have K1 : Hid (Calls Try.prog 4 #[.slice oA XA.length cA, .int .i64 99] W0 fun e w' => ∃ o c, e = .returned (.slice o n c) ∧ Hid (RowI w' (.slice o n c) L) ∧ Below W0.heap.size W0 w') := by
    refine (few XA _ 99 W0 (hrA.out _ (Below.refl _ _)) (by decide)).mono ?_
    rintro e w' ⟨v', rfl, h1, h2⟩
    rw [hL] at h1
    obtain ⟨o, c, rfl⟩ := h1.shapeQ
    rw [hn] at h1 ⊢
    exact ⟨o, c, rfl, h1, h2⟩
  have KFb : Hid (∀ V, Below W0.heap.size W0 V → Calls Try.prog 4 #[.slice oB XB.length cB, .int .i64 99] V fun e w' => ∃ o c, e = .returned (.slice o (XB.take 99).length c) ∧ Hid (RowI w' (.slice o (XB.take 99).length c) (XB.take 99)) ∧ Below V.heap.size V w') := fun V hV => by
    refine (few XB _ 99 V (hrB.out _ hV) (by decide)).mono ?_
    rintro e w' ⟨v', rfl, h1, h2⟩
    obtain ⟨o, c, rfl⟩ := h1.shapeQ
    exact ⟨o, c, rfl, h1, h2⟩
  have hb99 : Hid ((XB.take 99).length ≤ 99) := by show _ ≤ _; rw [List.length_take]; omega
  have KFa : Hid (∀ o c V, RowI V (.slice o n c) L → Calls Try.prog 4 #[.slice o n c, .int .i64 99] V fun e w' => ∃ o c, e = .returned (.slice o n c) ∧ Hid (RowI w' (.slice o n c) L) ∧ Below V.heap.size V w') := fun o c V h => by
    have := fewS L (by omega) _ V h
    rw [hn] at this
    exact this
  have KSt : Hid (∀ o c V, RowI V (.slice o n c) L → Calls Try.prog 9 #[.slice o n c] V fun e w' => e = .returned (.bool true) ∧ Below V.heap.size V w') := fun o c V h => stepsT L (by omega) _ V h
  have KTw : Hid (∀ V, Below W0.heap.size W0 V → Calls Try.prog 10 #[.agg #[.slice oA XA.length cA, .slice oB XB.length cB, .int .i64 xN, .int .i64 xI, .int .i64 xJ, .int .u64 (xR : Int)]] V fun e w' => e = .returned (.bool true) ∧ Below V.heap.size V w') := fun V hV => twosT XA XB _ _ xN xI xJ xR V (hrA.out V hV) (hrB.out V hV)
  have hC0 : Hid (Ch [W0] W0) := (Ch.mk (fun u hu => by cases hu) : Ch [] _).cons
  have hS0 := hide' (hS.out W0 (Below.refl _ _))
  generalize hkB : (XB.take 99).length = nB at *
  have hXBt : Hid (∀ o c V, RowI V (.slice o nB c) (XB.take 99) → Calls Try.prog 9 #[.slice o nB c] V fun e w' => e = .returned (.bool true) ∧ Below V.heap.size V w') := fun o c V h => stepsT (XB.take 99) (by rw [hkB]; exact hb99.out) _ V h
  by_cases h25 : n ≤ 25
  · have h25I : ¬ (25 : Int) < (n : Int) := by omega
    have h25d : decide ((25 : Int) < (n : Int)) = false := decide_eq_false h25I
    have KO : Hid (∀ o c V, RowI V (.slice o n c) L → Calls Try.prog 5 #[.slice o n c] V fun e w' => ∃ g, e = .returned (.tuple #[.slice (some ⟨g, 0, none⟩) n n, .int .i64 0]) ∧ Hid (RowI w' (.slice (some ⟨g, 0, none⟩) n n) (ints (pat L))) ∧ Below V.heap.size V w') := fun o c V h => by
      have := ofP L _ V h (by omega) hwf
      rw [hn] at this
      refine this.mono ?_
      rintro e w' ⟨g, rfl, h1, h2⟩
      exact ⟨g, rfl, RowI.of_own h1, h2⟩
    have RO : Hid (∀ o c V, RowI V (.slice o n c) L → Calls Try.prog 7 #[.slice o n c] V fun e w' => ∃ g, e = .returned (.slice (some ⟨g, 0, none⟩) n n) ∧ Hid (RowI w' (.slice (some ⟨g, 0, none⟩) n n) (ints (pat L))) ∧ Below V.heap.size V w') := fun o c V h => by
      refine (refOf n L o c V h hn h25).mono ?_
      rintro e w' ⟨rfl, h1, h2⟩
      exact ⟨_, rfl, h1, h2.out⟩
    have hpl : Hid ((ints (pat L)).length ≤ 1000) := by show _ ≤ _; rw [ints_len, pat_len, hn]; omega
    clear hL hn hwf hrA hrB rA rB wA hkB
    generalize ints (pat L) = PL at *
    go_enter Try.func3, Try.ntmps3
    obtain ⟨s0, s1, s2, s3, s4, s5⟩ := hS0.out
    go_wp2_with fail
    refine K1.out.mono ?_
    rintro e w1 ⟨oa, ca, rfl, hA, hb1⟩
    have hC1 := hide' (hC0.out.step hb1).cons
    have hAV : Hid (∀ V, Below w1.heap.size w1 V → RowI V (.slice oa n ca) L) := fun V hV => hA.out.below hV (Nat.le_refl _)
    clear hb1 hC0 K1 hA s0 s1 s2 s3 s4 s5 hS0 hW0
    go_wp2_with fail
    refine (KFa.out _ _ _ (hAV.out _ (hC1.out.all _ (by simp)))).mono ?_
    rintro e w2 ⟨o2, c2, rfl, hR2, hb2⟩
    have hC2 := hide' (hC1.out.step hb2)
    clear hb2 hC1
    go_wp2_with fail
    refine (KO.out _ _ _ hR2.out).mono ?_
    rintro e w3 ⟨g3, rfl, hO3, hb3⟩
    have hC3 := hide' (hC2.out.step hb3).cons
    clear hb3 hC2
    go_wp2_with fail
    refine (RO.out _ _ _ (hAV.out _ (hC3.out.all _ (by simp)))).mono ?_
    rintro e w4 ⟨g4, rfl, hO4, hb4⟩
    have hC4 := hide' (hC3.out.step hb4)
    clear hb4 hC3
    go_wp2_with fail
    refine (keepT PL _ _ _ (hO3.out.below (hC4.out.all _ (by simp)) (Nat.le_refl _)) hO4.out hpl.out).mono ?_
    rintro e w5 ⟨rfl, hb5⟩
    have hC5 := hide' (hC4.out.step hb5)
    clear hb5 hC4 KO RO hO3 hO4
    obtain ⟨s0, s1, s2, s3, s4, s5⟩ := hS.out _ (hC5.out.all _ (by simp))
    go_wp2_with fail
    refine (countsT xN xR _).mono ?_
    rintro e w6 ⟨rfl, hb6⟩
    have hC6 := hide' (hC5.out.step hb6)
    clear hb6 hC5 s0 s1 s2 s3 s4 s5
    go_wp2_with fail
    refine (KSt.out _ _ _ (hAV.out _ (hC6.out.all _ (by simp)))).mono ?_
    rintro e w7 ⟨rfl, hb7⟩
    have hC7 := hide' (hC6.out.step hb7)
    clear hb7 hC6
    obtain ⟨s0, s1, s2, s3, s4, s5⟩ := hS.out _ (hC7.out.all _ (by simp))
    go_wp2_with fail
    refine (KFb.out _ (hC7.out.all _ (by simp))).mono ?_
    rintro e w8 ⟨o8, c8, rfl, hR8, hb8⟩
    have hC8 := hide' (hC7.out.step hb8)
    clear hb8 hC7 s0 s1 s2 s3 s4 s5
    go_wp2_with fail
    refine (hXBt.out _ _ _ hR8.out).mono ?_
    rintro e w9 ⟨rfl, hb9⟩
    have hC9 := hide' (hC8.out.step hb9)
    clear hb9 hC8 hR8
    obtain ⟨s0, s1, s2, s3, s4, s5⟩ := hS.out _ (hC9.out.all _ (by simp))
    go_wp2_with fail
    refine (KTw.out _ (hC9.out.all _ (by simp))).mono ?_
    rintro e w10 ⟨rfl, hb10⟩
    have hC10 := hide' (hC9.out.step hb10)
    clear hb10 hC9 s0 s1 s2 s3 s4 s5
    go_wp2_with fail
    refine (wakes _).mono ?_
    rintro e w11 ⟨rfl, hb11⟩
    have hC11 := hide' (hC10.out.step hb11)
    go_wp2
    go_ret
    exact ⟨rfl, hAb.out.trans ((hC11.out.all _ (by simp)).mono hAb.out.size)⟩
  · have h25I : (25 : Int) < (n : Int) := by omega
    have KO : Hid (∀ o c V, RowI V (.slice o n c) L → Calls Try.prog 5 #[.slice o n c] V fun e w' => e = .returned (.tuple #[.slice none 0 0, .int .i64 2]) ∧ w' = V) := fun o c V h => ofB L _ V h (by omega) (by omega)
    clear hL hn hwf hrA hrB rA rB wA hkB
    go_enter Try.func3, Try.ntmps3
    obtain ⟨s0, s1, s2, s3, s4, s5⟩ := hS0.out
    go_wp2_with fail
    refine K1.out.mono ?_
    rintro e w1 ⟨oa, ca, rfl, hA, hb1⟩
    have hC1 := hide' (hC0.out.step hb1).cons
    have hAV : Hid (∀ V, Below w1.heap.size w1 V → RowI V (.slice oa n ca) L) := fun V hV => hA.out.below hV (Nat.le_refl _)
    clear hb1 hC0 K1 hA s0 s1 s2 s3 s4 s5 hS0 hW0
    go_wp2_with fail
    refine (KFa.out _ _ _ (hAV.out _ (hC1.out.all _ (by simp)))).mono ?_
    rintro e w5 ⟨o2, c2, rfl, hR2, hb2⟩
    have hC5 := hide' (hC1.out.step hb2)
    clear hb2 hC1
    go_wp2_with fail
    refine (KO.out _ _ _ hR2.out).mono ?_
    rintro e w6 ⟨rfl, hw6⟩
    obtain rfl : w5 = w6 := hw6.symm
    clear KO
    obtain ⟨s0, s1, s2, s3, s4, s5⟩ := hS.out _ (hC5.out.all _ (by simp))
    go_wp2_with fail
    refine (countsT xN xR _).mono ?_
    rintro e w6 ⟨rfl, hb6⟩
    have hC6 := hide' (hC5.out.step hb6)
    clear hb6 hC5 s0 s1 s2 s3 s4 s5
    go_wp2_with fail
    refine (KSt.out _ _ _ (hAV.out _ (hC6.out.all _ (by simp)))).mono ?_
    rintro e w7 ⟨rfl, hb7⟩
    have hC7 := hide' (hC6.out.step hb7)
    clear hb7 hC6
    obtain ⟨s0, s1, s2, s3, s4, s5⟩ := hS.out _ (hC7.out.all _ (by simp))
    go_wp2_with fail
    refine (KFb.out _ (hC7.out.all _ (by simp))).mono ?_
    rintro e w8 ⟨o8, c8, rfl, hR8, hb8⟩
    have hC8 := hide' (hC7.out.step hb8)
    clear hb8 hC7 s0 s1 s2 s3 s4 s5
    go_wp2_with fail
    refine (hXBt.out _ _ _ hR8.out).mono ?_
    rintro e w9 ⟨rfl, hb9⟩
    have hC9 := hide' (hC8.out.step hb9)
    clear hb9 hC8 hR8
    obtain ⟨s0, s1, s2, s3, s4, s5⟩ := hS.out _ (hC9.out.all _ (by simp))
    go_wp2_with fail
    refine (KTw.out _ (hC9.out.all _ (by simp))).mono ?_
    rintro e w10 ⟨rfl, hb10⟩
    have hC10 := hide' (hC9.out.step hb10)
    clear hb10 hC9 s0 s1 s2 s3 s4 s5
    go_wp2_with fail
    refine (wakes _).mono ?_
    rintro e w11 ⟨rfl, hb11⟩
    have hC11 := hide' (hC10.out.step hb11)
    go_wp2
    go_ret
    exact ⟨rfl, hAb.out.trans ((hC11.out.all _ (by simp)).mono hAb.out.size)⟩
end Go.Proofs.Ytagkopmegfmhaaa

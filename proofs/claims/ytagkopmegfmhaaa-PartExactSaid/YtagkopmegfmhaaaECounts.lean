/- counts: Bell, First, Last, At of a number of places. -/
import Derived.Test.YtagkopmegfmhaaaEAt
import Derived.Test.YtagkopmegfmhaaaEBad
import Derived.Test.YtagkopmegfmhaaaKFam
namespace Go.Proofs.Ytagkopmegfmhaaa
open Go.RowKit
theorem keepT (l : List Int) (va vb : Value) (w : World) (ha : RowI w va l) (hb : RowI w vb l) (hn : l.length ≤ 1000) :
    Calls Try.prog 6 #[va, vb] w fun e w' => e = .returned (.bool true) ∧ Below w.heap.size w w' := by
  have := keepInts l l va vb w ha hb (by omega) (by omega)
  rwa [decide_eq_true rfl] at this
theorem RowI.of_own {w : World} {base g n cap : Nat} {l : List Nat} (h : w.ownsRow base 3 1 (.slice (some ⟨g, 0, none⟩) n cap) n (cellsI (ints l))) : RowI w (.slice (some ⟨g, 0, none⟩) n cap) (ints l) := RowI.of_owns h
/-- What At answers. -/
theorem atG (n : Nat) (hn : n ≤ 25) (r : Nat) (w : World) : Calls Try.prog 16 #[.int .i64 n, .int .u64 r] w fun e w' => ∃ oa k cap z, e = .returned (.tuple #[.slice oa k cap, .int .i64 z]) ∧ Below w.heap.size w w' ∧ (r < ways n 0 → z = 0 ∧ RowI w' (.slice oa k cap) (ints (rowAt n 0 r))) ∧ (¬ r < ways n 0 → z = 1 ∧ k = 0) := by
  by_cases h : r < ways n 0
  · refine (atP n r hn h w).mono ?_
    rintro e w' ⟨g, rfl, h1, h2⟩
    exact ⟨_, _, _, _, rfl, h2, fun _ => ⟨rfl, RowI.of_own h1⟩, fun h' => absurd h h'⟩
  · refine (atR n hn r (by omega) w).mono ?_
    rintro e w' ⟨rfl, h2⟩
    exact ⟨_, _, _, _, rfl, h2, fun h' => absurd h' h, fun _ => ⟨rfl, rfl⟩⟩
theorem rowAt_len (n b r : Nat) : (rowAt n b r).length = n := by
  induction n generalizing b r with
  | zero => rfl
  | succ n ih => rw [rowAt, List.length_cons, ih]
set_option maxRecDepth 100000 in
set_option maxHeartbeats 2000000 in
theorem countsB (n r : Int) (hb : n < 0 ∨ 25 < n) (w : World) : Calls Try.prog 8 #[.int .i64 n, .int .u64 r] w fun e w' => e = .returned (.bool true) ∧ Below w.heap.size w w' := by
  by_cases h0 : n < 0
  · go_enter Try.func8, Try.ntmps8
    go_wp2_with fail
    refine (bellB n _ hb).mono ?_
    rintro e w1 ⟨rfl, rfl⟩
    go_wp2_with fail
    refine (firstB n _ hb).mono ?_
    rintro e w1 ⟨rfl, rfl⟩
    go_wp2_with fail
    refine (lastB n _ hb).mono ?_
    rintro e w1 ⟨rfl, rfl⟩
    go_wp2_with fail
    refine (atB n _ hb r).mono ?_
    rintro e w1 ⟨rfl, rfl⟩
    go_wp2
    go_ret
    exact ⟨rfl, Below.refl _ _⟩
  · have hd0 : decide (n < 0) = false := decide_eq_false h0
    have h1 : 25 < n := by omega
    go_enter Try.func8, Try.ntmps8
    go_wp2_with fail
    refine (bellB n _ hb).mono ?_
    rintro e w1 ⟨rfl, rfl⟩
    go_wp2_with fail
    refine (firstB n _ hb).mono ?_
    rintro e w1 ⟨rfl, rfl⟩
    go_wp2_with fail
    refine (lastB n _ hb).mono ?_
    rintro e w1 ⟨rfl, rfl⟩
    go_wp2_with fail
    refine (atB n _ hb r).mono ?_
    rintro e w1 ⟨rfl, rfl⟩
    go_wp2
    go_ret
    exact ⟨rfl, Below.refl _ _⟩
set_option maxRecDepth 100000 in
set_option maxHeartbeats 4000000 in
theorem countsG (n : Nat) (hn : n ≤ 25) (r : Nat) (w : World) : Calls Try.prog 8 #[.int .i64 n, .int .u64 r] w fun e w' => e = .returned (.bool true) ∧ Below w.heap.size w w' := by
  obtain ⟨i0, hi, hz0, hz1, hz2⟩ := info_parts info3
  have hn0 : ¬ (n : Int) < 0 := by omega
  have hd0 : decide ((n : Int) < 0) = false := decide_eq_false hn0
  have hn1 : ¬ (25 : Int) < (n : Int) := by omega
  have hd1 : decide ((25 : Int) < (n : Int)) = false := decide_eq_false hn1
  have KB := hide' (fun V => bellP n hn V)
  have KF := hide' (fun V => firstP n hn V)
  have KL := hide' (fun V => lastP n V hn)
  have KA := hide' (fun V => atG n hn r V)
  have RB := hide' (fun V => refBell n hn V)
  have RF := hide' (fun V => refFirst n hn V)
  have hxx : Hid (∀ x : Nat, ((x : Int) != (x : Int)) = false) := fun x => by simp
  have RA := hide' (fun (h : r < ways n 0) V => refAt n r hn h V)
  have hlen := hide' (rowAt_len n 0 r)
  have hcase : Hid (((ways n 0 : Nat) : Int) ≤ (r : Int) ↔ ¬ r < ways n 0) := ⟨fun h => by omega, fun h => by omega⟩
  have hlt' : Hid (r < ways n 0 ∨ ¬ r < ways n 0) := by show _ ∨ _; omega
  generalize ways n 0 = bell at *
  have hbb := hxx.out bell
  go_enter Try.func8, Try.ntmps8
  go_wp2_with fail
  refine (KB.out _).mono ?_
  rintro e w1 ⟨rfl, hB1⟩
  go_wp2_with fail
  refine (KF.out _).mono ?_
  rintro e w2 ⟨g2, rfl, hF2, hb2⟩
  have hB2 := hide' (hB1.trans (hb2.mono hB1.size))
  have hF2' := hide' hF2
  clear hF2 hb2 hB1
  go_wp2_with fail
  refine (KL.out _).mono ?_
  rintro e w3 ⟨g3, rfl, hL3, hb3⟩
  have hB3 := hide' (hB2.out.trans (hb3.mono hB2.out.size))
  have hF3 := hide' (hF2'.out.below hb3 (Nat.le_refl _))
  clear hb3 hB2 hF2'
  go_wp2_with fail
  refine (KA.out _).mono ?_
  rintro e w4 ⟨oa, ka, capa, za, rfl, hb4, hAy, hAn⟩
  have hB4 := hide' (hB3.out.trans (hb4.mono hB3.out.size))
  have hF4 := hide' (hF3.out.below hb4 (Nat.le_refl _))
  have hL4 := hide' (hL3.out.below hb4 (Nat.le_refl _))
  have hAy' := hide' hAy
  have hAn' := hide' hAn
  clear hb4 hB3 hF3 hL3 hAy hAn KB KF KL KA
  go_wp2
  go_loopw [13, 14] (fun ov k wr => ∃ (c : Nat) (ou : Option Addr) (cu : Nat), c ≤ n ∧ k = .int .i64 c ∧ ov = .slice ou c cu ∧ Hid (wr.ownsRow w4.heap.size 3 1 (.slice ou c cu) c (cellsI (ints (List.range c)))) ∧ Hid (Below w4.heap.size w4 wr)) (fun _ k _ => ((n : Int) - intOf k).toNat)
  case atStart => exact ⟨0, none, 0, Nat.zero_le _, rfl, rfl, World.ownsRow_nil _ _ _ _, Below.refl _ _⟩
  case round =>
    obtain ⟨c, ou, cu, hcn, rfl, rfl, hO, hB⟩ := hrel
    have hz := hB.out.size
    by_cases hlt : c < n
    · have hO1 : Hid (∀ o, (wr.alloc o).ownsRow w4.heap.size 3 1 (.slice ou c cu) c (cellsI (ints (List.range c)))) := fun o => hO.out.alloc o
      have hfin : Hid (∀ ou' cu' w2, w2.ownsRow w4.heap.size 3 1 (.slice ou' (c + 1) cu') (c + 1) (cellsI (ints (List.range c)) ++ [.int .i64 (c : Int)]) → (wr.alloc (.cells #[.int .i64 (c : Int)] 3)).grownBy w2 (Value.slice ou c cu).ownBlock → w2.ownsRow w4.heap.size 3 1 (.slice ou' (c + 1) cu') (c + 1) (cellsI (ints (List.range (c + 1)))) ∧ Below w4.heap.size w4 w2) := fun ou' cu' w2 h1 h2 => by
        refine ⟨?_, ?_⟩
        · rw [List.range_succ, cellsI_snoc]; exact h1
        · exact (hB.out.alloc hz _).grown h2 (by simp; omega) (fun j ej => (hO.out.lt j ej).1)
      clear hO
      go_wp2_with (first | (at_builtin; refine wpList_append_own _ rfl _ _ 22 rfl w4.heap.size 3 i0 (.int .i64 0) 1 8 Try.underlying22 hi hz0 hz1 hz2 rfl (by decide) (.slice ou c cu) c (cellsI (ints (List.range c))) rfl (hO1.out _) ⟨wr.heap.size, 0, none⟩ 1 1 [.int .i64 (c : Int)] rfl rfl (cell_one_new _ _ _) (by simp [Value.oneCell']) (by unfold maxLen; omega) (by omega) (by simp; omega) ?_; intro u w5 hown5 hgrow5 hnil5; clear hnil5; obtain ⟨ou2, cu2, hu2⟩ := K.own_shape hown5; subst hu2; have hFn := hide' (hfin.out ou2 cu2 w5 hown5 hgrow5); clear hown5 hgrow5))
      exact ⟨⟨c + 1, ou2, cu2, by omega, by go_num, rfl, hFn.out.1, hFn.out.2⟩, by simp [intOf]; omega⟩
    · obtain rfl : c = n := by omega
      have hLr : Hid (RowI wr (.slice ou c cu) (ints (List.range c))) := by
        have h1 := hO.out
        exact RowI.of_owns h1
      have hB5 := hide' (hB4.out.trans (hB.out.mono hB4.out.size))
      have hF5 := hide' (hF4.out.below hB.out (Nat.le_refl _))
      have hL5 := hide' (hL4.out.below hB.out (Nat.le_refl _))
      have hAy5 : Hid (r < bell → za = 0 ∧ RowI wr (.slice oa ka capa) (ints (rowAt c 0 r))) := fun h => ⟨(hAy'.out h).1, (hAy'.out h).2.below hB.out (Nat.le_refl _)⟩
      clear hO hB hB4 hF4 hL4 hAy'
      go_wp2_with fail
      refine (RB.out _).mono ?_
      rintro e w6 ⟨rfl, hb6⟩
      go_wp2_with fail
      refine (RF.out _).mono ?_
      rintro e w7 ⟨g7, rfl, hR7, hb7⟩
      have hb57 := hide' (hb6.trans (hb7.mono hb6.size))
      have KI := hide' (keepT (ints (List.replicate c 0)) _ _ w7 (hF5.out.below hb57.out (Nat.le_refl _)) hR7 (by rw [ints_len, List.length_replicate]; omega))
      clear hb6 hb7 hR7 hF5
      go_wp2_with fail
      refine KI.out.mono ?_
      rintro e w8 ⟨rfl, hb8⟩
      have hb58 := hide' (hb57.out.trans (hb8.mono hb57.out.size))
      have KI2 := hide' (keepT (ints (List.range c)) _ _ w8 (hL5.out.below hb58.out (Nat.le_refl _)) (hLr.out.below hb58.out (Nat.le_refl _)) (by rw [ints_len, List.length_range]; omega))
      clear KI hb8 hL5 hLr hb57
      go_wp2_with fail
      refine KI2.out.mono ?_
      rintro e w9 ⟨rfl, hb9⟩
      have hb59 := hide' (hb58.out.trans (hb9.mono hb58.out.size))
      clear KI2 hb9 hb58
      go_wp2_with fail
      refine (RB.out _).mono ?_
      rintro e w10 ⟨rfl, hb10⟩
      have hb510 := hide' (hb59.out.trans (hb10.mono hb59.out.size))
      clear hb10 hb59
      rcases hlt'.out with hcs | hcs
      · have hI : ¬ (bell : Int) ≤ (r : Int) := fun h => absurd hcs (hcase.out.1 h)
        have hId : decide ((bell : Int) ≤ (r : Int)) = false := decide_eq_false hI
        obtain ⟨hza, hAr⟩ := hAy5.out hcs
        subst hza
        have hAr10 := hide' (hAr.below hb510.out (Nat.le_refl _))
        have RA' := hide' (RA.out hcs)
        clear hAy5 hAn' hcs RA hlt' hcase hAr
        go_wp2_with fail
        refine (RA'.out _).mono ?_
        rintro e w11 ⟨g11, rfl, hR11, hb11⟩
        have hb511 := hide' (hb510.out.trans (hb11.mono hb510.out.size))
        have KI := hide' (keepT (ints (rowAt c 0 r)) _ _ w11 (hAr10.out.below hb11 (Nat.le_refl _)) (RowI.of_own hR11) (by rw [ints_len, hlen.out]; omega))
        clear hb11 hR11 hb510
        go_wp2_with fail
        refine KI.out.mono ?_
        rintro e w12 ⟨rfl, hb12⟩
        go_wp2
        go_ret
        have hb512 := hb511.out.trans (hb12.mono hb511.out.size)
        exact ⟨rfl, hB5.out.trans (hb512.mono hB5.out.size)⟩
      · have hI : (bell : Int) ≤ (r : Int) := hcase.out.2 hcs
        obtain ⟨hza, hka⟩ := hAn'.out hcs
        subst hza
        subst hka
        clear hAy5 hAn' hcs RA hlt' hcase
        go_wp2
        go_ret
        exact ⟨rfl, hB5.out.trans (hb510.out.mono hB5.out.size)⟩
end Go.Proofs.Ytagkopmegfmhaaa

/- steps: Next, Prev, Rank, Legal, Size, Blocks of a row. -/
import Derived.Test.YtagkopmegfmhaaaECounts
import Derived.Test.YtagkopmegfmhaaaEBlk
import Derived.Test.YtagkopmegfmhaaaERef4
namespace Go.Proofs.Ytagkopmegfmhaaa
open Go.RowKit
/-- Worlds that lie one behind the other. -/
structure Ch (l : List World) (V : World) : Prop where
  all : ∀ u ∈ l, Below u.heap.size u V
theorem Ch.step {l : List World} {V V' : World} (h : Ch l V) (hb : Below V.heap.size V V') : Ch l V' := ⟨fun u hu => (h.all u hu).trans (hb.mono (h.all u hu).size)⟩
theorem Ch.cons {l : List World} {V : World} (h : Ch l V) : Ch (V :: l) V := ⟨fun u hu => by
  rcases List.mem_cons.1 hu with rfl | hu
  · exact Below.refl _ _
  · exact h.all u hu⟩
theorem fewS (l : List Int) (hl : l.length ≤ 99) (v : Value) (w : World) (hr : RowI w v l) :
    Calls Try.prog 4 #[v, .int .i64 99] w fun e w' => ∃ o c, e = .returned (.slice o l.length c) ∧ RowI w' (.slice o l.length c) l ∧ Below w.heap.size w w' := by
  refine (few l v 99 w hr (by decide)).mono ?_
  rintro e w' ⟨v', rfl, h1, h2⟩
  rw [List.take_of_length_le hl] at h1
  obtain ⟨o, c, rfl⟩ := h1.shapeQ
  exact ⟨o, c, rfl, h1, h2⟩
/-- What Next answers. -/
theorem nextG (l : List Nat) (v : Value) (w : World) (hr : RowI w v (ints l)) (hn : l.length ≤ 25) (hl : Leg 0 l) :
    Calls Try.prog 20 #[v] w fun e w' => ∃ oa k cap b, e = .returned (.tuple #[.slice oa k cap, .bool b]) ∧ Below w.heap.size w w' ∧ (b = true → rk 0 l + 1 < ways l.length 0 ∧ RowI w' (.slice oa k cap) (ints (rowAt l.length 0 (rk 0 l + 1)))) ∧ (b = false → ¬ rk 0 l + 1 < ways l.length 0 ∧ k = 0) := by
  refine (nextP l v w hr hn hl).mono ?_
  rintro e w' (⟨p, x, t, g, cap, h1, hx, ht, rfl, h2, hb⟩ | ⟨rfl, hf, hb⟩)
  · refine ⟨_, _, _, _, rfl, hb, fun _ => ?_, fun e => by cases e⟩
    subst h1
    have e1 := rk_next hx ht
    have hL := Leg.next hl hx t.length
    have e2 := rk_lt hL
    have e3 : (p ++ (x + 1) :: List.replicate t.length 0).length = (p ++ x :: t).length := by simp
    rw [e1, e3] at e2
    refine ⟨e2, ?_⟩
    have e4 := at_rk hL
    rw [e3, e1] at e4
    rw [e4]
    exact RowI.of_own h2
  · refine ⟨_, _, _, _, rfl, hb, fun e => (by cases e), fun _ => ⟨?_, rfl⟩⟩
    have := rk_full hf
    omega
theorem rk0_zeros (n : Nat) : rk 0 (List.replicate n 0) = 0 := by
  cases n with
  | zero => rfl
  | succ n => rw [List.replicate_succ, rk, rk_zeros _ _ (by omega)]; simp
theorem full_ups' (b m : Nat) : Full b (ups b m) := by
  induction m generalizing b with
  | zero => simp [ups, Full]
  | succ m ih =>
    have e : ups b (m + 1) = b :: ups (b + 1) m := by
      unfold ups
      rw [List.range_succ_eq_map, List.map_cons, List.map_map]
      simp only [Nat.add_zero, List.cons.injEq, true_and]
      refine List.map_congr_left fun x _ => ?_
      simp; omega
    rw [e]; exact ⟨rfl, ih (b + 1)⟩
set_option maxRecDepth 100000 in
set_option maxHeartbeats 1000000 in
/-- What Prev answers. -/
theorem prevG (l : List Nat) (v : Value) (w : World) (hr : RowI w v (ints l)) (hn : l.length ≤ 25) (hl : Leg 0 l) :
    Calls Try.prog 21 #[v] w fun e w' => ∃ oa k cap b, e = .returned (.tuple #[.slice oa k cap, .bool b]) ∧ Below w.heap.size w w' ∧ (b = true → 0 < rk 0 l ∧ RowI w' (.slice oa k cap) (ints (rowAt l.length 0 (rk 0 l - 1)))) ∧ (b = false → rk 0 l = 0 ∧ k = 0) := by
  have KL := hide' (legalT _ v w hr hn hl)
  have KC := hide' (clone _ v w hr (by rw [ints_len]; omega))
  rw [ints_len] at KC
  obtain ⟨oa, cap, rfl, _, _⟩ := hr
  rw [ints_len] at KL KC ⊢
  have hl' := hide' hl
  clear hl
  go_enter Try.func21, Try.ntmps21
  go_wp2_with (go_at_call 23; refine KL.out.mono ?_; rintro e w1 ⟨rfl, rfl⟩)
  refine KC.out.mono ?_
  rintro e w2 ⟨v', rfl, hown, hB⟩
  rcases Nat.eq_zero_or_pos l.length with h0 | h0
  · obtain ⟨ou, cu, rfl⟩ : ∃ ou cu, v' = .slice ou 0 cu := by
      rcases hown.2 with ⟨rfl, h⟩ | ⟨g, cap', cur, rfl, _⟩
      · exact ⟨_, _, rfl⟩
      · rw [h0]; exact ⟨_, _, rfl⟩
    have K0 := hide' (lower0 ou cu w2)
    have hrk : Hid (rk 0 l = 0) := by show _ = _; rw [List.eq_nil_of_length_eq_zero h0]; rfl
    clear hown
    go_wp2_with fail
    refine K0.out.mono ?_
    rintro e w3 ⟨rfl, rfl⟩
    go_wp2
    exact bodyPost_ret (v := .tuple #[.slice none 0 0, .bool false]) (by simp [results, Try.results21, go_sem]) rfl ⟨_, _, _, _, rfl, hB, (fun e => by cases e), fun _ => ⟨hrk.out, rfl⟩⟩
  · obtain ⟨g, cap', rfl⟩ : ∃ g cap', v' = .slice (some ⟨g, 0, none⟩) l.length cap' := by
      rcases hown.2 with ⟨rfl, h⟩ | ⟨g, cap', cur, rfl, _⟩
      · omega
      · exact ⟨_, _, rfl⟩
    have hg := owns_base hown
    have KR := hide' (lowerP w1.heap.size g cap' l w2 hown hn hl'.out)
    clear hown
    go_wp2_with fail
    refine KR.out.mono ?_
    rintro e w3 (⟨rfl, ⟨q, y, m, h1, h4⟩, hb⟩ | ⟨rfl, h1, hb⟩)
    · have hfin : Hid (0 < rk 0 l ∧ RowI w3 (.slice (some ⟨g, 0, none⟩) l.length cap') (ints (rowAt l.length 0 (rk 0 l - 1)))) := by
        have hL := hl'.out
        rw [h1] at hL
        have hy : y < blks 0 q := by have := (Leg.app.1 hL).2.1; omega
        have hbq : blks 0 (q ++ [y]) = blks 0 q := by simp only [blks, List.foldl_append, List.foldl_cons, List.foldl_nil]; simp only [blks] at hy; omega
        rw [hbq] at h4
        have hf := full_ups' (blks 0 q) m
        have e1 := rk_next hy hf
        rw [ups_len, ← h1] at e1
        have hL2 : Leg 0 (q ++ y :: ups (blks 0 q) m) := by
          refine Leg.app.2 ⟨(Leg.app.1 hL).1, by omega, ?_⟩
          rw [show max (blks 0 q) (y + 1) = blks 0 q by omega]
          have key : ∀ (b m : Nat), Leg b (ups b m) := fun b m => by
            have : ∀ (b : Nat) (t : List Nat), Full b t → Leg b t := fun b t => by
              induction t generalizing b with
              | nil => intro _; trivial
              | cons x t it =>
                intro h
                obtain ⟨rfl, h2⟩ := h
                exact ⟨Nat.le_refl _, by rw [show max x (x + 1) = x + 1 by omega]; exact it _ h2⟩
            exact this b _ (full_ups' b m)
          exact key _ _
        have e4 := at_rk hL2
        have e3 : (q ++ y :: ups (blks 0 q) m).length = l.length := by rw [h1]; simp [ups_len]
        rw [e3] at e4
        refine ⟨by omega, ?_⟩
        rw [show rk 0 l - 1 = rk 0 (q ++ y :: ups (blks 0 q) m) by omega, e4]
        exact RowI.of_own h4
      clear h1 h4
      go_wp2
      exact bodyPost_ret (v := .tuple #[.slice (some ⟨g, 0, none⟩) l.length cap', .bool true]) (by simp [results, Try.results21, go_sem]) rfl ⟨_, _, _, _, rfl, hB.trans (hb.mono hg), (fun _ => hfin.out), fun e => by cases e⟩
    · have hrk : Hid (rk 0 l = 0) := by show _ = _; rw [h1]; exact rk0_zeros _
      clear h1
      go_wp2
      exact bodyPost_ret (v := .tuple #[.slice none 0 0, .bool false]) (by simp [results, Try.results21, go_sem]) rfl ⟨_, _, _, _, rfl, hB.trans (hb.mono hg), (fun e => by cases e), fun _ => ⟨hrk.out, rfl⟩⟩
set_option maxRecDepth 100000 in
set_option maxHeartbeats 4000000 in
theorem stepsB (l : List Int) (hl99 : l.length ≤ 99) (hbad : Lg l = false) (v : Value) (w : World) (hr : RowI w v l) : Calls Try.prog 9 #[v] w fun e w' => e = .returned (.bool true) ∧ Below w.heap.size w w' := by
  have hn : l.length ≤ 1000 := by omega
  have hRow : Hid (∀ V, Below w.heap.size w V → RowI V v l) := fun V hV => hr.below hV (Nat.le_refl _)
  obtain ⟨oa, ca, rfl⟩ := hr.shapeQ
  have hC0 : Hid (Ch [w] w) := (Ch.mk (fun u hu => by cases hu) : Ch [] w).cons
  have hrl : Hid (∀ V, Below w.heap.size w V → Calls Try.prog 24 #[.slice oa l.length ca] V fun e w' => e = .returned (.bool false) ∧ w' = V) := fun V hV => by
    have := refLegal l _ V (hRow.out V hV) hn
    rwa [hbad] at this
  clear hr
  go_enter Try.func9, Try.ntmps9
  go_wp2_with fail
  refine (fewS l hl99 _ _ (hRow.out _ (hC0.out.all _ (by simp)))).mono ?_
  rintro e w1 ⟨o1, c1, rfl, hR1, hb1⟩
  have hC1 := hide' (hC0.out.step hb1)
  clear hb1
  have hR1' := hide' hR1
  clear hR1
  go_wp2_with fail
  refine (nextB l _ _ hR1'.out hn hbad).mono ?_
  rintro e w2 ⟨rfl, hw2⟩
  obtain rfl : w1 = w2 := hw2.symm
  go_wp2_with fail
  refine (fewS l hl99 _ _ (hRow.out _ (hC1.out.all _ (by simp)))).mono ?_
  rintro e w3 ⟨o3, c3, rfl, hR3, hb3⟩
  have hC3 := hide' (hC1.out.step hb3)
  clear hb3 hC1
  have hR3' := hide' hR3
  clear hR3
  go_wp2_with fail
  refine (prevB l _ _ hR3'.out hn hbad).mono ?_
  rintro e w4 ⟨rfl, hw4⟩
  obtain rfl : w3 = w4 := hw4.symm
  go_wp2_with fail
  refine (fewS l hl99 _ _ (hRow.out _ (hC3.out.all _ (by simp)))).mono ?_
  rintro e w5 ⟨o5, c5, rfl, hR5, hb5⟩
  have hC5 := hide' (hC3.out.step hb5)
  clear hb5 hC3
  have hR5' := hide' hR5
  clear hR5
  go_wp2_with fail
  refine (rankB l _ _ hR5'.out hn hbad).mono ?_
  rintro e w6 ⟨rfl, hw6⟩
  obtain rfl : w5 = w6 := hw6.symm
  go_wp2_with fail
  refine (fewS l hl99 _ _ (hRow.out _ (hC5.out.all _ (by simp)))).mono ?_
  rintro e w7 ⟨o7, c7, rfl, hR7, hb7⟩
  have hC7 := hide' (hC5.out.step hb7)
  clear hb7 hC5
  have hR7' := hide' hR7
  clear hR7
  go_wp2_with fail
  refine (legalN l _ _ hR7'.out hn hbad).mono ?_
  rintro e w8 ⟨rfl, hw8⟩
  obtain rfl : w7 = w8 := hw8.symm
  go_wp2_with fail
  refine (hrl.out _ (hC7.out.all _ (by simp))).mono ?_
  rintro e w9 ⟨rfl, hw9⟩
  obtain rfl : w7 = w9 := hw9.symm
  go_wp2_with fail
  refine (fewS l hl99 _ _ (hRow.out _ (hC7.out.all _ (by simp)))).mono ?_
  rintro e w10 ⟨o10, c10, rfl, hR10, hb10⟩
  have hC10 := hide' (hC7.out.step hb10)
  clear hb10 hC7
  have hR10' := hide' hR10
  clear hR10
  go_wp2_with fail
  refine (sizeB l _ _ hR10'.out hn hbad).mono ?_
  rintro e w11 ⟨rfl, hw11⟩
  obtain rfl : w10 = w11 := hw11.symm
  go_wp2_with fail
  refine (refSizeB l _ _ (hRow.out _ (hC10.out.all _ (by simp))) hn hbad).mono ?_
  rintro e w12 ⟨rfl, hw12⟩
  obtain rfl : w10 = w12 := hw12.symm
  go_wp2_with fail
  refine (fewS l hl99 _ _ (hRow.out _ (hC10.out.all _ (by simp)))).mono ?_
  rintro e w13 ⟨o13, c13, rfl, hR13, hb13⟩
  have hC13 := hide' (hC10.out.step hb13)
  clear hb13 hC10
  have hR13' := hide' hR13
  clear hR13
  go_wp2_with fail
  refine (blocksB l _ _ hR13'.out hn hbad).mono ?_
  rintro e w14 ⟨rfl, hw14⟩
  obtain rfl : w13 = w14 := hw14.symm
  go_wp2_with fail
  refine (refBlocksB l _ _ (hRow.out _ (hC13.out.all _ (by simp))) hn hbad).mono ?_
  rintro e w15 ⟨rfl, hw15⟩
  obtain rfl : w13 = w15 := hw15.symm
  go_wp2_with fail
  refine (listsT [] _ _ _ (RR.nil _) (RR.nil _) (Nat.zero_le _) (fun l hl => by cases hl)).mono ?_
  rintro e w16 ⟨rfl, hb16⟩
  have hC16 := hide' (hC13.out.step hb16)
  clear hb16 hC13
  go_wp2_with fail
  refine (hrl.out _ (hC16.out.all _ (by simp))).mono ?_
  rintro e w17 ⟨rfl, hw17⟩
  obtain rfl : w16 = w17 := hw17.symm
  go_wp2
  go_ret
  exact ⟨rfl, hC16.out.all _ (by simp)⟩
set_option maxRecDepth 100000 in
set_option maxHeartbeats 4000000 in
theorem stepsG (n : Nat) (m : List Nat) (hm : Leg 0 m) (hmn : m.length = n) (hn25 : n ≤ 25) (oa : Option Addr) (ca : Nat) (w : World) (hr : RowI w (.slice oa n ca) (ints m)) : Calls Try.prog 9 #[.slice oa n ca] w fun e w' => e = .returned (.bool true) ∧ Below w.heap.size w w' := by
  have hRow : Hid (∀ V, Below w.heap.size w V → RowI V (.slice oa n ca) (ints m)) := fun V hV => hr.below hV (Nat.le_refl _)
  have hC0 : Hid (Ch [w] w) := (Ch.mk (fun u hu => by cases hu) : Ch [] w).cons
  have KFw : Hid (∀ V, Below w.heap.size w V → Calls Try.prog 4 #[.slice oa n ca, .int .i64 99] V fun e w' => ∃ o c, e = .returned (.slice o n c) ∧ Hid (RowI w' (.slice o n c) (ints m)) ∧ Below V.heap.size V w') := fun V hV => by
    have := fewS (ints m) (by rw [ints_len]; omega) _ V (hRow.out V hV)
    rw [ints_len, hmn] at this
    exact this
  have KN : Hid (∀ o c V, RowI V (.slice o n c) (ints m) → Calls Try.prog 20 #[.slice o n c] V fun e w' => ∃ oa k cap b, e = .returned (.tuple #[.slice oa k cap, .bool b]) ∧ Hid ((b = true → rk 0 m + 1 < ways n 0 ∧ RowI w' (.slice oa k cap) (ints (rowAt n 0 (rk 0 m + 1)))) ∧ (b = false → ¬ rk 0 m + 1 < ways n 0 ∧ k = 0)) ∧ Below V.heap.size V w') := fun o c V h => by
    refine (nextG m _ V h (by omega) hm).mono ?_
    rintro e w' ⟨oa, k, cap, b, rfl, h1, h2, h3⟩
    rw [hmn] at h2 h3
    exact ⟨oa, k, cap, b, rfl, ⟨h2, h3⟩, h1⟩
  have KP : Hid (∀ o c V, RowI V (.slice o n c) (ints m) → Calls Try.prog 21 #[.slice o n c] V fun e w' => ∃ oa k cap b, e = .returned (.tuple #[.slice oa k cap, .bool b]) ∧ Hid ((b = true → 0 < rk 0 m ∧ RowI w' (.slice oa k cap) (ints (rowAt n 0 (rk 0 m - 1)))) ∧ (b = false → rk 0 m = 0 ∧ k = 0)) ∧ Below V.heap.size V w') := fun o c V h => by
    refine (prevG m _ V h (by omega) hm).mono ?_
    rintro e w' ⟨oa, k, cap, b, rfl, h1, h2, h3⟩
    rw [hmn] at h2
    exact ⟨oa, k, cap, b, rfl, ⟨h2, h3⟩, h1⟩
  have KR : Hid (∀ o c V, RowI V (.slice o n c) (ints m) → Calls Try.prog 22 #[.slice o n c] V fun e w' => e = .returned (.tuple #[.int .u64 ((rk 0 m : Nat) : Int), .int .i64 0]) ∧ Below V.heap.size V w') := fun o c V h => rankP m _ V h (by omega) hm
  have KL : Hid (∀ o c V, RowI V (.slice o n c) (ints m) → Calls Try.prog 23 #[.slice o n c] V fun e w' => e = .returned (.bool true) ∧ w' = V) := fun o c V h => legalT m _ V h (by omega) hm
  have RL : Hid (∀ V, Below w.heap.size w V → Calls Try.prog 24 #[.slice oa n ca] V fun e w' => e = .returned (.bool true) ∧ w' = V) := fun V hV => by
    have := refLegal (ints m) _ V (hRow.out V hV) (by rw [ints_len]; omega)
    rwa [Lg.ints hm (by omega)] at this
  have KS : Hid (∀ o c V, RowI V (.slice o n c) (ints m) → Calls Try.prog 25 #[.slice o n c] V fun e w' => e = .returned (.int .i64 (blks 0 m)) ∧ w' = V) := fun o c V h => sizeT m _ V h (by omega) hm
  have RS : Hid (∀ V, Below w.heap.size w V → Calls Try.prog 26 #[.slice oa n ca] V fun e w' => e = .returned (.int .i64 (blks 0 m)) ∧ w' = V) := fun V hV => refSize m _ V (hRow.out V hV) (by omega) hm
  have KB : Hid (∀ o c V, RowI V (.slice o n c) (ints m) → Calls Try.prog 28 #[.slice o n c] V fun e w' => ∃ gt, e = .returned (.slice (some ⟨gt, 0, none⟩) (blks 0 m) (blks 0 m)) ∧ Hid (RR w' (.slice (some ⟨gt, 0, none⟩) (blks 0 m) (blks 0 m)) (blockL m (blks 0 m))) ∧ Below V.heap.size V w') := fun o c V h => by
    refine (blocksP n (blks 0 m) m _ V h hmn hn25 hm rfl).mono ?_
    rintro e w' ⟨gt, vs, rfl, h1, h2⟩
    exact ⟨gt, rfl, RR.of_tab h1, h2⟩
  have RB : Hid (∀ V, Below w.heap.size w V → Calls Try.prog 29 #[.slice oa n ca] V fun e w' => ∃ oa cap, e = .returned (.slice oa (blks 0 m) cap) ∧ Hid (RR w' (.slice oa (blks 0 m) cap) (blockL m (blks 0 m))) ∧ Below V.heap.size V w') := fun V hV => refBlocks n m _ V (hRow.out V hV) hmn hn25 hm
  have hbl : Hid ((blockL m (blks 0 m)).length ≤ 1000000 ∧ ∀ q ∈ blockL m (blks 0 m), q.length ≤ 1000000) := by
    have h1 := blks_leg hm
    refine ⟨by rw [blockL_len]; omega, fun q hq => ?_⟩
    unfold blockL at hq
    obtain ⟨b, _, rfl⟩ := List.mem_map.1 hq
    have : (plc m b).length ≤ m.length := by
      unfold plc
      refine Nat.le_trans (List.length_filter_le _ _) ?_
      simp
    omega
  have RR1 : Hid (∀ V, Below w.heap.size w V → Calls Try.prog 30 #[.slice oa n ca] V fun e w' => e = .returned (.int .u64 ((rk 0 m : Nat) : Int)) ∧ Below V.heap.size V w') := fun V hV => refRank m _ V (hRow.out V hV) (by omega) hm
  have RBl : Hid (∀ V, Calls Try.prog 17 #[.int .i64 n] V fun e w' => e = .returned (.int .u64 ((ways n 0 : Nat) : Int)) ∧ Below V.heap.size V w') := fun V => refBell n hn25 V
  have RA : Hid (∀ r V, r < ways n 0 → Calls Try.prog 19 #[.int .i64 n, .int .u64 (r : Nat)] V fun e w' => ∃ g, e = .returned (.slice (some ⟨g, 0, none⟩) n n) ∧ Hid (RowI w' (.slice (some ⟨g, 0, none⟩) n n) (ints (rowAt n 0 r))) ∧ Below V.heap.size V w') := fun r V hr => by
    refine (refAt n r hn25 hr V).mono ?_
    rintro e w' ⟨g, rfl, h1, h2⟩
    exact ⟨g, rfl, RowI.of_own h1, h2⟩
  have hrl : rk 0 m < ways n 0 := by have := rk_lt hm; rw [hmn] at this; exact this
  have hws := ways_small (l := n) (b := 0) (by omega)
  have hlen := hide' (fun r => rowAt_len n 0 r)
  have hxr : ((((rk 0 m : Nat) : Int)) != ((rk 0 m : Nat) : Int)) = false := by simp
  have hxb : ((((blks 0 m : Nat) : Int)) != ((blks 0 m : Nat) : Int)) = false := by simp
  clear hr hm hmn
  generalize blockL m (blks 0 m) = Lb at *
  generalize blks 0 m = nb at *
  generalize rk 0 m = r at *
  generalize ways n 0 = bell at *
  generalize ints m = Lm at *
  go_enter Try.func9, Try.ntmps9
  go_wp2_with fail
  refine (KFw.out _ (hC0.out.all _ (by simp))).mono ?_
  rintro e w1 ⟨o1, c1, rfl, hR1, hb1⟩
  have hC1 := hide' (hC0.out.step hb1)
  clear hb1
  go_wp2_with fail
  refine (KN.out _ _ _ hR1.out).mono ?_
  rintro e w2 ⟨on, kn, cn, bn, rfl, hNx, hb2⟩
  have hC2 := hide' (hC1.out.step hb2).cons
  clear hb2 hC1
  go_wp2_with fail
  refine (KFw.out _ (hC2.out.all _ (by simp))).mono ?_
  rintro e w3 ⟨o3, c3, rfl, hR3, hb3⟩
  have hC3 := hide' (hC2.out.step hb3)
  clear hb3 hC2
  go_wp2_with fail
  refine (KP.out _ _ _ hR3.out).mono ?_
  rintro e w4 ⟨op, kp, cp, bp, rfl, hPv, hb4⟩
  have hC4 := hide' (hC3.out.step hb4).cons
  clear hb4 hC3
  go_wp2_with fail
  refine (KFw.out _ (hC4.out.all _ (by simp))).mono ?_
  rintro e w5 ⟨o5, c5, rfl, hR5, hb5⟩
  have hC5 := hide' (hC4.out.step hb5)
  clear hb5 hC4
  go_wp2_with fail
  refine (KR.out _ _ _ hR5.out).mono ?_
  rintro e w6 ⟨rfl, hb6⟩
  have hC6 := hide' (hC5.out.step hb6)
  clear hb6 hC5
  go_wp2_with fail
  refine (KFw.out _ (hC6.out.all _ (by simp))).mono ?_
  rintro e w7 ⟨o7, c7, rfl, hR7, hb7⟩
  have hC7 := hide' (hC6.out.step hb7)
  clear hb7 hC6
  go_wp2_with fail
  refine (KL.out _ _ _ hR7.out).mono ?_
  rintro e w8 ⟨rfl, hw8⟩
  obtain rfl : w7 = w8 := hw8.symm
  go_wp2_with fail
  refine (RL.out _ (hC7.out.all _ (by simp))).mono ?_
  rintro e w9 ⟨rfl, hw9⟩
  obtain rfl : w7 = w9 := hw9.symm
  go_wp2_with fail
  refine (KFw.out _ (hC7.out.all _ (by simp))).mono ?_
  rintro e w10 ⟨o10, c10, rfl, hR10, hb10⟩
  have hC10 := hide' (hC7.out.step hb10)
  clear hb10 hC7
  go_wp2_with fail
  refine (KS.out _ _ _ hR10.out).mono ?_
  rintro e w11 ⟨rfl, hw11⟩
  obtain rfl : w10 = w11 := hw11.symm
  go_wp2_with fail
  refine (RS.out _ (hC10.out.all _ (by simp))).mono ?_
  rintro e w12 ⟨rfl, hw12⟩
  obtain rfl : w10 = w12 := hw12.symm
  go_wp2_with fail
  refine (KFw.out _ (hC10.out.all _ (by simp))).mono ?_
  rintro e w13 ⟨o13, c13, rfl, hR13, hb13⟩
  have hC13 := hide' (hC10.out.step hb13)
  clear hb13 hC10
  go_wp2_with fail
  refine (KB.out _ _ _ hR13.out).mono ?_
  rintro e w14 ⟨gt, rfl, hBk, hb14⟩
  have hC14 := hide' (hC13.out.step hb14).cons
  clear hb14 hC13
  go_wp2_with fail
  refine (RB.out _ (hC14.out.all _ (by simp))).mono ?_
  rintro e w15 ⟨ob, cb, rfl, hBr, hb15⟩
  have hC15 := hide' (hC14.out.step hb15)
  clear hb15 hC14
  go_wp2_with fail
  refine (listsT Lb _ _ _ (hBk.out.below (hC15.out.all _ (by simp)) (Nat.le_refl _)) hBr.out hbl.out.1 hbl.out.2).mono ?_
  rintro e w16 ⟨rfl, hb16⟩
  have hC16 := hide' (hC15.out.step hb16)
  clear hb16 hC15
  clear hBk hBr hbl KB RB KS RS KL
  go_wp2_with fail
  refine (RL.out _ (hC16.out.all _ (by simp))).mono ?_
  rintro e w17 ⟨rfl, hw17⟩
  obtain rfl : w16 = w17 := hw17.symm
  go_wp2_with fail
  refine (RR1.out _ (hC16.out.all _ (by simp))).mono ?_
  rintro e w18 ⟨rfl, hb18⟩
  have hC18 := hide' (hC16.out.step hb18)
  clear hb18 hC16
  clear KFw KN KP KR RL RR1
  cases bn <;> cases bp
  · have hrn : ¬ r + 1 < bell := (hNx.out.2 rfl).1
    have hrnI : ¬ (r : Int) + 1 < (bell : Int) := by omega
    have hrnd : decide ((r : Int) + 1 < (bell : Int)) = false := decide_eq_false hrnI
    have hk0 := (hNx.out.2 rfl).2
    subst hk0
    have hrp := (hPv.out.2 rfl).1
    have hrp0 := (hPv.out.2 rfl).2
    subst hrp
    subst hrp0
    have hrpI : ¬ (0 : Int) < ((0 : Nat) : Int) := by omega
    clear hNx hPv RA
    go_wp2_with fail
    refine (RBl.out _).mono ?_
    rintro e w19 ⟨rfl, hb19⟩
    have hC19 := hide' (hC18.out.step hb19)
    clear hb19 hC18
    go_wp2
    go_ret
    exact ⟨rfl, hC19.out.all _ (by simp)⟩
  · have hrn : ¬ r + 1 < bell := (hNx.out.2 rfl).1
    have hrnI : ¬ (r : Int) + 1 < (bell : Int) := by omega
    have hrnd : decide ((r : Int) + 1 < (bell : Int)) = false := decide_eq_false hrnI
    have hk0 := (hNx.out.2 rfl).2
    subst hk0
    have hrp : 0 < r := (hPv.out.1 rfl).1
    have hrpI : (0 : Int) < (r : Int) := by omega
    have hPr := hide' (hPv.out.1 rfl).2
    have RA2 := hide' (fun V => RA.out (r - 1) V (by omega))
    rw [show ((r - 1 : Nat) : Int) = (r : Int) - 1 by omega] at RA2
    have hL2 := hide' (hlen.out (r - 1))
    generalize rowAt n 0 (r - 1) = X2 at *
    clear hNx hPv RA
    go_wp2_with fail
    refine (RBl.out _).mono ?_
    rintro e w19 ⟨rfl, hb19⟩
    have hC19 := hide' (hC18.out.step hb19)
    clear hb19 hC18
    go_wp2_with fail
    refine (RA2.out _).mono ?_
    rintro e w20 ⟨g20, rfl, hX20, hb20⟩
    have hC20 := hide' (hC19.out.step hb20)
    clear hb20 hC19
    go_wp2_with fail
    refine (keepT (ints X2) _ _ _ (hPr.out.below (hC20.out.all _ (by simp)) (Nat.le_refl _)) hX20.out (by rw [ints_len, hL2.out]; omega)).mono ?_
    rintro e w21 ⟨rfl, hb21⟩
    have hC21 := hide' (hC20.out.step hb21)
    clear hb21 hC20
    go_wp2
    go_ret
    exact ⟨rfl, hC21.out.all _ (by simp)⟩
  · have hrn : r + 1 < bell := (hNx.out.1 rfl).1
    have hrnI : (r : Int) + 1 < (bell : Int) := by omega
    have hNr := hide' (hNx.out.1 rfl).2
    have RA1 := hide' (fun V => RA.out (r + 1) V hrn)
    rw [show ((r + 1 : Nat) : Int) = (r : Int) + 1 by omega] at RA1
    have hL1 := hide' (hlen.out (r + 1))
    generalize rowAt n 0 (r + 1) = X1 at *
    have hrp := (hPv.out.2 rfl).1
    have hrp0 := (hPv.out.2 rfl).2
    subst hrp
    subst hrp0
    have hrpI : ¬ (0 : Int) < ((0 : Nat) : Int) := by omega
    clear hNx hPv RA
    go_wp2_with fail
    refine (RBl.out _).mono ?_
    rintro e w19 ⟨rfl, hb19⟩
    have hC19 := hide' (hC18.out.step hb19)
    clear hb19 hC18
    go_wp2_with fail
    refine (RA1.out _).mono ?_
    rintro e w20 ⟨g20, rfl, hX20, hb20⟩
    have hC20 := hide' (hC19.out.step hb20)
    clear hb20 hC19
    go_wp2_with fail
    refine (keepT (ints X1) _ _ _ (hNr.out.below (hC20.out.all _ (by simp)) (Nat.le_refl _)) hX20.out (by rw [ints_len, hL1.out]; omega)).mono ?_
    rintro e w21 ⟨rfl, hb21⟩
    have hC21 := hide' (hC20.out.step hb21)
    clear hb21 hC20
    go_wp2
    go_ret
    exact ⟨rfl, hC21.out.all _ (by simp)⟩
  · have hrn : r + 1 < bell := (hNx.out.1 rfl).1
    have hrnI : (r : Int) + 1 < (bell : Int) := by omega
    have hNr := hide' (hNx.out.1 rfl).2
    have RA1 := hide' (fun V => RA.out (r + 1) V hrn)
    rw [show ((r + 1 : Nat) : Int) = (r : Int) + 1 by omega] at RA1
    have hL1 := hide' (hlen.out (r + 1))
    generalize rowAt n 0 (r + 1) = X1 at *
    have hrp : 0 < r := (hPv.out.1 rfl).1
    have hrpI : (0 : Int) < (r : Int) := by omega
    have hPr := hide' (hPv.out.1 rfl).2
    have RA2 := hide' (fun V => RA.out (r - 1) V (by omega))
    rw [show ((r - 1 : Nat) : Int) = (r : Int) - 1 by omega] at RA2
    have hL2 := hide' (hlen.out (r - 1))
    generalize rowAt n 0 (r - 1) = X2 at *
    clear hNx hPv RA
    go_wp2_with fail
    refine (RBl.out _).mono ?_
    rintro e w19 ⟨rfl, hb19⟩
    have hC19 := hide' (hC18.out.step hb19)
    clear hb19 hC18
    go_wp2_with fail
    refine (RA1.out _).mono ?_
    rintro e w20 ⟨g20, rfl, hX20, hb20⟩
    have hC20 := hide' (hC19.out.step hb20)
    clear hb20 hC19
    go_wp2_with fail
    refine (keepT (ints X1) _ _ _ (hNr.out.below (hC20.out.all _ (by simp)) (Nat.le_refl _)) hX20.out (by rw [ints_len, hL1.out]; omega)).mono ?_
    rintro e w21 ⟨rfl, hb21⟩
    have hC21 := hide' (hC20.out.step hb21)
    clear hb21 hC20
    go_wp2_with fail
    refine (RA2.out _).mono ?_
    rintro e w22 ⟨g22, rfl, hX22, hb22⟩
    have hC22 := hide' (hC21.out.step hb22)
    clear hb22 hC21
    go_wp2_with fail
    refine (keepT (ints X2) _ _ _ (hPr.out.below (hC22.out.all _ (by simp)) (Nat.le_refl _)) hX22.out (by rw [ints_len, hL2.out]; omega)).mono ?_
    rintro e w23 ⟨rfl, hb23⟩
    have hC23 := hide' (hC22.out.step hb23)
    clear hb23 hC22
    go_wp2
    go_ret
    exact ⟨rfl, hC23.out.all _ (by simp)⟩
end Go.Proofs.Ytagkopmegfmhaaa

/- turns.Pop; container/heap's Push and Pop over turns. -/
import Derived.Test.YtbpojobmenagkaaDoorVPush
namespace Go.Proofs.YtbpojobmenagkaaDoor
open Go.RowKit
theorem Fz.trans {a : Nat} {rowv : Value} {w w1 w2 : World} (h : Fz a rowv w w1) (k : Fz a rowv w1 w2) : Fz a rowv w w2 :=
  ⟨k.1.trans h.1, k.2.1.trans h.2.1, k.2.2.1.trans h.2.2.1, Nat.le_trans h.2.2.2.1 k.2.2.2.1, fun q hq ha hr => (k.2.2.2.2 q (Nat.lt_of_lt_of_le hq h.2.2.2.1) ha hr).trans (h.2.2.2.2 q hq ha hr)⟩
theorem owns_short2 {w : World} {n g cap : Nat} {f : Nat → Ent} (h : TH w (n + 1) f (.slice (some ⟨g, 0, none⟩) (n + 1) cap)) : TH w n f (.slice (some ⟨g, 0, none⟩) n cap) := by
  unfold TH at *
  rcases h.2 with ⟨h', _⟩ | ⟨g', cap', cur, h', hb, hg, hnc, hcm, hcs, htake⟩
  · simp at h'
  · simp only [Value.slice.injEq, Option.some.injEq, Addr.mk.injEq, and_true, true_and] at h'
    obtain ⟨rfl, rfl⟩ := h'
    refine ⟨by rw [prs_len]; omega, .inr ⟨g, cap, cur, rfl, hb, hg, by omega, hcm, hcs, ?_⟩⟩
    rw [← prs_take f n, ← htake, List.take_take, Nat.min_eq_left (by omega)]
    congr 1
    omega
set_option maxRecDepth 100000 in
set_option maxHeartbeats 4000000 in
theorem popT (a n g cap : Nat) (f : Nat → Ent) (hn : n ≤ 900) (w : World) (H : TH w (n + 1) f (.slice (some ⟨g, 0, none⟩) (n + 1) cap)) (hb : TB w a (.slice (some ⟨g, 0, none⟩) (n + 1) cap)) :
    Calls Tryd.prog 75 #[.pointer (some ⟨a, 0, none⟩)] w fun e w' => e = .returned (.iface 60 (.agg #[.int .i64 (f n).tm, .int .i64 (f n).turn])) ∧ TH w' n f (.slice (some ⟨g, 0, none⟩) n cap) ∧ TB w' a (.slice (some ⟨g, 0, none⟩) n cap) ∧ w.grownBy w' (some a) := by
  have c0 := hb.c0
  have f0 := hb.fz
  have cn : w.cell? ⟨g, n * 2, none⟩ = some (.int .i64 (f n).tm) := by rw [World.ownsRow.cellAt H (n * 2) (by omega)]; exact prs_tm f (by omega)
  have cn' : w.cell? ⟨g, n * 2 + 1, none⟩ = some (.int .i64 (f n).turn) := by rw [World.ownsRow.cellAt H (n * 2 + 1) (by omega)]; exact prs_turn f (by omega)
  have hga : g ≠ a := fun e => TB.far H hb (by rw [e]; rfl)
  have hlt := hb.lt
  have hcap : n + 1 ≤ cap := by
    rcases H.2 with ⟨h', _⟩ | ⟨g', cap', cur, h', _, _, hnc, _⟩
    · simp at h'
    · simp only [Value.slice.injEq] at h'; omega
  have hX : Hid (∀ o, TH ((w.setCell ⟨a, 0, none⟩ (.slice (some ⟨g, 0, none⟩) n cap)).alloc o) n f (.slice (some ⟨g, 0, none⟩) n cap) ∧ TB ((w.setCell ⟨a, 0, none⟩ (.slice (some ⟨g, 0, none⟩) n cap)).alloc o) a (.slice (some ⟨g, 0, none⟩) n cap) ∧ w.grownBy ((w.setCell ⟨a, 0, none⟩ (.slice (some ⟨g, 0, none⟩) n cap)).alloc o) (some a) ∧ TB (w.alloc o) a (.slice (some ⟨g, 0, none⟩) (n + 1) cap)) := fun o => by
    have h1 := owns_short2 H
    have h3 : TH (w.setCell ⟨a, 0, none⟩ (.slice (some ⟨g, 0, none⟩) n cap)) n f (.slice (some ⟨g, 0, none⟩) n cap) := by
      unfold TH at *
      refine ⟨h1.1, ?_⟩
      rcases h1.2 with ⟨hn1, _⟩ | ⟨g', cap', cur, e1, hb0, hgg, rest⟩
      · cases hn1
      · refine .inr ⟨g', cap', cur, e1, hb0, ?_, rest⟩
        cases e1
        rw [Below.heap_setCell _ _ _ _ hga]; exact hgg
    have h4 := hb.s0 (.slice (some ⟨g, 0, none⟩) n cap)
    have hB := (Below.refl _ (w.setCell ⟨a, 0, none⟩ (.slice (some ⟨g, 0, none⟩) n cap))).alloc (Nat.le_refl _) o
    refine ⟨TH.below h3 hB, h4.same (hB.block _ h4.lt), ⟨rfl, rfl, rfl, by simp [World.setCell], fun k hk hne => ?_⟩, hb.same (Below.heap_alloc _ _ _ hlt)⟩
    rw [Below.heap_alloc _ _ _ (by simp [World.setCell]; exact hk), Below.heap_setCell _ _ _ _ (fun e => hne (by rw [e]))]
  have hsl : ¬ cap < n := by omega
  generalize (f n).tm = xt at *
  generalize (f n).turn = xn at *
  have hY := hX.out (.cells #[.int .i64 xt, .int .i64 xn] 60)
  have cX := hY.2.2.2.c0
  have fX := hY.2.2.2.fz
  have hY' := hide' hY
  clear H hb hX hY
  go_enter Tryd.func75, Tryd.ntmps75
  go_wp2
  go_ret
  exact ⟨rfl, hY'.out.1, hY'.out.2.1, hY'.out.2.2.1⟩
set_option maxRecDepth 100000 in
set_option maxHeartbeats 4000000 in
theorem pushHT (a n : Nat) (rowv : Value) (f : Nat → Ent) (e : Ent) (hn : n ≤ 900) (w : World) (H : TH w n f rowv) (hH : IsHeap f n) (hb : TB w a rowv) :
    Calls Tryd.prog 18 #[.iface 50 (.pointer (some ⟨a, 0, none⟩)), .iface 60 (.agg #[.int .i64 e.tm, .int .i64 e.turn])] w fun e' w' => e' = .returned (.tuple #[]) ∧ ∃ g cap f', TH w' (n + 1) f' (.slice (some ⟨g, 0, none⟩) (n + 1) cap) ∧ TB w' a (.slice (some ⟨g, 0, none⟩) (n + 1) cap) ∧ IsHeap f' (n + 1) ∧ SameE (n + 1) (addE f n e) f' ∧ (rowv.ownBlock = some g ∨ w.heap.size ≤ g) ∧ Fz a rowv w w' := by
  have KP := hide' (pushT a n rowv f e hn w H hb)
  have hU : Hid (UpAt (addE f n e) (n + 1) n) := up_start (hH.congr fun k hk => addE_o f e (by omega))
  have e0 := mPush (209 - 1) (.pointer (some ⟨a, 0, none⟩)) w
  clear H hH hb
  go_enter Tryd.func18, Tryd.ntmps18
  go_wp2_with (first | (go_at_call 76; refine KP.out.mono ?_; rintro e' w1 ⟨rfl, g, cap, H1, B1, hg1, M1⟩; have H1' := hide' H1; have B1' := hide' B1; have M1' := hide' M1; have hg1' := hide' hg1; have e1 := mLen (209 - 1) a (some ⟨g, 0, none⟩) (n + 1) cap w1 B1.c0; have KU := hide' (upH a (n + 1) (n + 1) n g cap (addE f n e) (by omega) (Nat.le_refl _) (by omega) w1 H1 hU.out B1.c0 (fun x => TB.far H1 B1 (by rw [x]; rfl))); clear H1 B1 M1 hg1) | (go_at_call 21; refine (lenT _ _ _ _).mono ?_; rintro e' w2 ⟨rfl, hw2⟩; obtain rfl : w1 = w2 := hw2.symm) | (go_at_call 39; refine KU.out.mono ?_; rintro e' w3 ⟨rfl, h3, H3, hH3, hS3, _, M3⟩; have H3' := hide' H3; have hH3' := hide' hH3; have hS3' := hide' hS3; have M3' := hide' M3; clear H3 hH3 hS3 M3))
  first | go_end0 | refine bodyPost_ret (results_none rfl _ _ _) rfl ?_
  have hag : a ≠ g := fun x => TB.far H1'.out B1'.out (by rw [x]; rfl)
  refine ⟨rfl, g, cap, h3, H3'.out, B1'.out.same (M3'.out.block a B1'.out.lt (fun x => hag (by cases x; rfl))), hH3'.out, hS3'.out, hg1'.out, ?_⟩
  have hM := M1'.out
  refine ⟨M3'.out.os.trans hM.1, M3'.out.tape.trans hM.2.1, M3'.out.output.trans hM.2.2.1, Nat.le_trans hM.2.2.2.1 M3'.out.size, fun k hk ha hr => ?_⟩
  rw [M3'.out.block k (Nat.lt_of_lt_of_le hk hM.2.2.2.1) (fun x => ?_)]
  · exact hM.2.2.2.2 k hk ha hr
  · cases x
    rcases hg1'.out with y | y
    · exact hr y
    · omega
set_option maxRecDepth 100000 in
set_option maxHeartbeats 4000000 in
theorem down0T (a : Nat) (w : World) :
    Calls Tryd.prog 43 #[.iface 50 (.pointer (some ⟨a, 0, none⟩)), .int .i64 0, .int .i64 0] w fun e w' => e = .returned (.bool false) ∧ w' = w := by
  go_enter Tryd.func43, Tryd.ntmps43
  go_wp2
  refine wp_loop_rounds 1 ?_
  rw [rounds_succ]
  go_wp2
  go_ret
  exact ⟨rfl, rfl⟩
theorem downT (a n g cap : Nat) (f : Nat → Ent) (hn : n ≤ 900) (w : World) (H : TH w (n + 1) (swF f 0 n) (.slice (some ⟨g, 0, none⟩) (n + 1) cap)) (hH : IsHeap f (n + 1)) (hb : TB w a (.slice (some ⟨g, 0, none⟩) (n + 1) cap)) :
    Calls Tryd.prog 43 #[.iface 50 (.pointer (some ⟨a, 0, none⟩)), .int .i64 0, .int .i64 (n : Int)] w fun e w' => ∃ b, e = .returned (.bool b) ∧ ∃ f', Hid (TH w' (n + 1) f' (.slice (some ⟨g, 0, none⟩) (n + 1) cap)) ∧ Hid (SameE (n + 1) (swF f 0 n) f' ∧ f' n = f 0 ∧ IsHeap f' n) ∧ w.grownBy w' (some g) := by
  by_cases h0 : n = 0
  · subst h0
    refine (down0T a w).mono ?_
    rintro e w' ⟨rfl, rfl⟩
    exact ⟨_, rfl, swF f 0 0, H, ⟨SameE.refl _ _, swF_i f 0 0, fun k k0 hk => by omega⟩, World.grownBy.refl _ _⟩
  · refine (downH a (n + 1) n 0 g cap (swF f 0 n) (by omega) (by omega) (by omega) w H (dw_start hH (by omega)) hb.c0 (fun x => TB.far H hb (by rw [x]; rfl))).mono ?_
    rintro e w' ⟨b, rfl, f', H', hS, hT, hD, hM⟩
    refine ⟨b, rfl, f', H', ⟨hS, ?_, ?_⟩, hM⟩
    · rw [hT n (Nat.le_refl _), swF_j]
    · cases b with
      | true => exact hD.1 rfl
      | false => exact up_done (hD.2 rfl) (.inl rfl)
set_option maxRecDepth 100000 in
set_option maxHeartbeats 4000000 in
theorem popHT (a n g cap : Nat) (f : Nat → Ent) (hn : n ≤ 900) (w : World) (H : TH w (n + 1) f (.slice (some ⟨g, 0, none⟩) (n + 1) cap)) (hH : IsHeap f (n + 1)) (hb : TB w a (.slice (some ⟨g, 0, none⟩) (n + 1) cap)) :
    Calls Tryd.prog 22 #[.iface 50 (.pointer (some ⟨a, 0, none⟩))] w fun e w' => e = .returned (.iface 60 (.agg #[.int .i64 (f 0).tm, .int .i64 (f 0).turn])) ∧ ∃ f', Hid (TH w' n f' (.slice (some ⟨g, 0, none⟩) n cap)) ∧ Hid (TB w' a (.slice (some ⟨g, 0, none⟩) n cap)) ∧ Hid (SameE (n + 1) f f' ∧ f' n = f 0 ∧ IsHeap f' n) ∧ Hid (Fz a (.slice (some ⟨g, 0, none⟩) (n + 1) cap) w w') := by
  have hag : a ≠ g := fun x => TB.far H hb (by rw [x]; rfl)
  have e1 := mLen (209 - 1) a (some ⟨g, 0, none⟩) (n + 1) cap w hb.c0
  have e2 := mSwap (209 - 1) a (some ⟨g, 0, none⟩) (n + 1) cap w hb.c0
  have KS := hide' (swapT (n + 1) f 0 n (by omega) (by omega) (by omega) g cap w H)
  have hb' := hide' hb
  have hH' := hide' hH
  have hlt := hb.lt
  clear H hH hb
  go_enter Tryd.func22, Tryd.ntmps22
  go_wp2_with (first | (go_at_call 21; refine (lenT _ _ _ _).mono ?_; rintro e' w2 ⟨rfl, hw2⟩; obtain rfl : w = w2 := hw2.symm) | (go_at_call 77; refine KS.out.mono ?_; rintro e' w3 ⟨rfl, H3, M3⟩; have M3' := hide' M3; have B3 := hide' (hb'.out.same (M3.block a hlt (fun x => hag (by cases x; rfl)))); have KD := hide' (downT a n g cap f hn w3 H3 hH'.out B3.out); clear M3) | (go_at_call 43; refine KD.out.mono ?_; rintro e' w4 ⟨b4, rfl, f', H4, hS4, M4⟩; have M4' := hide' M4; have B4 := hide' (B3.out.same (M4.block a B3.out.lt (fun x => hag (by cases x; rfl)))); have e3 := mPop (209 - 1) (.pointer (some ⟨a, 0, none⟩)) w4; have KP := hide' (popT a n g cap f' hn w4 H4 B4.out); clear M4) | (go_at_call 75; refine KP.out.mono ?_; rintro e' w5 ⟨rfl, H5, B5, M5⟩; have H5' := hide' H5; have B5' := hide' B5; have M5' := hide' M5; clear H5 B5 M5))
  go_ret
  refine ⟨by rw [← hS4.out.2.1]; rfl, f', H5', B5', ⟨(SameE.sw f (by omega) (by omega)).trans hS4.out.1, hS4.out.2.1, hS4.out.2.2⟩, ?_⟩
  refine ⟨M5'.out.os.trans (M4'.out.os.trans M3'.out.os), M5'.out.tape.trans (M4'.out.tape.trans M3'.out.tape), M5'.out.output.trans (M4'.out.output.trans M3'.out.output), Nat.le_trans M3'.out.size (Nat.le_trans M4'.out.size M5'.out.size), fun k hk ha hr => ?_⟩
  have hkg : some k ≠ some g := fun x => hr (by show some g = some k; exact x.symm)
  rw [M5'.out.block k (Nat.lt_of_lt_of_le hk (Nat.le_trans M3'.out.size M4'.out.size)) (fun x => ha (by cases x; rfl)), M4'.out.block k (Nat.lt_of_lt_of_le hk M3'.out.size) hkg, M3'.out.block k hk hkg]
end Go.Proofs.YtbpojobmenagkaaDoor

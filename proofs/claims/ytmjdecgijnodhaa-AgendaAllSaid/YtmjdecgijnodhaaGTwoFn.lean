/- two: two pairs of agendas, empty. -/
import Derived.Test.YtmjdecgijnodhaaGTwo
import Derived.Deep.WholeRow
namespace Go.Proofs.Ytmjdecgijnodhaa
open Go.RowKit Go.Maps
theorem zeroT (w : World) : (zeroValue 27).run Try.prog w = .ok (.agg #[.pointer none, .pointer none, .pointer none, .pointer none]) w := by kernel_rfl
theorem twoA_start {w : World} {la : Nat} {f : Nat → Value} (hr : w.rowIs la 27 4 f) : TwoA w w la w.heap.size 0 (fun _ => 0) (fun _ => 0) (fun _ _ => False) (fun _ => .pointer none) (fun _ => []) (fun _ => 0) :=
  ⟨Mv.refl _ _, Nat.le_refl _, ⟨f, hr, fun k hk => by omega⟩, fun k hk => by omega, fun k hk => by omega, fun j k hj => by omega⟩
theorem sa_new {W w1 : World} (h1 : AgS w1 (W.heap.size + 1) (fun k => W.heap.size ≤ k ∧ k < W.heap.size + 2) (fun _ => False) 0 0) : Sa (w1.alloc (.cells #[.slice none 0 0] 43)) (W.heap.size + 1) w1.heap.size (fun k => W.heap.size ≤ k ∧ k < W.heap.size + 2) (.slice none 0 0) [] 0 := by
  have hb1 := (Below.refl _ w1).alloc (Nat.le_refl _) (.cells #[.slice none 0 0] 43)
  have hs : W.heap.size + 1 < w1.heap.size := h1.ltk (k := W.heap.size + 1) ⟨by omega, by omega⟩
  refine ⟨(h1.below hb1).congrS (fun x => by simp) rfl, ⟨Deep.blk_alloc_new _ _, World.ownsRow_nil _ _ _ _, by simp [Value.ownBlock], by simp⟩, Ti.nil, fun e => by omega, fun g eg => by cases eg⟩
/-- What two leaves. -/
def TwoPost (w : World) (e : Ending) (w' : World) : Prop :=
  ∃ p0 r0 p1 r1 Fs vs Ms ss, e = .returned (.tuple #[.agg #[.pointer (some ⟨p0, 0, none⟩), .pointer (some ⟨r0, 0, none⟩), .pointer (some ⟨p1, 0, none⟩), .pointer (some ⟨r1, 0, none⟩)], .bool true]) ∧ Below w.heap.size w w' ∧ ∃ wa la B, w.heap.size ≤ B ∧ TwoA wa w' la B 2 (fun k => if k = 0 then p0 else p1) (fun k => if k = 0 then r0 else r1) Fs vs Ms ss ∧ ∀ k, k < 2 → ss k = 0
theorem TwoA.congr2 {w W : World} {la B : Nat} {ps rs : Nat → Nat} {Fs : Nat → Nat → Prop} {vs : Nat → Value} {Ms : Nat → List Ent} {ss : Nat → Nat} (h : TwoA w W la B 2 ps rs Fs vs Ms ss) : TwoA w W la B 2 (fun k => if k = 0 then ps 0 else ps 1) (fun k => if k = 0 then rs 0 else rs 1) Fs vs Ms ss := by
  have e1 : ∀ k, k < 2 → (if k = 0 then ps 0 else ps 1) = ps k := fun k hk => by
    match k, hk with
    | 0, _ => rfl
    | 1, _ => rfl
  have e2 : ∀ k, k < 2 → (if k = 0 then rs 0 else rs 1) = rs k := fun k hk => by
    match k, hk with
    | 0, _ => rfl
    | 1, _ => rfl
  obtain ⟨f, hf, he⟩ := h.arr
  exact ⟨h.mv, h.hB, ⟨f, hf, fun k hk => by rw [e1 k hk, e2 k hk]; exact he k hk⟩, fun k hk => by rw [e1 k hk, e2 k hk]; exact h.sa k hk, fun k hk => by rw [e2 k hk]; exact h.far k hk, fun j k hj hk hjk => by rw [e2 j hj, e2 k hk]; exact h.sep j k hj hk hjk⟩
set_option maxRecDepth 100000 in
set_option maxHeartbeats 8000000 in
theorem twoFn (w : World) : Calls Try.prog 4 #[] w (TwoPost w) := by
  have z0 := zeroT
  go_enter Try.func4, Try.ntmps4
  go_upto_block 0 with fail
  have hBw : Below w.heap.size w ((w.alloc (.cells #[.pointer none, .pointer none, .pointer none, .pointer none] 27)).alloc (.cells #[.pointer none, .pointer none, .pointer none, .pointer none] 27)) := ((Below.refl _ w).alloc (Nat.le_refl _) _).alloc (by simp) _
  have hr0 : (w.alloc (.cells #[.pointer none, .pointer none, .pointer none, .pointer none] 27)).rowIs w.heap.size 27 4 (fun _ => .pointer none) := World.rowIs_alloc w #[.pointer none, .pointer none, .pointer none, .pointer none] _ _ (fun i hi => by
    match i, hi with
    | 0, _ => rfl
    | 1, _ => rfl
    | 2, _ => rfl
    | 3, _ => rfl)
  have hrc := hr0.alloc (.cells #[.pointer none, .pointer none, .pointer none, .pointer none] 27)
  have hrl : ((w.alloc (.cells #[.pointer none, .pointer none, .pointer none, .pointer none] 27)).alloc (.cells #[.pointer none, .pointer none, .pointer none, .pointer none] 27)).rowIs (w.heap.size + 1) 27 4 (fun _ => .pointer none) := by
    have := World.rowIs_alloc (w.alloc (.cells #[.pointer none, .pointer none, .pointer none, .pointer none] 27)) #[.pointer none, .pointer none, .pointer none, .pointer none] 27 (fun _ => .pointer none) (fun i hi => by
      match i, hi with
      | 0, _ => rfl
      | 1, _ => rfl
      | 2, _ => rfl
      | 3, _ => rfl)
    rwa [World.size_alloc] at this
  have hsz : ((w.alloc (.cells #[.pointer none, .pointer none, .pointer none, .pointer none] 27)).alloc (.cells #[.pointer none, .pointer none, .pointer none, .pointer none] 27)).heap.size = w.heap.size + 2 := by simp
  have hT0 := twoA_start hrl
  have hT0' := hide' hT0
  have hBw' := hide' hBw
  have hrc' := hide' hrc
  have hsz' := hide' hsz
  clear hr0 hrl hrc hT0 hBw hsz z0
  generalize ((w.alloc (.cells #[.pointer none, .pointer none, .pointer none, .pointer none] 27)).alloc (.cells #[.pointer none, .pointer none, .pointer none, .pointer none] 27)) = W1 at *
  generalize hla : w.heap.size + 1 = la at *
  have hla' := hide' hla
  clear hla
  go_cut [3] from 4 to 19 (fun s wx => ∃ ps rs Fs vs Ms ss, Hid (TwoA W1 wx la W1.heap.size 2 ps rs Fs vs Ms ss ∧ ∀ k, k < 2 → ss k = 0))
  case first =>
    as_aux_lemma =>
    go_wp2_with fail
    go_loopw [3] (fun k wr => ∃ (n : Nat) (ps rs : Nat → Nat) (Fs : Nat → Nat → Prop) (vs : Nat → Value) (Ms : Nat → List Ent) (ss : Nat → Nat), n ≤ 2 ∧ k = .int .i64 n ∧ Hid (TwoA W1 wr la W1.heap.size n ps rs Fs vs Ms ss ∧ ∀ k, k < n → ss k = 0)) (fun k _ => (2 - intOf k).toNat)
    case atStart => exact ⟨0, _, _, _, _, _, _, by omega, rfl, hT0'.out, fun k hk => by omega⟩
    case round =>
      clear hT0'
      obtain ⟨n, ps, rs, Fs, vs, Ms, ss, hn, rfl, hT⟩ := hrel
      by_cases hlt : n < 2
      · have KN := hide' (newA wr)
        have hll := hT.out.1.lt
        obtain ⟨f, hf, _⟩ := hT.out.1.arr
        have hf' := hide' hf
        clear hf
        go_wp2_with fail
        refine KN.out.mono ?_
        rintro e w1 ⟨rfl, hr1, hb1⟩
        have hS1 := hide' (sa_new hr1)
        have hB2 : Hid (Below wr.heap.size wr (w1.alloc (.cells #[.slice none 0 0] 43))) := hb1.alloc hb1.size _
        have hT2 := hide' (hT.out.1.add hlt hB2.out (fun g hg => hg.1) hb1.size hS1.out)
        have hss : Hid (∀ k, k < n + 1 → up ss n 0 k = 0) := fun k hk => by
          by_cases e : k = n
          · subst e; exact up_same _ _ _
          · rw [up_other _ _ e]; exact hT.out.2 k (by omega)
        have hrow2 := hf'.out.of_block (hB2.out.block la hll)
        have f1 := hrow2.frozen (n * 2)
        have f2 := hrow2.frozen (n * 2 + 1)
        have hln : n * 2 < 4 := by omega
        have hln1 : n * 2 + 1 < 4 := by omega
        have c1 := hrow2.cell hln
        have c2 := hrow2.cell hln1
        clear hr1 hb1 hrow2 KN hS1 hB2 hf'
        go_wp2
        exact ⟨⟨n + 1, _, _, _, _, _, _, by omega, by go_num, hT2.out, hss.out⟩, by simp [intOf]; omega⟩
      · obtain rfl : n = 2 := by omega
        go_wp2
        go_meet
        exact ⟨ps, rs, Fs, vs, Ms, ss, hT⟩
  case rest =>
  as_aux_lemma =>
  clear hT0'
  obtain ⟨ps, rs, Fs, vs, Ms, ss, hT⟩ := hcut
  obtain ⟨f, hf, hfe⟩ := hT.out.1.arr
  have e0 := hfe 0 (by omega)
  have e1 := hfe 1 (by omega)
  have hcc : Hid (∀ V : World, Below wc.heap.size wc V → (V.cell? ⟨la, 0, none⟩ = some (.pointer (some ⟨ps 0, 0, none⟩)) ∧ V.cell? ⟨la, 1, none⟩ = some (.pointer (some ⟨rs 0, 0, none⟩)) ∧ V.cell? ⟨la, 2, none⟩ = some (.pointer (some ⟨ps 1, 0, none⟩)) ∧ V.cell? ⟨la, 3, none⟩ = some (.pointer (some ⟨rs 1, 0, none⟩))) ∧ V.rowIs w.heap.size 27 4 (fun _ => .pointer none)) := fun V hV => by
    have hf2 := hf.of_block (hV.block la hf.lt)
    have c0 := hf2.cell (i := 0) (by omega)
    have c1 := hf2.cell (i := 1) (by omega)
    have c2 := hf2.cell (i := 2) (by omega)
    have c3 := hf2.cell (i := 3) (by omega)
    rw [e0.1] at c0
    rw [e0.2] at c1
    rw [e1.1] at c2
    rw [e1.2] at c3
    refine ⟨⟨c0, c1, c2, c3⟩, ?_⟩
    have hlt := hrc'.out.lt
    have hmv := hT.out.1.mv
    refine (hrc'.out.of_block (hmv.block w.heap.size hlt (by have := hla'.out; have := hsz'.out; omega))).of_block (hV.block w.heap.size (Nat.lt_of_lt_of_le hlt hmv.size))
  obtain ⟨⟨c0, c1, c2, c3⟩, hz0⟩ := hcc.out wc.drew ((Below.refl _ _).drew)
  have KW := hide' (wakes4 wc.drew)
  have hfd : Hid (∀ V : World, Below wc.heap.size wc V → TwoPost w (.returned (.tuple #[.agg #[.pointer (some ⟨ps 0, 0, none⟩), .pointer (some ⟨rs 0, 0, none⟩), .pointer (some ⟨ps 1, 0, none⟩), .pointer (some ⟨rs 1, 0, none⟩)], .bool true])) ((((V.setCell ⟨w.heap.size, 0, none⟩ (.pointer (some ⟨ps 0, 0, none⟩))).setCell ⟨w.heap.size, 1, none⟩ (.pointer (some ⟨rs 0, 0, none⟩))).setCell ⟨w.heap.size, 2, none⟩ (.pointer (some ⟨ps 1, 0, none⟩))).setCell ⟨w.heap.size, 3, none⟩ (.pointer (some ⟨rs 1, 0, none⟩)))) := fun V hV => by
    obtain ⟨_, hz⟩ := hcc.out V hV
    have hT2 := hT.out.1.over hV
    have hMs : Mv (fun g => g = w.heap.size) V ((((V.setCell ⟨w.heap.size, 0, none⟩ (.pointer (some ⟨ps 0, 0, none⟩))).setCell ⟨w.heap.size, 1, none⟩ (.pointer (some ⟨rs 0, 0, none⟩))).setCell ⟨w.heap.size, 2, none⟩ (.pointer (some ⟨ps 1, 0, none⟩))).setCell ⟨w.heap.size, 3, none⟩ (.pointer (some ⟨rs 1, 0, none⟩))) := (((Mv.setCell (F := fun g => g = w.heap.size) _ rfl (.inl (ne_rowIs hz (by decide)))).trans (Mv.setCell (F := fun g => g = w.heap.size) _ rfl (.inl ((ne_rowIs hz (by decide)).setCell _ _))) (fun _ _ e => e)).trans (Mv.setCell (F := fun g => g = w.heap.size) _ rfl (.inl (((ne_rowIs hz (by decide)).setCell _ _).setCell _ _))) (fun _ _ e => e)).trans (Mv.setCell (F := fun g => g = w.heap.size) _ rfl (.inl ((((ne_rowIs hz (by decide)).setCell _ _).setCell _ _).setCell _ _))) (fun _ _ e => e)
    have hset := ((((hz.set 0 (.pointer (some ⟨ps 0, 0, none⟩))).set 1 (.pointer (some ⟨rs 0, 0, none⟩))).set 2 (.pointer (some ⟨ps 1, 0, none⟩))).set 3 (.pointer (some ⟨rs 1, 0, none⟩)))
    have hall : Mv (fun g => g = w.heap.size ∨ w.heap.size ≤ g) w ((((V.setCell ⟨w.heap.size, 0, none⟩ (.pointer (some ⟨ps 0, 0, none⟩))).setCell ⟨w.heap.size, 1, none⟩ (.pointer (some ⟨rs 0, 0, none⟩))).setCell ⟨w.heap.size, 2, none⟩ (.pointer (some ⟨ps 1, 0, none⟩))).setCell ⟨w.heap.size, 3, none⟩ (.pointer (some ⟨rs 1, 0, none⟩))) := ((Mv.below (F := fun g => g = w.heap.size ∨ w.heap.size ≤ g) hBw'.out).trans hT2.mv (fun g hg e => .inr (by have := hla'.out; have := hsz'.out; omega))).trans hMs (fun _ _ e => .inl e)
    refine ⟨ps 0, rs 0, ps 1, rs 1, Fs, vs, Ms, ss, rfl, hall.toBelow (fun k e => by omega) (Nat.le_refl _), w, w.heap.size, w.heap.size, Nat.le_refl _, ?_, hT.out.2⟩
    refine (hT2.move hall hMs (by have := hsz'.out; omega) hset (fun k hk => ?_) (.inl (by have := hsz'.out; omega))).congr2
    match k, hk with
    | 0, _ => exact ⟨by simp, by simp⟩
    | 1, _ => exact ⟨by simp, by simp⟩
  have f0 := hz0.frozen 0
  have f1 := hz0.frozen 1
  have f2 := hz0.frozen 2
  have f3 := hz0.frozen 3
  have d0 := hz0.cell (i := 0) (by omega)
  have d1 := hz0.cell (i := 1) (by omega)
  have d2 := hz0.cell (i := 2) (by omega)
  have d3 := hz0.cell (i := 3) (by omega)
  clear hf hfe e0 e1 hrc' hT
  generalize ps 0 = p0 at *
  generalize ps 1 = p1 at *
  generalize rs 0 = r0 at *
  generalize rs 1 = r1 at *
  go_wp2
  go_region_with (go_at_call 9; refine (wakes4 _).mono ?_; rintro e w5 ⟨rfl, hb5⟩; obtain ⟨⟨j0, j1, j2, j3⟩, hz5⟩ := hcc.out w5 (((Below.refl _ wc).drew).trans hb5); have g0 := hz5.frozen 0; have g1 := hz5.frozen 1; have g2 := hz5.frozen 2; have g3 := hz5.frozen 3; have i0 := hz5.cell (i := 0) (by omega); have i1 := hz5.cell (i := 1) (by omega); have i2 := hz5.cell (i := 2) (by omega); have i3 := hz5.cell (i := 3) (by omega))
  all_goals go_wp2
  all_goals
    have s0 := (((hz5.set 0 (.pointer (some ⟨p0, 0, none⟩))).set 1 (.pointer (some ⟨r0, 0, none⟩))).set 2 (.pointer (some ⟨p1, 0, none⟩))).set 3 (.pointer (some ⟨r1, 0, none⟩))
    have k0 := s0.cell (i := 0) (by omega)
    have k1 := s0.cell (i := 1) (by omega)
    have k2 := s0.cell (i := 2) (by omega)
    have k3 := s0.cell (i := 3) (by omega)
    simp at k0 k1 k2 k3
    refine bodyPost_ret (v := .tuple #[.agg #[.pointer (some ⟨p0, 0, none⟩), .pointer (some ⟨r0, 0, none⟩), .pointer (some ⟨p1, 0, none⟩), .pointer (some ⟨r1, 0, none⟩)], .bool true]) ?_ rfl (hfd.out w5 (((Below.refl _ wc).drew).trans hb5))
    simp [results, Try.results4, go_sem, Act.put, k0, k1, k2, k3]
end Go.Proofs.Ytmjdecgijnodhaa

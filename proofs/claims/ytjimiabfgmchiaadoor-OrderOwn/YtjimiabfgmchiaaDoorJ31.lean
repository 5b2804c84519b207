/- Book.Lists: it takes lists in, one by one. -/
import Derived.Test.YtjimiabfgmchiaaDoorJ28
import Derived.Test.YtjimiabfgmchiaaDoorJ30
import Derived.Deep.RegionHeld3
namespace Go.Proofs.YtjimiabfgmchiaaDoor.K
open Go.RowKit
theorem Bk.below {w w' : World} {b : Nat} {tag : Nat → Nat} {ov ow : Value} {m : Nat} {vs us : List Value} {rows : Nat → List Int} {N : Nat} (h : Bk w b tag ov ow m vs us rows N) (hB : Below w.heap.size w w') : Bk w' b tag ov ow m vs us rows N := by
  have s : Sm (fun _ => False) tag w w' := Sm.below hB
  exact ⟨h.box.mv s (fun x => x), h.bt, h.live.mv s (fun x => x) (fun _ _ x => x), h.want.mv s (fun x => x) (fun _ _ x => x), fun g hg => h.fresh g (Nat.le_trans hB.size hg), h.hN, h.hrow⟩
set_option maxHeartbeats 1000000 in
theorem lookBytes0 (b : Value) (w : World) : Calls Tryd.prog 60 #[b, .slice none 0 0] w fun e w' => e = .returned (.bool true) ∧ w' = w := by
  go_enter Tryd.func60, Tryd.ntmps60
  go_wp2
  go_loop [5] (fun i => i = .int .i64 0) (fun _ => 0)
  case atStart => rfl
  case round =>
    obtain rfl := hrel
    go_wp2
    go_ret
    exact ⟨rfl, rfl⟩
set_option maxHeartbeats 1000000 in
theorem lookTexts0 (b : Value) (w : World) : Calls Tryd.prog 63 #[b, .slice none 0 0] w fun e w' => e = .returned (.bool true) ∧ w' = w := by
  go_enter Tryd.func63, Tryd.ntmps63
  go_wp2
  go_loop [5] (fun i => i = .int .i64 0) (fun _ => 0)
  case atStart => rfl
  case round =>
    obtain rfl := hrel
    go_wp2
    go_ret
    exact ⟨rfl, rfl⟩
set_option maxRecDepth 100000 in
set_option maxHeartbeats 4000000 in
theorem closeBytes0 (b : Nat) (w : World) (ov ow o1 om : Value) (N : Int) (hb : BoxB w b ov ow o1 om N) : Calls Tryd.prog 43 #[.pointer (some ⟨b, 0, none⟩)] w fun e w' => e = .returned (.bool true) ∧ w' = w := by
  have c0 := hb.c0
  have c2 := hb.c2
  have c3 := hb.c3
  have K := hide' (lookBytes0 (.pointer (some ⟨b, 0, none⟩)) w)
  clear hb
  go_enter Tryd.func43, Tryd.ntmps43
  go_wp2
  go_loop [3] (fun i => i = .int .i64 0) (fun _ => 0)
  case atStart => rfl
  case round =>
    obtain rfl := hrel
    go_wp2
    go_loop [5] (fun i => i = .int .i64 0) (fun _ => 0)
    case atStart => rfl
    case round =>
      obtain rfl := hrel
      go_wp2_with (go_at_call 60; refine K.out.mono ?_; rintro e w7 ⟨rfl, hw7⟩; obtain rfl : w = w7 := hw7.symm)
      go_loop [8] (fun i => i = .int .i64 0) (fun _ => 0)
      case atStart => rfl
      case round =>
        obtain rfl := hrel
        go_wp2_with (go_at_call 60; refine K.out.mono ?_; rintro e w7 ⟨rfl, hw7⟩; obtain rfl : w = w7 := hw7.symm)
        go_ret
        exact ⟨rfl, rfl⟩
set_option maxRecDepth 100000 in
set_option maxHeartbeats 4000000 in
theorem closeTexts0 (b : Nat) (w : World) (ov ow o1 om : Value) (N : Int) (hb : BoxB w b ov ow o1 om N) : Calls Tryd.prog 45 #[.pointer (some ⟨b, 0, none⟩)] w fun e w' => e = .returned (.bool true) ∧ w' = w := by
  have c0 := hb.c8
  have c2 := hb.c10
  have c3 := hb.c11
  have K := hide' (lookTexts0 (.pointer (some ⟨b, 0, none⟩)) w)
  clear hb
  go_enter Tryd.func45, Tryd.ntmps45
  go_wp2
  go_loop [3] (fun i => i = .int .i64 0) (fun _ => 0)
  case atStart => rfl
  case round =>
    obtain rfl := hrel
    go_wp2
    go_loop [5] (fun i => i = .int .i64 0) (fun _ => 0)
    case atStart => rfl
    case round =>
      obtain rfl := hrel
      go_wp2_with (go_at_call 63; refine K.out.mono ?_; rintro e w7 ⟨rfl, hw7⟩; obtain rfl : w = w7 := hw7.symm)
      go_loop [8] (fun i => i = .int .i64 0) (fun _ => 0)
      case atStart => rfl
      case round =>
        obtain rfl := hrel
        go_wp2_with (go_at_call 63; refine K.out.mono ?_; rintro e w7 ⟨rfl, hw7⟩; obtain rfl : w = w7 := hw7.symm)
        go_ret
        exact ⟨rfl, rfl⟩
theorem cell_over {W W' : World} {b o : Nat} {v : Value} (h : W.cell? ⟨b, o, none⟩ = some v) (hb : Below W.heap.size W W') : W'.cell? ⟨b, o, none⟩ = some v := (hb.cell (p := ⟨b, o, none⟩) (cell_lt h)).trans h
theorem keep4 {W0 W w1 : World} {b1 b2 b3 b4 o1 o2 o3 o4 : Nat} {u1 u2 u3 u4 : Value} (h : W.cell? ⟨b1, o1, none⟩ = some u1 ∧ W.cell? ⟨b2, o2, none⟩ = some u2 ∧ W.cell? ⟨b3, o3, none⟩ = some u3 ∧ W.cell? ⟨b4, o4, none⟩ = some u4 ∧ Below W0.heap.size W0 W) (hb : Below W.heap.size W w1) :
    w1.cell? ⟨b1, o1, none⟩ = some u1 ∧ w1.cell? ⟨b2, o2, none⟩ = some u2 ∧ w1.cell? ⟨b3, o3, none⟩ = some u3 ∧ w1.cell? ⟨b4, o4, none⟩ = some u4 ∧ Below W0.heap.size W0 w1 :=
  ⟨cell_over h.1 hb, cell_over h.2.1 hb, cell_over h.2.2.1 hb, cell_over h.2.2.2.1 hb, h.2.2.2.2.trans (hb.mono h.2.2.2.2.size)⟩
set_option maxRecDepth 100000 in
set_option maxHeartbeats 4000000 in
theorem stands (b : Nat) (tag : Nat → Nat) (w : World) (ov ow : Value) (m : Nat) (vs us : List Value) (rows : Nat → List Int) (N : Nat) (hk : Bk w b tag ov ow m vs us rows N) :
    Calls Tryd.prog 42 #[.pointer (some ⟨b, 0, none⟩)] w fun e w' => e = .returned (.bool true) ∧ Below w.heap.size w w' := by
  have hm : m ≤ 1300000 := by have := hk.hN; omega
  have c0 := hk.box.c0
  obtain ⟨oa, cap, rfl⟩ := own_shape hk.live.outer
  obtain ⟨ob, cb, rfl⟩ := own_shape hk.want.outer
  have hk' := hide' hk
  clear hk
  go_enter Tryd.func42, Tryd.ntmps42
  go_wp2
  go_loop [3] (fun i => i = .int .i64 0) (fun _ => 0)
  case atStart => rfl
  case round =>
    obtain rfl := hrel
    go_wp2
    go_loopw [4] (fun i wr => ∃ (c : Nat), c ≤ m ∧ i = .int .i64 c ∧ Below w.heap.size w wr) (fun i _ => ((m : Int) - intOf i).toNat)
    case atStart => exact ⟨0, Nat.zero_le _, rfl, Below.refl _ _⟩
    case round =>
      clear c0
      obtain ⟨c, hc, rfl, hB⟩ := hrel
      have hkr := hk'.out.below hB
      have c4 := hkr.box.c4
      by_cases hlt : c < m
      · have c5 := hkr.box.c5
        obtain ⟨g, cap2, e, _, _⟩ := hkr.live.outer.form (by omega)
        obtain ⟨rfl, rfl⟩ : oa = some ⟨g, 0, none⟩ ∧ cap = cap2 := by injection e with h1 h2 h3; exact ⟨h1, h3⟩
        obtain ⟨g1, cap3, e1, _, _⟩ := hkr.want.outer.form (by omega)
        obtain ⟨rfl, rfl⟩ : ob = some ⟨g1, 0, none⟩ ∧ cb = cap3 := by injection e1 with h1 h2 h3; exact ⟨h1, h3⟩
        obtain ⟨v, hv⟩ : ∃ v, vs[c]? = some v := ⟨_, List.getElem?_eq_getElem (by rw [hkr.live.len]; exact hlt)⟩
        obtain ⟨u, hu⟩ : ∃ u, us[c]? = some u := ⟨_, List.getElem?_eq_getElem (by rw [hkr.want.len]; exact hlt)⟩
        have cv : wr.cell? ⟨g, c, none⟩ = some v := by rw [hkr.live.outer.cellAt c (by omega)]; exact hv
        have cu : wr.cell? ⟨g1, c, none⟩ = some u := by rw [hkr.want.outer.cellAt c (by omega)]; exact hu
        have r1 := RowI.of_owns (hkr.live.inner c v hv)
        have r2 := RowI.of_owns (hkr.want.inner c u hu)
        have hl := hkr.hrow c hlt
        have KI : Hid (∀ W, Below wr.heap.size wr W → Calls Tryd.prog 40 #[v, u] W fun e w' => e = .returned (.bool true) ∧ Below W.heap.size W w') := fun W hW => by
          have := keepInts (rows c) (rows c) v u W (r1.below hW (Nat.le_refl _)) (r2.below hW (Nat.le_refl _)) hl hl
          simpa using this
        have hB' := hide' hB
        have hi0 : Hid (wr.drew.cell? ⟨b, 4, none⟩ = some (.slice (some ⟨g, 0, none⟩) m cap) ∧ wr.drew.cell? ⟨b, 5, none⟩ = some (.slice (some ⟨g1, 0, none⟩) m cb) ∧ wr.drew.cell? ⟨g, c, none⟩ = some v ∧ wr.drew.cell? ⟨g1, c, none⟩ = some u ∧ Below wr.heap.size wr wr.drew) := ⟨c4, c5, cv, cu, (Below.refl _ _).drew⟩
        clear hkr e e1 hv hu r1 r2 hl hB
        go_wp2
        go_region_held3 (fun V => V.cell? ⟨b, 4, none⟩ = some (.slice (some ⟨g, 0, none⟩) m cap) ∧ V.cell? ⟨b, 5, none⟩ = some (.slice (some ⟨g1, 0, none⟩) m cb) ∧ V.cell? ⟨g, c, none⟩ = some v ∧ V.cell? ⟨g1, c, none⟩ = some u ∧ Below wr.heap.size wr V) (first | (exact keep4 (by assumption) hb) | (exact keep4 hi0.out hb) | (exact hi0.out)) (first | (go_at_call 40; refine (KI.out _ (by first | exact ‹_ ∧ _ ∧ _ ∧ _ ∧ _›.2.2.2.2 | exact (Below.refl _ _).drew)).mono ?_; rintro e w7 ⟨rfl, hb⟩))
        go_wp2
        exact ⟨⟨c + 1, by omega, by go_num, hB'.out.trans (‹_ ∧ _ ∧ _ ∧ _ ∧ Below wr.heap.size wr w7›.2.2.2.2.mono hB'.out.size)⟩, by simp [intOf]; omega⟩
      · have c8 := hkr.box.c8
        clear hkr
        go_wp2
        go_loop [5] (fun i => i = .int .i64 0) (fun _ => 0)
        case atStart => rfl
        case round =>
          obtain rfl := hrel
          go_wp2
          go_ret
          exact ⟨rfl, hB⟩
set_option maxRecDepth 100000 in
set_option maxHeartbeats 2000000 in
theorem bookClose (b : Nat) (tag : Nat → Nat) (w : World) (hk : Book w b tag) :
    Calls Tryd.prog 14 #[.pointer (some ⟨b, 0, none⟩)] w fun e w' => e = .returned (.bool true) ∧ Sm (· ≠ 0) tag w w' := by
  obtain ⟨ov, ow, m, vs, us, rows, N, hk⟩ := hk
  have K1 := hide' (stands b tag w ov ow m vs us rows N hk)
  have K2 : Hid (∀ W, Below w.heap.size w W → Calls Tryd.prog 43 #[.pointer (some ⟨b, 0, none⟩)] W fun e w' => e = .returned (.bool true) ∧ w' = W) := fun W hW => closeBytes0 b W _ _ _ _ _ (hk.below hW).box
  have K3 : Hid (∀ W, Below w.heap.size w W → Calls Tryd.prog 44 #[.pointer (some ⟨b, 0, none⟩)] W fun e w' => e = .returned (.bool true) ∧ (∃ o1 om, BoxB w' b ov ow o1 om N) ∧ Sm (· ≠ 0) tag W w') := fun W hW => closeInts b tag W _ _ _ _ _ _ _ (hk.below hW)
  have K4 : Hid (∀ W, (∃ o1 om, BoxB W b ov ow o1 om N) → Calls Tryd.prog 45 #[.pointer (some ⟨b, 0, none⟩)] W fun e w' => e = .returned (.bool true) ∧ w' = W) := fun W ⟨o1, om, hW⟩ => closeTexts0 b W _ _ _ _ _ hW
  clear hk
  go_enter Tryd.func14, Tryd.ntmps14
  go_wp2_with (first | (go_at_call 42; refine K1.out.mono ?_; rintro e w1 ⟨rfl, hb1⟩; have hb1' := hide' hb1; clear hb1) | (go_at_call 43; refine (K2.out _ hb1'.out).mono ?_; rintro e w2 ⟨rfl, hw2⟩; obtain rfl : w1 = w2 := hw2.symm) | (go_at_call 44; refine (K3.out _ hb1'.out).mono ?_; rintro e w3 ⟨rfl, hbx, hs⟩; have hbx' := hide' hbx; have hs' := hide' hs; clear hbx hs) | (go_at_call 45; refine (K4.out _ hbx'.out).mono ?_; rintro e w4 ⟨rfl, hw4⟩; obtain rfl : w3 = w4 := hw4.symm))
  go_ret
  exact ⟨rfl, (Sm.below hb1'.out).trans hs'.out (fun _ _ => rfl)⟩
end Go.Proofs.YtjimiabfgmchiaaDoor.K
namespace Go.Proofs.YtjimiabfgmchiaaDoor.K
open Go.RowKit
set_option maxRecDepth 100000 in
set_option maxHeartbeats 4000000 in
theorem bookInts (b : Nat) (tag : Nat → Nat) (v : Value) (l : List Int) (w : World) (hB : Book w b tag) (hv : w.ownsRow 0 3 1 v l.length (cellsI l)) (hl : l.length ≤ 1000000) (hvt : ∀ g, v.ownBlock = some g → tag g = 0) :
    Calls Tryd.prog 11 #[.pointer (some ⟨b, 0, none⟩), v] w fun e w' => e = .returned (.tuple #[]) ∧ ∃ tag', Book w' b tag' ∧ Fr tag v w tag' w' := by
  obtain ⟨iI, hiI, hzI0, hzI1, hzI2⟩ := info_parts infoI
  obtain ⟨iL, hiL, hzL0, hzL1, hzL2⟩ := info_parts infoL
  obtain ⟨ov, ow, m, vs, us, rows, N, hbx, hbt, hlive, hwant, hfresh, ⟨hN1, hN2⟩, hrow⟩ := hB
  have hlt := hbx.lt
  have c12 := hbx.c12
  have f12 := hbx.fz 12
  have KF := hide' (bookFull b N w c12)
  have hv' := hide' hv
  have hvt' := hide' hvt
  have hlive' := hide' hlive
  have hwant' := hide' hwant
  have hbx' := hide' hbx
  have h1v := hide' (own_one hv)
  obtain ⟨oa, cap, rfl⟩ := own_shape hv
  clear hv hlive hwant hbx
  by_cases hfull : 200000 < N
  · have hd : decide (200000 < N) = true := by simpa using hfull
    rw [hd] at KF
    go_enter Tryd.func11, Tryd.ntmps11
    go_wp2_with (go_at_call 38; refine KF.out.mono ?_; rintro e w1 ⟨rfl, rfl⟩)
    first | go_end0 | refine bodyPost_ret (results_none rfl _ _ _) rfl ?_
    exact ⟨rfl, tag, ⟨_, _, _, _, _, _, _, hbx'.out, hbt, hlive'.out, hwant'.out, hfresh, ⟨hN1, hN2⟩, hrow⟩, ⟨rfl, rfl, rfl, Nat.le_refl _, fun _ _ h _ => h, fun _ _ _ _ => rfl⟩⟩
  · have hd : decide (200000 < N) = false := by simpa using hfull
    rw [hd] at KF
    have hbk : Hid (Bk w b tag ov ow m vs us rows N) := ⟨hbx'.out, hbt, hlive'.out, hwant'.out, hfresh, ⟨hN1, hN2⟩, hrow⟩
    have hb1 := hide' (hbx'.out.s12 (N + l.length + 1))
    have S1 : Hid (Sm (· = 1) tag w (w.setCell ⟨b, 12, none⟩ (.int .i64 (N + l.length + 1)))) := Sm.setCell _ hbt
    have c4 := hb1.out.c4
    have hO1 := hide' ((hlive'.out.mv S1.out (by decide) (fun j _ => by omega)).outer.alloc (.cells #[.slice oa l.length cap] 24))
    have hnb := hide' (World.news_of_block (cs := #[.slice oa l.length cap]) (B := w.heap.size) (by have := heap_new (w.setCell ⟨b, 12, none⟩ (.int .i64 (N + l.length + 1))) (.cells #[.slice oa l.length cap] 24); rwa [size_set] at this))
    clear hbx' hlive' hwant' S1 hfresh hrow hd hvt
    go_enter Tryd.func11, Tryd.ntmps11
    go_wp2_with (first | (go_at_call 38; refine KF.out.mono ?_; rintro e w1 ⟨rfl, hw1⟩; obtain rfl : w = w1 := hw1.symm) | (at_builtin; go_loud (refine wpList_append_two _ rfl _ _ 38 rfl 0 24 iL (.slice none 0 0) 1 24 Tryd.underlying38 hiL hzL0 hzL1 hzL2 rfl (by decide) ov m vs rfl hO1.out ⟨w.heap.size, 0, none⟩ 1 1 [.slice oa l.length cap] rfl rfl hnb.out (by simpa using h1v.out) (by decide) (by unfold maxLen; omega) (by omega) (Nat.zero_le _) ?_); intro g2 cap2 w2 hnew2 hold2 hat2; have hb2 := hide' (boxA hbk.out hat2); have c42 := hb2.out.c4; have f42 := hb2.out.fz 4))
    obtain ⟨tag2, rows2, hrm, hHB, hFr, hv3⟩ := stageA hbk.out (by omega) hv'.out hl hvt'.out hnew2 hold2 hat2
    generalize w2.setCell ⟨b, 4, none⟩ (.slice (some ⟨g2, 0, none⟩) (m + 1) cap2) = W3 at *
    have hHB' := hide' hHB
    have hFr' := hide' hFr
    have hv3' := hide' hv3
    have hrm' := hide' hrm
    have c5 := hHB.box.c5
    have hbs := hHB.box.lt
    have hm1 := hHB.hN
    clear hHB hFr hv3 hrm hbk hb1 c4 hO1 hnb hb2 c42 f42 hnew2 hold2 hat2 hv' KF c12 f12 hlt
    have cV := hide' (fun V (h : Below W3.heap.size W3 V) => (boxW hHB'.out h).c5)
    have B0 : Hid (Below W3.heap.size W3 W3.drew) := (Below.refl _ _).drew
    have B1 : Hid (Below W3.heap.size W3 (W3.drew.alloc (.cells #[] 3))) := B0.out.alloc (Nat.le_refl _) _
    have c5a := cV.out _ B0.out
    have c5b := cV.out _ B1.out
    have hZ := hide' (owns_zero W3.drew W3.heap.size (Nat.le_refl _) 3)
    have hR := hide' ((RowI.of_owns hv3'.out).below B1.out (Nat.le_refl _))
    refine wp_region_held_drew (S := (fun _ => True)) (by kernel_rfl) ?_ (fun hHeld => ?_)
    · trivial
    refine wpAnyH_take (i := 0) (oi := { dst := some 27, op := Op.move (Operand.tmp 0), type := 36, pos := "keep.go:39", after := #[], guard := none }) (v := ?_) rfl (by kernel_rfl) (by kernel_rfl) (by kernel_rfl) (fun _ _ _ h => h) (Or.inl ⟨by rfl, ?_⟩) (by assumption) ?_
    rotate_left
    · intro w hSw; (try dsimp only at hSw); go_simp <;> with_reducible rfl
    simp only [Act.put, List.setIfInBounds_toArray, List.set_cons_zero, List.set_cons_succ]
    refine wpAnyH_take (i := 1) (oi := { dst := some 28, op := Op.move (Operand.tmp 0), type := 36, pos := "keep.go:39", after := #[], guard := none }) (v := ?_) rfl (by kernel_rfl) (by kernel_rfl) (by kernel_rfl) (fun _ _ _ h => h) (Or.inl ⟨by rfl, ?_⟩) (by assumption) ?_
    rotate_left
    · intro w hSw; (try dsimp only at hSw); go_simp <;> with_reducible rfl
    simp only [Act.put, List.setIfInBounds_toArray, List.set_cons_zero, List.set_cons_succ]
    refine wpAnyH_take (i := 2) (oi := { dst := some 29, op := Op.nilCheck (Operand.tmp 28), type := 0, pos := "keep.go:39", after := #[{ on := 1, ground := Ground.data }], guard := none }) (v := ?_) rfl (by kernel_rfl) (by kernel_rfl) (by kernel_rfl) (fun _ _ _ h => h) (Or.inl ⟨by rfl, ?_⟩) (by assumption) ?_
    rotate_left
    · intro w hSw; (try dsimp only at hSw); go_simp <;> with_reducible rfl
    simp only [Act.put, List.setIfInBounds_toArray, List.set_cons_zero, List.set_cons_succ]
    refine wpAnyH_take (i := 3) (oi := { dst := some 30, op := Op.fieldAddr 41 (Operand.tmp 29) 5, type := 0, pos := "keep.go:39", after := #[{ on := 2, ground := Ground.data }], guard := none }) (v := ?_) rfl (by kernel_rfl) (by kernel_rfl) (by kernel_rfl) (fun _ _ _ h => h) (Or.inl ⟨by rfl, ?_⟩) (by assumption) ?_
    rotate_left
    · intro w hSw; (try dsimp only at hSw); go_simp <;> with_reducible rfl
    simp only [Act.put, List.setIfInBounds_toArray, List.set_cons_zero, List.set_cons_succ]
    refine wpAnyH_take (i := 6) (oi := { dst := some 33, op := Op.move (Operand.tmp 1), type := 24, pos := "keep.go:39", after := #[], guard := none }) (v := ?_) rfl (by kernel_rfl) (by kernel_rfl) (by kernel_rfl) (fun _ _ _ h => h) (Or.inl ⟨by rfl, ?_⟩) (by assumption) ?_
    rotate_left
    · intro w hSw; (try dsimp only at hSw); go_simp <;> with_reducible rfl
    simp only [Act.put, List.setIfInBounds_toArray, List.set_cons_zero, List.set_cons_succ]
    refine wpAnyH_ready (rs := [4, 5]) (by kernel_rfl) (by simp) ?_
    refine AllReadyH.cons (o := { dst := some 31, op := Op.load 38 (Operand.tmp 30), type := 38, pos := "keep.go:39", after := #[{ on := 3, ground := Ground.data }], guard := none }) rfl (fun K hK => ?_) ?_
    · skip
      go_simp
      refine hK.out _ _ ?_ (fun hHeld => ?_)
      · trivial
      clear hK K
      try simp only [Act.put, List.setIfInBounds_toArray, List.set_cons_zero, List.set_cons_succ]
      refine wpAnyH_ready (rs := [5]) (by kernel_rfl) (by simp) ?_
      refine AllReadyH.cons (o := { dst := some 32, op := Op.buildSlice 24 0 #[], type := 24, pos := "keep.go:39", after := #[], guard := none }) rfl (fun K hK => ?_) AllReadyH.nil
      go_simp
      refine hK.out _ _ ?_ (fun hHeld => ?_)
      · trivial
      clear hK K
      try simp only [Act.put, List.setIfInBounds_toArray, List.set_cons_zero, List.set_cons_succ]
      refine wpAnyH_ready (rs := [7]) (by kernel_rfl) (by simp) ?_
      refine AllReadyH.cons (o := { dst := some 34, op := Op.call { callee := Callee.builtin Builtin.append, args := #[Operand.tmp 32, Operand.tmp 33], argTypes := #[24, 24] }, type := 24, pos := "keep.go:39", after := #[{ on := 5, ground := Ground.data }, { on := 6, ground := Ground.data }], guard := none }) rfl (fun K hK => ?_) AllReadyH.nil
      rw [if_pos (by rfl)]
      refine wp_copyZ _ (.tmp 32) (.tmp 33) W3.heap.size (.slice oa l.length cap) l rfl rfl hZ.out rfl hR.out hl ?_; intro u w4 hu4 hg4; obtain ⟨ou, cu, rfl⟩ := own_shape hu4; have hB4 := hide' (B1.out.grown hg4 (by simp) (fun j ej => by cases ej; exact Nat.le_refl _)); have c5c := cV.out _ hB4.out; have B5 : Hid (Below W3.heap.size W3 (w4.alloc (.cells #[.slice ou l.length cu] 24))) := hB4.out.alloc hB4.out.size _; have c5d := cV.out _ B5.out; have h1u := hide' (own_one hu4); have hu4' := hide' hu4; have hO5 := hide' (outW hHB'.out B5.out); clear hu4 hg4; (try dsimp only)
      refine hK.out _ _ ?_ (fun hHeld => ?_)
      · trivial
      clear hK K
      try simp only [Act.put, List.setIfInBounds_toArray, List.set_cons_zero, List.set_cons_succ]
      refine wpAnyH_ready (rs := [8]) (by kernel_rfl) (by simp) ?_
      refine AllReadyH.cons (o := { dst := some 35, op := Op.buildSlice 38 1 #[(0, Operand.tmp 34)], type := 38, pos := "keep.go:39", after := #[{ on := 7, ground := Ground.data }], guard := none }) rfl (fun K hK => ?_) AllReadyH.nil
      go_simp
      refine hK.out _ _ ?_ (fun hHeld => ?_)
      · trivial
      clear hK K
      try simp only [Act.put, List.setIfInBounds_toArray, List.set_cons_zero, List.set_cons_succ]
      refine wpAnyH_ready (rs := [9]) (by kernel_rfl) (by simp) ?_
      refine AllReadyH.cons (o := { dst := some 36, op := Op.call { callee := Callee.builtin Builtin.append, args := #[Operand.tmp 31, Operand.tmp 35], argTypes := #[38, 38] }, type := 38, pos := "keep.go:39", after := #[{ on := 4, ground := Ground.data }, { on := 8, ground := Ground.data }, { on := 7, ground := Ground.chain }], guard := none }) rfl (fun K hK => ?_) AllReadyH.nil
      rw [if_pos (by rfl)]
      refine wp_append_two _ (.tmp 31) (.tmp 35) 38 rfl 0 24 iL (.slice none 0 0) 1 24 Tryd.underlying38 hiL hzL0 hzL1 hzL2 rfl (by decide) ow m us rfl hO5.out ⟨w4.heap.size, 0, none⟩ 1 1 [.slice ou l.length cu] rfl rfl (cell_one_new _ _ _) (by simpa using h1u.out) (by decide) (by unfold maxLen; omega) (by omega) (Nat.zero_le _) ?_; intro g5 cap5 w5 hnew5 hold5 hat5; have hb5 := hide' (boxE hHB'.out hB4.out hat5); have c5f := hb5.out.c5; have f5f := hb5.out.fz 5; (try dsimp only)
      refine hK.out _ _ ?_ (fun hHeld => ?_)
      · trivial
      clear hK K
      try simp only [Act.put, List.setIfInBounds_toArray, List.set_cons_zero, List.set_cons_succ]
      refine wpAnyH_take (i := 10) (oi := { dst := some 37, op := Op.nilCheck (Operand.tmp 27), type := 0, pos := "keep.go:39", after := #[{ on := 0, ground := Ground.data }, { on := 0, ground := Ground.phase }, { on := 1, ground := Ground.phase }, { on := 2, ground := Ground.phase }, { on := 3, ground := Ground.phase }, { on := 4, ground := Ground.phase }, { on := 5, ground := Ground.phase }, { on := 6, ground := Ground.phase }, { on := 7, ground := Ground.phase }, { on := 8, ground := Ground.phase }, { on := 9, ground := Ground.phase }], guard := none }) (v := ?_) rfl (by kernel_rfl) (by kernel_rfl) (by kernel_rfl) (fun _ _ _ h => h) (Or.inl ⟨by rfl, ?_⟩) (by assumption) ?_
      rotate_left
      · intro w hSw; (try dsimp only at hSw); go_simp <;> with_reducible rfl
      simp only [Act.put, List.setIfInBounds_toArray, List.set_cons_zero, List.set_cons_succ]
      refine wpAnyH_take (i := 11) (oi := { dst := some 38, op := Op.fieldAddr 41 (Operand.tmp 37) 5, type := 0, pos := "keep.go:39", after := #[{ on := 10, ground := Ground.data }, { on := 0, ground := Ground.phase }, { on := 1, ground := Ground.phase }, { on := 2, ground := Ground.phase }, { on := 3, ground := Ground.phase }, { on := 4, ground := Ground.phase }, { on := 5, ground := Ground.phase }, { on := 6, ground := Ground.phase }, { on := 7, ground := Ground.phase }, { on := 8, ground := Ground.phase }, { on := 9, ground := Ground.phase }], guard := none }) (v := ?_) rfl (by kernel_rfl) (by kernel_rfl) (by kernel_rfl) (fun _ _ _ h => h) (Or.inl ⟨by rfl, ?_⟩) (by assumption) ?_
      rotate_left
      · intro w hSw; (try dsimp only at hSw); go_simp <;> with_reducible rfl
      simp only [Act.put, List.setIfInBounds_toArray, List.set_cons_zero, List.set_cons_succ]
      refine wpAnyH_ready (rs := [12]) (by kernel_rfl) (by simp) ?_
      refine AllReadyH.cons (o := { dst := none, op := Op.store 38 (Operand.tmp 38) (Operand.tmp 36), type := 0, pos := "keep.go:39", after := #[{ on := 11, ground := Ground.data }, { on := 9, ground := Ground.data }, { on := 9, ground := Ground.chain }, { on := 0, ground := Ground.phase }, { on := 1, ground := Ground.phase }, { on := 2, ground := Ground.phase }, { on := 3, ground := Ground.phase }, { on := 4, ground := Ground.phase }, { on := 5, ground := Ground.phase }, { on := 6, ground := Ground.phase }, { on := 7, ground := Ground.phase }, { on := 8, ground := Ground.phase }, { on := 9, ground := Ground.phase }], guard := none }) rfl (fun K hK => ?_) AllReadyH.nil
      go_simp
      refine hK.out _ _ ?_ (fun hHeld => ?_)
      · trivial
      clear hK K
      try simp only [Act.put, List.setIfInBounds_toArray, List.set_cons_zero, List.set_cons_succ]
      refine wpAnyH_done (by kernel_rfl) ?_ _
      skip
      go_wp2
      first | go_end0 | refine bodyPost_ret (results_none rfl _ _ _) rfl ?_
      obtain ⟨tag3, hBk3, hFr3⟩ := stageB hHB'.out hB4.out (by rw [hrm'.out]; exact hu4'.out) hnew5 hold5 hat5
      exact ⟨rfl, tag3, hBk3, hFr'.out.trans hFr3⟩
    refine AllReadyH.cons (o := { dst := some 32, op := Op.buildSlice 24 0 #[], type := 24, pos := "keep.go:39", after := #[], guard := none }) rfl (fun K hK => ?_) AllReadyH.nil
    go_simp
    refine hK.out _ _ ?_ (fun hHeld => ?_)
    · trivial
    clear hK K
    try simp only [Act.put, List.setIfInBounds_toArray, List.set_cons_zero, List.set_cons_succ]
    refine wpAnyH_ready (rs := [4, 7]) (by kernel_rfl) (by simp) ?_
    refine AllReadyH.cons (o := { dst := some 31, op := Op.load 38 (Operand.tmp 30), type := 38, pos := "keep.go:39", after := #[{ on := 3, ground := Ground.data }], guard := none }) rfl (fun K hK => ?_) ?_
    · skip
      go_simp
      refine hK.out _ _ ?_ (fun hHeld => ?_)
      · trivial
      clear hK K
      try simp only [Act.put, List.setIfInBounds_toArray, List.set_cons_zero, List.set_cons_succ]
      refine wpAnyH_ready (rs := [7]) (by kernel_rfl) (by simp) ?_
      refine AllReadyH.cons (o := { dst := some 34, op := Op.call { callee := Callee.builtin Builtin.append, args := #[Operand.tmp 32, Operand.tmp 33], argTypes := #[24, 24] }, type := 24, pos := "keep.go:39", after := #[{ on := 5, ground := Ground.data }, { on := 6, ground := Ground.data }], guard := none }) rfl (fun K hK => ?_) AllReadyH.nil
      rw [if_pos (by rfl)]
      refine wp_copyZ _ (.tmp 32) (.tmp 33) W3.heap.size (.slice oa l.length cap) l rfl rfl hZ.out rfl hR.out hl ?_; intro u w4 hu4 hg4; obtain ⟨ou, cu, rfl⟩ := own_shape hu4; have hB4 := hide' (B1.out.grown hg4 (by simp) (fun j ej => by cases ej; exact Nat.le_refl _)); have c5c := cV.out _ hB4.out; have B5 : Hid (Below W3.heap.size W3 (w4.alloc (.cells #[.slice ou l.length cu] 24))) := hB4.out.alloc hB4.out.size _; have c5d := cV.out _ B5.out; have h1u := hide' (own_one hu4); have hu4' := hide' hu4; have hO5 := hide' (outW hHB'.out B5.out); clear hu4 hg4; (try dsimp only)
      refine hK.out _ _ ?_ (fun hHeld => ?_)
      · trivial
      clear hK K
      try simp only [Act.put, List.setIfInBounds_toArray, List.set_cons_zero, List.set_cons_succ]
      refine wpAnyH_ready (rs := [8]) (by kernel_rfl) (by simp) ?_
      refine AllReadyH.cons (o := { dst := some 35, op := Op.buildSlice 38 1 #[(0, Operand.tmp 34)], type := 38, pos := "keep.go:39", after := #[{ on := 7, ground := Ground.data }], guard := none }) rfl (fun K hK => ?_) AllReadyH.nil
      go_simp
      refine hK.out _ _ ?_ (fun hHeld => ?_)
      · trivial
      clear hK K
      try simp only [Act.put, List.setIfInBounds_toArray, List.set_cons_zero, List.set_cons_succ]
      refine wpAnyH_ready (rs := [9]) (by kernel_rfl) (by simp) ?_
      refine AllReadyH.cons (o := { dst := some 36, op := Op.call { callee := Callee.builtin Builtin.append, args := #[Operand.tmp 31, Operand.tmp 35], argTypes := #[38, 38] }, type := 38, pos := "keep.go:39", after := #[{ on := 4, ground := Ground.data }, { on := 8, ground := Ground.data }, { on := 7, ground := Ground.chain }], guard := none }) rfl (fun K hK => ?_) AllReadyH.nil
      rw [if_pos (by rfl)]
      refine wp_append_two _ (.tmp 31) (.tmp 35) 38 rfl 0 24 iL (.slice none 0 0) 1 24 Tryd.underlying38 hiL hzL0 hzL1 hzL2 rfl (by decide) ow m us rfl hO5.out ⟨w4.heap.size, 0, none⟩ 1 1 [.slice ou l.length cu] rfl rfl (cell_one_new _ _ _) (by simpa using h1u.out) (by decide) (by unfold maxLen; omega) (by omega) (Nat.zero_le _) ?_; intro g5 cap5 w5 hnew5 hold5 hat5; have hb5 := hide' (boxE hHB'.out hB4.out hat5); have c5f := hb5.out.c5; have f5f := hb5.out.fz 5; (try dsimp only)
      refine hK.out _ _ ?_ (fun hHeld => ?_)
      · trivial
      clear hK K
      try simp only [Act.put, List.setIfInBounds_toArray, List.set_cons_zero, List.set_cons_succ]
      refine wpAnyH_take (i := 10) (oi := { dst := some 37, op := Op.nilCheck (Operand.tmp 27), type := 0, pos := "keep.go:39", after := #[{ on := 0, ground := Ground.data }, { on := 0, ground := Ground.phase }, { on := 1, ground := Ground.phase }, { on := 2, ground := Ground.phase }, { on := 3, ground := Ground.phase }, { on := 4, ground := Ground.phase }, { on := 5, ground := Ground.phase }, { on := 6, ground := Ground.phase }, { on := 7, ground := Ground.phase }, { on := 8, ground := Ground.phase }, { on := 9, ground := Ground.phase }], guard := none }) (v := ?_) rfl (by kernel_rfl) (by kernel_rfl) (by kernel_rfl) (fun _ _ _ h => h) (Or.inl ⟨by rfl, ?_⟩) (by assumption) ?_
      rotate_left
      · intro w hSw; (try dsimp only at hSw); go_simp <;> with_reducible rfl
      simp only [Act.put, List.setIfInBounds_toArray, List.set_cons_zero, List.set_cons_succ]
      refine wpAnyH_take (i := 11) (oi := { dst := some 38, op := Op.fieldAddr 41 (Operand.tmp 37) 5, type := 0, pos := "keep.go:39", after := #[{ on := 10, ground := Ground.data }, { on := 0, ground := Ground.phase }, { on := 1, ground := Ground.phase }, { on := 2, ground := Ground.phase }, { on := 3, ground := Ground.phase }, { on := 4, ground := Ground.phase }, { on := 5, ground := Ground.phase }, { on := 6, ground := Ground.phase }, { on := 7, ground := Ground.phase }, { on := 8, ground := Ground.phase }, { on := 9, ground := Ground.phase }], guard := none }) (v := ?_) rfl (by kernel_rfl) (by kernel_rfl) (by kernel_rfl) (fun _ _ _ h => h) (Or.inl ⟨by rfl, ?_⟩) (by assumption) ?_
      rotate_left
      · intro w hSw; (try dsimp only at hSw); go_simp <;> with_reducible rfl
      simp only [Act.put, List.setIfInBounds_toArray, List.set_cons_zero, List.set_cons_succ]
      refine wpAnyH_ready (rs := [12]) (by kernel_rfl) (by simp) ?_
      refine AllReadyH.cons (o := { dst := none, op := Op.store 38 (Operand.tmp 38) (Operand.tmp 36), type := 0, pos := "keep.go:39", after := #[{ on := 11, ground := Ground.data }, { on := 9, ground := Ground.data }, { on := 9, ground := Ground.chain }, { on := 0, ground := Ground.phase }, { on := 1, ground := Ground.phase }, { on := 2, ground := Ground.phase }, { on := 3, ground := Ground.phase }, { on := 4, ground := Ground.phase }, { on := 5, ground := Ground.phase }, { on := 6, ground := Ground.phase }, { on := 7, ground := Ground.phase }, { on := 8, ground := Ground.phase }, { on := 9, ground := Ground.phase }], guard := none }) rfl (fun K hK => ?_) AllReadyH.nil
      go_simp
      refine hK.out _ _ ?_ (fun hHeld => ?_)
      · trivial
      clear hK K
      try simp only [Act.put, List.setIfInBounds_toArray, List.set_cons_zero, List.set_cons_succ]
      refine wpAnyH_done (by kernel_rfl) ?_ _
      skip
      go_wp2
      first | go_end0 | refine bodyPost_ret (results_none rfl _ _ _) rfl ?_
      obtain ⟨tag3, hBk3, hFr3⟩ := stageB hHB'.out hB4.out (by rw [hrm'.out]; exact hu4'.out) hnew5 hold5 hat5
      exact ⟨rfl, tag3, hBk3, hFr'.out.trans hFr3⟩
    refine AllReadyH.cons (o := { dst := some 34, op := Op.call { callee := Callee.builtin Builtin.append, args := #[Operand.tmp 32, Operand.tmp 33], argTypes := #[24, 24] }, type := 24, pos := "keep.go:39", after := #[{ on := 5, ground := Ground.data }, { on := 6, ground := Ground.data }], guard := none }) rfl (fun K hK => ?_) AllReadyH.nil
    rw [if_pos (by rfl)]
    refine wp_copyZ _ (.tmp 32) (.tmp 33) W3.heap.size (.slice oa l.length cap) l rfl rfl hZ.out rfl hR.out hl ?_; intro u w4 hu4 hg4; obtain ⟨ou, cu, rfl⟩ := own_shape hu4; have hB4 := hide' (B1.out.grown hg4 (by simp) (fun j ej => by cases ej; exact Nat.le_refl _)); have c5c := cV.out _ hB4.out; have B5 : Hid (Below W3.heap.size W3 (w4.alloc (.cells #[.slice ou l.length cu] 24))) := hB4.out.alloc hB4.out.size _; have c5d := cV.out _ B5.out; have h1u := hide' (own_one hu4); have hu4' := hide' hu4; have hO5 := hide' (outW hHB'.out B5.out); clear hu4 hg4; (try dsimp only)
    refine hK.out _ _ ?_ (fun hHeld => ?_)
    · trivial
    clear hK K
    try simp only [Act.put, List.setIfInBounds_toArray, List.set_cons_zero, List.set_cons_succ]
    refine wpAnyH_ready (rs := [4, 8]) (by kernel_rfl) (by simp) ?_
    refine AllReadyH.cons (o := { dst := some 31, op := Op.load 38 (Operand.tmp 30), type := 38, pos := "keep.go:39", after := #[{ on := 3, ground := Ground.data }], guard := none }) rfl (fun K hK => ?_) ?_
    · skip
      go_simp
      refine hK.out _ _ ?_ (fun hHeld => ?_)
      · trivial
      clear hK K
      try simp only [Act.put, List.setIfInBounds_toArray, List.set_cons_zero, List.set_cons_succ]
      refine wpAnyH_ready (rs := [8]) (by kernel_rfl) (by simp) ?_
      refine AllReadyH.cons (o := { dst := some 35, op := Op.buildSlice 38 1 #[(0, Operand.tmp 34)], type := 38, pos := "keep.go:39", after := #[{ on := 7, ground := Ground.data }], guard := none }) rfl (fun K hK => ?_) AllReadyH.nil
      go_simp
      refine hK.out _ _ ?_ (fun hHeld => ?_)
      · trivial
      clear hK K
      try simp only [Act.put, List.setIfInBounds_toArray, List.set_cons_zero, List.set_cons_succ]
      refine wpAnyH_ready (rs := [9]) (by kernel_rfl) (by simp) ?_
      refine AllReadyH.cons (o := { dst := some 36, op := Op.call { callee := Callee.builtin Builtin.append, args := #[Operand.tmp 31, Operand.tmp 35], argTypes := #[38, 38] }, type := 38, pos := "keep.go:39", after := #[{ on := 4, ground := Ground.data }, { on := 8, ground := Ground.data }, { on := 7, ground := Ground.chain }], guard := none }) rfl (fun K hK => ?_) AllReadyH.nil
      rw [if_pos (by rfl)]
      refine wp_append_two _ (.tmp 31) (.tmp 35) 38 rfl 0 24 iL (.slice none 0 0) 1 24 Tryd.underlying38 hiL hzL0 hzL1 hzL2 rfl (by decide) ow m us rfl hO5.out ⟨w4.heap.size, 0, none⟩ 1 1 [.slice ou l.length cu] rfl rfl (cell_one_new _ _ _) (by simpa using h1u.out) (by decide) (by unfold maxLen; omega) (by omega) (Nat.zero_le _) ?_; intro g5 cap5 w5 hnew5 hold5 hat5; have hb5 := hide' (boxE hHB'.out hB4.out hat5); have c5f := hb5.out.c5; have f5f := hb5.out.fz 5; (try dsimp only)
      refine hK.out _ _ ?_ (fun hHeld => ?_)
      · trivial
      clear hK K
      try simp only [Act.put, List.setIfInBounds_toArray, List.set_cons_zero, List.set_cons_succ]
      refine wpAnyH_take (i := 10) (oi := { dst := some 37, op := Op.nilCheck (Operand.tmp 27), type := 0, pos := "keep.go:39", after := #[{ on := 0, ground := Ground.data }, { on := 0, ground := Ground.phase }, { on := 1, ground := Ground.phase }, { on := 2, ground := Ground.phase }, { on := 3, ground := Ground.phase }, { on := 4, ground := Ground.phase }, { on := 5, ground := Ground.phase }, { on := 6, ground := Ground.phase }, { on := 7, ground := Ground.phase }, { on := 8, ground := Ground.phase }, { on := 9, ground := Ground.phase }], guard := none }) (v := ?_) rfl (by kernel_rfl) (by kernel_rfl) (by kernel_rfl) (fun _ _ _ h => h) (Or.inl ⟨by rfl, ?_⟩) (by assumption) ?_
      rotate_left
      · intro w hSw; (try dsimp only at hSw); go_simp <;> with_reducible rfl
      simp only [Act.put, List.setIfInBounds_toArray, List.set_cons_zero, List.set_cons_succ]
      refine wpAnyH_take (i := 11) (oi := { dst := some 38, op := Op.fieldAddr 41 (Operand.tmp 37) 5, type := 0, pos := "keep.go:39", after := #[{ on := 10, ground := Ground.data }, { on := 0, ground := Ground.phase }, { on := 1, ground := Ground.phase }, { on := 2, ground := Ground.phase }, { on := 3, ground := Ground.phase }, { on := 4, ground := Ground.phase }, { on := 5, ground := Ground.phase }, { on := 6, ground := Ground.phase }, { on := 7, ground := Ground.phase }, { on := 8, ground := Ground.phase }, { on := 9, ground := Ground.phase }], guard := none }) (v := ?_) rfl (by kernel_rfl) (by kernel_rfl) (by kernel_rfl) (fun _ _ _ h => h) (Or.inl ⟨by rfl, ?_⟩) (by assumption) ?_
      rotate_left
      · intro w hSw; (try dsimp only at hSw); go_simp <;> with_reducible rfl
      simp only [Act.put, List.setIfInBounds_toArray, List.set_cons_zero, List.set_cons_succ]
      refine wpAnyH_ready (rs := [12]) (by kernel_rfl) (by simp) ?_
      refine AllReadyH.cons (o := { dst := none, op := Op.store 38 (Operand.tmp 38) (Operand.tmp 36), type := 0, pos := "keep.go:39", after := #[{ on := 11, ground := Ground.data }, { on := 9, ground := Ground.data }, { on := 9, ground := Ground.chain }, { on := 0, ground := Ground.phase }, { on := 1, ground := Ground.phase }, { on := 2, ground := Ground.phase }, { on := 3, ground := Ground.phase }, { on := 4, ground := Ground.phase }, { on := 5, ground := Ground.phase }, { on := 6, ground := Ground.phase }, { on := 7, ground := Ground.phase }, { on := 8, ground := Ground.phase }, { on := 9, ground := Ground.phase }], guard := none }) rfl (fun K hK => ?_) AllReadyH.nil
      go_simp
      refine hK.out _ _ ?_ (fun hHeld => ?_)
      · trivial
      clear hK K
      try simp only [Act.put, List.setIfInBounds_toArray, List.set_cons_zero, List.set_cons_succ]
      refine wpAnyH_done (by kernel_rfl) ?_ _
      skip
      go_wp2
      first | go_end0 | refine bodyPost_ret (results_none rfl _ _ _) rfl ?_
      obtain ⟨tag3, hBk3, hFr3⟩ := stageB hHB'.out hB4.out (by rw [hrm'.out]; exact hu4'.out) hnew5 hold5 hat5
      exact ⟨rfl, tag3, hBk3, hFr'.out.trans hFr3⟩
    refine AllReadyH.cons (o := { dst := some 35, op := Op.buildSlice 38 1 #[(0, Operand.tmp 34)], type := 38, pos := "keep.go:39", after := #[{ on := 7, ground := Ground.data }], guard := none }) rfl (fun K hK => ?_) AllReadyH.nil
    go_simp
    refine hK.out _ _ ?_ (fun hHeld => ?_)
    · trivial
    clear hK K
    try simp only [Act.put, List.setIfInBounds_toArray, List.set_cons_zero, List.set_cons_succ]
    refine wpAnyH_ready (rs := [4]) (by kernel_rfl) (by simp) ?_
    refine AllReadyH.cons (o := { dst := some 31, op := Op.load 38 (Operand.tmp 30), type := 38, pos := "keep.go:39", after := #[{ on := 3, ground := Ground.data }], guard := none }) rfl (fun K hK => ?_) AllReadyH.nil
    go_simp
    refine hK.out _ _ ?_ (fun hHeld => ?_)
    · trivial
    clear hK K
    try simp only [Act.put, List.setIfInBounds_toArray, List.set_cons_zero, List.set_cons_succ]
    refine wpAnyH_ready (rs := [9]) (by kernel_rfl) (by simp) ?_
    refine AllReadyH.cons (o := { dst := some 36, op := Op.call { callee := Callee.builtin Builtin.append, args := #[Operand.tmp 31, Operand.tmp 35], argTypes := #[38, 38] }, type := 38, pos := "keep.go:39", after := #[{ on := 4, ground := Ground.data }, { on := 8, ground := Ground.data }, { on := 7, ground := Ground.chain }], guard := none }) rfl (fun K hK => ?_) AllReadyH.nil
    rw [if_pos (by rfl)]
    refine wp_append_two _ (.tmp 31) (.tmp 35) 38 rfl 0 24 iL (.slice none 0 0) 1 24 Tryd.underlying38 hiL hzL0 hzL1 hzL2 rfl (by decide) ow m us rfl hO5.out ⟨w4.heap.size, 0, none⟩ 1 1 [.slice ou l.length cu] rfl rfl (cell_one_new _ _ _) (by simpa using h1u.out) (by decide) (by unfold maxLen; omega) (by omega) (Nat.zero_le _) ?_; intro g5 cap5 w5 hnew5 hold5 hat5; have hb5 := hide' (boxE hHB'.out hB4.out hat5); have c5f := hb5.out.c5; have f5f := hb5.out.fz 5; (try dsimp only)
    refine hK.out _ _ ?_ (fun hHeld => ?_)
    · trivial
    clear hK K
    try simp only [Act.put, List.setIfInBounds_toArray, List.set_cons_zero, List.set_cons_succ]
    refine wpAnyH_take (i := 10) (oi := { dst := some 37, op := Op.nilCheck (Operand.tmp 27), type := 0, pos := "keep.go:39", after := #[{ on := 0, ground := Ground.data }, { on := 0, ground := Ground.phase }, { on := 1, ground := Ground.phase }, { on := 2, ground := Ground.phase }, { on := 3, ground := Ground.phase }, { on := 4, ground := Ground.phase }, { on := 5, ground := Ground.phase }, { on := 6, ground := Ground.phase }, { on := 7, ground := Ground.phase }, { on := 8, ground := Ground.phase }, { on := 9, ground := Ground.phase }], guard := none }) (v := ?_) rfl (by kernel_rfl) (by kernel_rfl) (by kernel_rfl) (fun _ _ _ h => h) (Or.inl ⟨by rfl, ?_⟩) (by assumption) ?_
    rotate_left
    · intro w hSw; (try dsimp only at hSw); go_simp <;> with_reducible rfl
    simp only [Act.put, List.setIfInBounds_toArray, List.set_cons_zero, List.set_cons_succ]
    refine wpAnyH_take (i := 11) (oi := { dst := some 38, op := Op.fieldAddr 41 (Operand.tmp 37) 5, type := 0, pos := "keep.go:39", after := #[{ on := 10, ground := Ground.data }, { on := 0, ground := Ground.phase }, { on := 1, ground := Ground.phase }, { on := 2, ground := Ground.phase }, { on := 3, ground := Ground.phase }, { on := 4, ground := Ground.phase }, { on := 5, ground := Ground.phase }, { on := 6, ground := Ground.phase }, { on := 7, ground := Ground.phase }, { on := 8, ground := Ground.phase }, { on := 9, ground := Ground.phase }], guard := none }) (v := ?_) rfl (by kernel_rfl) (by kernel_rfl) (by kernel_rfl) (fun _ _ _ h => h) (Or.inl ⟨by rfl, ?_⟩) (by assumption) ?_
    rotate_left
    · intro w hSw; (try dsimp only at hSw); go_simp <;> with_reducible rfl
    simp only [Act.put, List.setIfInBounds_toArray, List.set_cons_zero, List.set_cons_succ]
    refine wpAnyH_ready (rs := [12]) (by kernel_rfl) (by simp) ?_
    refine AllReadyH.cons (o := { dst := none, op := Op.store 38 (Operand.tmp 38) (Operand.tmp 36), type := 0, pos := "keep.go:39", after := #[{ on := 11, ground := Ground.data }, { on := 9, ground := Ground.data }, { on := 9, ground := Ground.chain }, { on := 0, ground := Ground.phase }, { on := 1, ground := Ground.phase }, { on := 2, ground := Ground.phase }, { on := 3, ground := Ground.phase }, { on := 4, ground := Ground.phase }, { on := 5, ground := Ground.phase }, { on := 6, ground := Ground.phase }, { on := 7, ground := Ground.phase }, { on := 8, ground := Ground.phase }, { on := 9, ground := Ground.phase }], guard := none }) rfl (fun K hK => ?_) AllReadyH.nil
    go_simp
    refine hK.out _ _ ?_ (fun hHeld => ?_)
    · trivial
    clear hK K
    try simp only [Act.put, List.setIfInBounds_toArray, List.set_cons_zero, List.set_cons_succ]
    refine wpAnyH_done (by kernel_rfl) ?_ _
    skip
    go_wp2
    first | go_end0 | refine bodyPost_ret (results_none rfl _ _ _) rfl ?_
    obtain ⟨tag3, hBk3, hFr3⟩ := stageB hHB'.out hB4.out (by rw [hrm'.out]; exact hu4'.out) hnew5 hold5 hat5
    exact ⟨rfl, tag3, hBk3, hFr'.out.trans hFr3⟩
end Go.Proofs.YtjimiabfgmchiaaDoor.K
namespace Go.Proofs.YtjimiabfgmchiaaDoor.K
open Go.RowKit
theorem famNil (w : World) (tag : Nat → Nat) (t : Nat) (c : Nat → Nat) (rows : Nat → List Int) : Fam w tag t c (.slice none 0 0) 0 [] rows :=
  ⟨World.ownsRow_nil _ _ _ _, fun g e => by simp [Value.ownBlock] at e, fun j v hj => by simp at hj, fun j v g hj => by simp at hj⟩
theorem Book.below {w w' : World} {b : Nat} {tag : Nat → Nat} (h : Book w b tag) (hB : Below w.heap.size w w') : Book w' b tag := by
  obtain ⟨ov, ow, m, vs, us, rows, N, hk⟩ := h
  exact ⟨ov, ow, m, vs, us, rows, N, hk.below hB⟩
theorem Book.lt {w : World} {b : Nat} {tag : Nat → Nat} (h : Book w b tag) : b < w.heap.size := by
  obtain ⟨ov, ow, m, vs, us, rows, N, hk⟩ := h
  exact hk.box.lt
theorem Book.fresh {w : World} {b : Nat} {tag : Nat → Nat} (h : Book w b tag) : ∀ g, w.heap.size ≤ g → tag g = 0 := by
  obtain ⟨ov, ow, m, vs, us, rows, N, hk⟩ := h
  exact hk.fresh
theorem Book.start (w : World) : Book (w.alloc (.cells #[.slice none 0 0, .slice none 0 0, .slice none 0 0, .slice none 0 0, .slice none 0 0, .slice none 0 0, .slice none 0 0, .slice none 0 0, .slice none 0 0, .slice none 0 0, .slice none 0 0, .slice none 0 0, .int .i64 0] 41)) w.heap.size (fun g => if g = w.heap.size then 1 else 0) :=
  ⟨_, _, 0, [], [], fun _ => [], 0, ⟨heap_new w _, if_pos rfl, famNil _ _ _ _ _, famNil _ _ _ _ _, fun g hg => if_neg (by simp at hg; omega), ⟨Nat.le_refl _, by decide⟩, fun j hj => by omega⟩⟩
/-- A book, and what was there when it was made. -/
def BookO (W0 : World) (b : Nat) (W : World) : Prop := Below b W0 W ∧ ∃ tag, Book W b tag ∧ ∀ g, g < b → tag g = 0
theorem BookO.below {W0 W W' : World} {b : Nat} (h : BookO W0 b W) (hB : Below W.heap.size W W') : BookO W0 b W' := by
  obtain ⟨h1, tag, h2, h3⟩ := h
  exact ⟨h1.trans (hB.mono (Nat.le_of_lt h2.lt)), tag, h2.below hB, h3⟩
theorem BookO.start (w : World) : BookO (w.alloc (.cells #[.slice none 0 0, .slice none 0 0, .slice none 0 0, .slice none 0 0, .slice none 0 0, .slice none 0 0, .slice none 0 0, .slice none 0 0, .slice none 0 0, .slice none 0 0, .slice none 0 0, .slice none 0 0, .int .i64 0] 41)) w.heap.size (w.alloc (.cells #[.slice none 0 0, .slice none 0 0, .slice none 0 0, .slice none 0 0, .slice none 0 0, .slice none 0 0, .slice none 0 0, .slice none 0 0, .slice none 0 0, .slice none 0 0, .slice none 0 0, .slice none 0 0, .int .i64 0] 41)) :=
  ⟨Below.refl _ _, _, Book.start w, fun g hg => if_neg (by omega)⟩
/-- A row that a call has just made is taken in. -/
theorem ownInts {W0 W W2 : World} {b n : Nat} {v : Value} {l : List Int} (h : BookO W0 b W) (h2 : Below W.heap.size W W2) (hv : W2.ownsRow W.heap.size 3 1 v n (cellsI l)) (hl : l.length ≤ 1000000) :
    Calls Tryd.prog 11 #[.pointer (some ⟨b, 0, none⟩), v] W2 fun e w' => e = .returned (.tuple #[]) ∧ BookO W0 b w' := by
  obtain ⟨h1, tag, hk, h0⟩ := h
  have hn : n = l.length := by have := hv.1; rw [cellsI_len] at this; omega
  subst hn
  have hlt := hk.lt
  refine (bookInts b tag v l W2 (hk.below h2) (owns_low hv (Nat.zero_le _)) hl (fun g hg => hk.fresh g (hv.lt g hg).1)).mono ?_
  rintro e w' ⟨rfl, tag', hk', hf⟩
  have hne : ∀ g, g < b → v.ownBlock ≠ some g := fun g hg e => by have := (hv.lt g e).1; omega
  have hs := h2.size
  refine ⟨rfl, (h1.trans (h2.mono (by omega))).trans ⟨hf.os, hf.tape, hf.output, hf.size, fun k hk => hf.block k (by omega) (h0 k hk) (hne k hk)⟩, tag', hk', fun g hg => hf.tg g (by omega) (h0 g hg) (hne g hg)⟩
theorem ownClose {W0 W : World} {b : Nat} (h : BookO W0 b W) :
    Calls Tryd.prog 14 #[.pointer (some ⟨b, 0, none⟩)] W fun e w' => e = .returned (.bool true) ∧ Below b W0 w' := by
  obtain ⟨h1, tag, hk, h0⟩ := h
  have hlt := hk.lt
  refine (bookClose b tag W hk).mono ?_
  rintro e w' ⟨rfl, hs⟩
  exact ⟨rfl, h1.trans ⟨hs.os, hs.tape, hs.output, hs.size, fun k hk => hs.block k (by omega) (fun h => h (h0 k hk))⟩⟩
end Go.Proofs.YtjimiabfgmchiaaDoor.K
namespace Go.Proofs.YtjimiabfgmchiaaDoor.K
open Go.RowKit
/-- What is not the book's, nor one of the rows, stands. -/
structure FrV (tag : Nat → Nat) (vs : List Value) (w : World) (tag' : Nat → Nat) (w' : World) : Prop where
  os : w'.os = w.os
  tape : w'.tape = w.tape
  output : w'.output = w.output
  size : w.heap.size ≤ w'.heap.size
  tg : ∀ g, g < w.heap.size → tag g = 0 → (∀ v ∈ vs, v.ownBlock ≠ some g) → tag' g = 0
  block : ∀ g, g < w.heap.size → tag g = 0 → (∀ v ∈ vs, v.ownBlock ≠ some g) → w'.heap[g]? = w.heap[g]?
theorem FrV.refl (tag : Nat → Nat) (w : World) : FrV tag [] w tag w := ⟨rfl, rfl, rfl, Nat.le_refl _, fun _ _ h _ => h, fun _ _ _ _ => rfl⟩
theorem FrV.snoc {tag tag' tag2 : Nat → Nat} {vs : List Value} {v : Value} {w w' w2 : World} (h : FrV tag vs w tag' w') (k : Fr tag' v w' tag2 w2) : FrV tag (vs ++ [v]) w tag2 w2 :=
  ⟨k.os.trans h.os, k.tape.trans h.tape, k.output.trans h.output, Nat.le_trans h.size k.size,
   fun g hg ht hv => k.tg g (Nat.lt_of_lt_of_le hg h.size) (h.tg g hg ht fun u hu => hv u (List.mem_append_left _ hu)) (hv v (by simp)),
   fun g hg ht hv => (k.block g (Nat.lt_of_lt_of_le hg h.size) (h.tg g hg ht fun u hu => hv u (List.mem_append_left _ hu)) (hv v (by simp))).trans (h.block g hg ht fun u hu => hv u (List.mem_append_left _ hu))⟩
/-- Rows of ints of one's own, told by a row that none of them is. -/
structure Rws (w : World) (tag : Nat → Nat) (ov : Value) (vs : List Value) (rows : Nat → List Int) : Prop where
  outer : ∃ oa cap, ov = .slice oa vs.length cap ∧ ∀ (j : Nat) (v : Value), vs[j]? = some v → ∃ g o, oa = some ⟨g, o, none⟩ ∧ w.cell? ⟨g, o + j, none⟩ = some v ∧ tag g = 0 ∧ ∀ u ∈ vs, u.ownBlock ≠ some g
  inner : ∀ (j : Nat) (v : Value), vs[j]? = some v → w.ownsRow 0 3 1 v (rows j).length (cellsI (rows j)) ∧ (rows j).length ≤ 1000000
  un : ∀ v ∈ vs, ∀ g, v.ownBlock = some g → tag g = 0
  dis : ∀ (i j : Nat) (u v : Value) (g : Nat), i < j → vs[i]? = some u → vs[j]? = some v → u.ownBlock = some g → v.ownBlock ≠ some g
set_option maxRecDepth 100000 in
set_option maxHeartbeats 2000000 in
theorem bookLists (b : Nat) (tag : Nat → Nat) (ov : Value) (vs : List Value) (rows : Nat → List Int) (w : World) (hB : Book w b tag) (hR : Rws w tag ov vs rows) (hl : vs.length ≤ 1000000) :
    Calls Tryd.prog 7 #[.pointer (some ⟨b, 0, none⟩), ov] w fun e w' => e = .returned (.tuple #[]) ∧ ∃ tag', Book w' b tag' ∧ FrV tag vs w tag' w' := by
  obtain ⟨oa, cap, rfl, hout⟩ := hR.outer
  have hout' := hide' hout
  have hR' := hide' hR
  have hB' := hide' hB
  clear hout hR hB
  go_enter Tryd.func7, Tryd.ntmps7
  go_wp2
  go_loopw [4] (fun k wr => ∃ (c : Nat) (tag' : Nat → Nat), c ≤ vs.length ∧ k = .int .i64 c ∧ Hid (Book wr b tag') ∧ Hid (FrV tag (vs.take c) w tag' wr)) (fun k _ => ((vs.length : Int) - intOf k).toNat)
  case atStart => exact ⟨0, tag, Nat.zero_le _, rfl, hB', FrV.refl tag w⟩
  case round =>
    clear hB'
    obtain ⟨c, tag', hc, rfl, hBk, hFr⟩ := hrel
    by_cases hlt : c < vs.length
    · obtain ⟨v, hv⟩ : ∃ v, vs[c]? = some v := ⟨_, List.getElem?_eq_getElem hlt⟩
      obtain ⟨g, o, rfl, c0, ht0, hg0⟩ := hout'.out c v hv
      have hvm : v ∈ vs := List.mem_of_getElem? hv
      have c1 : wr.cell? ⟨g, o + c, none⟩ = some v := by
        have e := hFr.out.block g (cell_lt c0) ht0 (fun u hu => hg0 u (List.mem_of_mem_take hu))
        unfold World.cell? at c0 ⊢
        simp only [e]
        exact c0
      have hne : ∀ q, v.ownBlock = some q → ∀ u ∈ vs.take c, u.ownBlock ≠ some q := fun q hq u hu e => by
        obtain ⟨i, hi⟩ := List.getElem?_of_mem hu
        have hic : i < c := by have := (List.getElem?_eq_some_iff.1 hi).1; rw [List.length_take] at this; omega
        rw [List.getElem?_take_of_lt hic] at hi
        exact hR'.out.dis i c u v q hic hi hv e hq
      obtain ⟨hin, hrl⟩ := hR'.out.inner c v hv
      have hown : wr.ownsRow 0 3 1 v (rows c).length (cellsI (rows c)) := owns_same hin fun q hq e => hFr.out.block q hq (hR'.out.un v hvm q e) (hne q e)
      have KI := hide' (bookInts b tag' v (rows c) wr hBk.out hown hrl (fun q e => hFr.out.tg q (owns_lt hin e) (hR'.out.un v hvm q e) (hne q e)))
      have hT : Hid (vs.take (c + 1) = vs.take c ++ [v]) := by show _ = _; rw [List.take_add_one, hv]; rfl
      obtain ⟨ox, cx, hve⟩ := own_shape hown
      clear hout' hR' hown hin hne hv hvm c0 hBk
      subst hve
      generalize (rows c).length = q at *
      go_wp2_with (first | (go_at_call 11; refine KI.out.mono ?_; rintro e w3 ⟨rfl, tag3, hk3, hf3⟩))
      exact ⟨⟨c + 1, tag3, by omega, by go_num, hk3, by rw [hT.out]; exact hFr.out.snoc hf3⟩, by simp [intOf]; omega⟩
    · obtain rfl : c = vs.length := by omega
      have hFr' : Hid (FrV tag vs w tag' wr) := by have := hFr.out; rw [List.take_length] at this; exact this
      clear hout' hR' hFr
      go_wp2
      first | go_end0 | refine bodyPost_ret (results_none rfl _ _ _) rfl ?_
      exact ⟨rfl, tag', hBk.out, hFr'.out⟩
end Go.Proofs.YtjimiabfgmchiaaDoor.K

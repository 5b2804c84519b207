/- Book.Stands and Book.Close: they answer true. -/
import Derived.Test.YtgfnfbbiojnhaaaDoorKbClose
import Derived.Deep.QuietTactic
import Derived.BigQuiet
namespace Go.Proofs.YtgfnfbbiojnhaaaDoor.KB
open Go.RowKit
theorem Bk.below {w w' : World} {b : Nat} {tag : Nat → Nat} {ov ow : Value} {m : Nat} {vs us : List Value} {rows : Nat → List Int} {N : Nat} (h : Bk w b tag ov ow m vs us rows N) (hB : Below w.heap.size w w') : Bk w' b tag ov ow m vs us rows N := by
  have s : Sm (fun _ => False) tag w w' := Sm.below hB
  exact ⟨h.box.mv s (fun x => x), h.bt, h.live.mv s (fun x => x) (fun _ _ x => x), h.want.mv s (fun x => x) (fun _ _ x => x), fun g hg => h.fresh g (Nat.le_trans hB.size hg), h.hN, h.hrow⟩
set_option maxHeartbeats 1000000 in
theorem lookInts0 (b : Value) (w : World) : Calls Tryd.prog 30 #[b, .slice none 0 0] w fun e w' => e = .returned (.bool true) ∧ w' = w := by
  go_enter Tryd.func30, Tryd.ntmps30
  go_wp2
  go_loop [5] (fun i => i = .int .i64 0) (fun _ => 0)
  case atStart => rfl
  case round =>
    obtain rfl := hrel
    go_wp2
    go_ret
    exact ⟨rfl, rfl⟩
set_option maxHeartbeats 1000000 in
theorem lookTexts0 (b : Value) (w : World) : Calls Tryd.prog 32 #[b, .slice none 0 0] w fun e w' => e = .returned (.bool true) ∧ w' = w := by
  go_enter Tryd.func32, Tryd.ntmps32
  go_wp2
  go_loop [5] (fun i => i = .int .i64 0) (fun _ => 0)
  case atStart => rfl
  case round =>
    obtain rfl := hrel
    go_wp2
    go_ret
    exact ⟨rfl, rfl⟩
set_option maxRecDepth 100000 in
set_option maxHeartbeats 4000000 in
theorem closeInts0 (b : Nat) (w : World) (ov ow o1 om : Value) (N : Int) (hb : BoxB w b ov ow o1 om N) : Calls Tryd.prog 25 #[.pointer (some ⟨b, 0, none⟩)] w fun e w' => e = .returned (.bool true) ∧ w' = w := by
  have c0 := hb.c4
  have c2 := hb.c6
  have c3 := hb.c7
  have K := hide' (lookInts0 (.pointer (some ⟨b, 0, none⟩)) w)
  clear hb
  go_enter Tryd.func25, Tryd.ntmps25
  go_wp2
  go_loop [3] (fun i => i = .int .i64 0) (fun _ => 0)
  case atStart => rfl
  case round =>
    obtain rfl := hrel
    go_wp2
    go_loop [5] (fun i => i = .int .i64 0) (fun _ => 0)
    case atStart => rfl
    case round =>
      obtain rfl := hrel
      go_wp2_with (go_at_call 30; refine K.out.mono ?_; rintro e w7 ⟨rfl, hw7⟩; obtain rfl : w = w7 := hw7.symm)
      go_loop [8] (fun i => i = .int .i64 0) (fun _ => 0)
      case atStart => rfl
      case round =>
        obtain rfl := hrel
        go_wp2_with (go_at_call 30; refine K.out.mono ?_; rintro e w7 ⟨rfl, hw7⟩; obtain rfl : w = w7 := hw7.symm)
        go_ret
        exact ⟨rfl, rfl⟩
set_option maxRecDepth 100000 in
set_option maxHeartbeats 4000000 in
theorem closeTexts0 (b : Nat) (w : World) (ov ow o1 om : Value) (N : Int) (hb : BoxB w b ov ow o1 om N) : Calls Tryd.prog 26 #[.pointer (some ⟨b, 0, none⟩)] w fun e w' => e = .returned (.bool true) ∧ w' = w := by
  have c0 := hb.c8
  have c2 := hb.c10
  have c3 := hb.c11
  have K := hide' (lookTexts0 (.pointer (some ⟨b, 0, none⟩)) w)
  clear hb
  go_enter Tryd.func26, Tryd.ntmps26
  go_wp2
  go_loop [3] (fun i => i = .int .i64 0) (fun _ => 0)
  case atStart => rfl
  case round =>
    obtain rfl := hrel
    go_wp2
    go_loop [5] (fun i => i = .int .i64 0) (fun _ => 0)
    case atStart => rfl
    case round =>
      obtain rfl := hrel
      go_wp2_with (go_at_call 32; refine K.out.mono ?_; rintro e w7 ⟨rfl, hw7⟩; obtain rfl : w = w7 := hw7.symm)
      go_loop [8] (fun i => i = .int .i64 0) (fun _ => 0)
      case atStart => rfl
      case round =>
        obtain rfl := hrel
        go_wp2_with (go_at_call 32; refine K.out.mono ?_; rintro e w7 ⟨rfl, hw7⟩; obtain rfl : w = w7 := hw7.symm)
        go_ret
        exact ⟨rfl, rfl⟩
theorem cell_over {W W' : World} {b o : Nat} {v : Value} (h : W.cell? ⟨b, o, none⟩ = some v) (hb : Below W.heap.size W W') : W'.cell? ⟨b, o, none⟩ = some v := (hb.cell (p := ⟨b, o, none⟩) (cell_lt h)).trans h
theorem keep4 {W0 W w1 : World} {b1 b2 b3 b4 o1 o2 o3 o4 : Nat} {u1 u2 u3 u4 : Value} (h : W.cell? ⟨b1, o1, none⟩ = some u1 ∧ W.cell? ⟨b2, o2, none⟩ = some u2 ∧ W.cell? ⟨b3, o3, none⟩ = some u3 ∧ W.cell? ⟨b4, o4, none⟩ = some u4 ∧ Below W0.heap.size W0 W) (hb : Below W.heap.size W w1) :
    w1.cell? ⟨b1, o1, none⟩ = some u1 ∧ w1.cell? ⟨b2, o2, none⟩ = some u2 ∧ w1.cell? ⟨b3, o3, none⟩ = some u3 ∧ w1.cell? ⟨b4, o4, none⟩ = some u4 ∧ Below W0.heap.size W0 w1 :=
  ⟨cell_over h.1 hb, cell_over h.2.1 hb, cell_over h.2.2.1 hb, cell_over h.2.2.2.1 hb, h.2.2.2.2.trans (hb.mono h.2.2.2.2.size)⟩
set_option maxRecDepth 100000 in
set_option maxHeartbeats 4000000 in
theorem stands (b : Nat) (tag : Nat → Nat) (w : World) (ov ow : Value) (m : Nat) (vs us : List Value) (rows : Nat → List Int) (N : Nat) (hk : Bk w b tag ov ow m vs us rows N) :
    Calls Tryd.prog 23 #[.pointer (some ⟨b, 0, none⟩)] w fun e w' => e = .returned (.bool true) ∧ Below w.heap.size w w' := by
  have hm : m ≤ 1300000 := by have := hk.hN; omega
  have c0 := hk.box.c0
  obtain ⟨oa, cap, rfl⟩ := own_shape hk.live.outer
  obtain ⟨ob, cb, rfl⟩ := own_shape hk.want.outer
  have hk' := hide' hk
  clear hk
  go_enter Tryd.func23, Tryd.ntmps23
  go_wp2
  go_loopw [3] (fun i wr => ∃ (c : Nat), c ≤ m ∧ i = .int .i64 c ∧ Below w.heap.size w wr) (fun i _ => ((m : Int) - intOf i).toNat)
  case atStart => exact ⟨0, Nat.zero_le _, rfl, Below.refl _ _⟩
  case round =>
    clear c0
    obtain ⟨c, hc, rfl, hB⟩ := hrel
    have hkr := hk'.out.below hB
    have c0 := hkr.box.c0
    by_cases hlt : c < m
    · have c1 := hkr.box.c1
      obtain ⟨g, cap2, e, _, _⟩ := hkr.live.outer.form (by omega)
      obtain ⟨rfl, rfl⟩ : oa = some ⟨g, 0, none⟩ ∧ cap = cap2 := by injection e with h1 h2 h3; exact ⟨h1, h3⟩
      obtain ⟨g1, cap3, e1, _, _⟩ := hkr.want.outer.form (by omega)
      obtain ⟨rfl, rfl⟩ : ob = some ⟨g1, 0, none⟩ ∧ cb = cap3 := by injection e1 with h1 h2 h3; exact ⟨h1, h3⟩
      obtain ⟨v, hv⟩ : ∃ v, vs[c]? = some v := ⟨_, List.getElem?_eq_getElem (by rw [hkr.live.len]; exact hlt)⟩
      obtain ⟨u, hu⟩ : ∃ u, us[c]? = some u := ⟨_, List.getElem?_eq_getElem (by rw [hkr.want.len]; exact hlt)⟩
      have cv : wr.cell? ⟨g, c, none⟩ = some v := by rw [hkr.live.outer.cellAt c (by omega)]; exact hv
      have cu : wr.cell? ⟨g1, c, none⟩ = some u := by rw [hkr.want.outer.cellAt c (by omega)]; exact hu
      have r1 := conv_Id (RowI.of_owns (hkr.live.inner c v hv))
      have r2 := conv_Id (RowI.of_owns (hkr.want.inner c u hu))
      generalize strI (rows c) = bs at *
      have hB' := hide' hB
      clear hkr e e1 hv hu hB
      go_wp2_with fail
      go_quiet (fail)
      have hB2 := hide' (drewN_below hB'.out nq)
      go_wp2
      exact ⟨⟨c + 1, by omega, by go_num, hB2.out⟩, by simp [intOf]; omega⟩
    · have c4 := hkr.box.c4
      have c8 := hkr.box.c8
      clear hkr
      go_wp2
      go_loop [4] (fun i => i = .int .i64 0) (fun _ => 0)
      case atStart => rfl
      case round =>
        obtain rfl := hrel
        go_wp2
        go_loop [5] (fun i => i = .int .i64 0) (fun _ => 0)
        case atStart => rfl
        case round =>
          obtain rfl := hrel
          go_wp2
          go_ret
          exact ⟨rfl, hB⟩
set_option maxRecDepth 100000 in
set_option maxHeartbeats 2000000 in
theorem bookClose (b : Nat) (tag : Nat → Nat) (w : World) (hk : Book w b tag) :
    Calls Tryd.prog 13 #[.pointer (some ⟨b, 0, none⟩)] w fun e w' => e = .returned (.bool true) ∧ Sm (· ≠ 0) tag w w' := by
  obtain ⟨ov, ow, m, vs, us, rows, N, hk⟩ := hk
  have K1 := hide' (stands b tag w ov ow m vs us rows N hk)
  have K2 : Hid (∀ W, Below w.heap.size w W → Calls Tryd.prog 24 #[.pointer (some ⟨b, 0, none⟩)] W fun e w' => e = .returned (.bool true) ∧ (∃ o1 om, BoxB w' b ov ow o1 om N) ∧ Sm (· ≠ 0) tag W w') := fun W hW => closeBytesN b tag W _ _ _ _ _ _ _ (hk.below hW)
  have K3 : Hid (∀ W, (∃ o1 om, BoxB W b ov ow o1 om N) → Calls Tryd.prog 25 #[.pointer (some ⟨b, 0, none⟩)] W fun e w' => e = .returned (.bool true) ∧ w' = W) := fun W ⟨o1, om, hW⟩ => closeInts0 b W _ _ _ _ _ hW
  have K4 : Hid (∀ W, (∃ o1 om, BoxB W b ov ow o1 om N) → Calls Tryd.prog 26 #[.pointer (some ⟨b, 0, none⟩)] W fun e w' => e = .returned (.bool true) ∧ w' = W) := fun W ⟨o1, om, hW⟩ => closeTexts0 b W _ _ _ _ _ hW
  clear hk
  go_enter Tryd.func13, Tryd.ntmps13
  go_wp2_with (first | (go_at_call 23; refine K1.out.mono ?_; rintro e w1 ⟨rfl, hb1⟩; have hb1' := hide' hb1; clear hb1) | (go_at_call 24; refine (K2.out _ hb1'.out).mono ?_; rintro e w3 ⟨rfl, hbx, hs⟩; have hbx' := hide' hbx; have hs' := hide' hs; clear hbx hs) | (go_at_call 25; refine (K3.out _ hbx'.out).mono ?_; rintro e w4 ⟨rfl, hw2⟩; obtain rfl : w3 = w4 := hw2.symm) | (go_at_call 26; refine (K4.out _ hbx'.out).mono ?_; rintro e w4 ⟨rfl, hw2⟩; obtain rfl : w3 = w4 := hw2.symm))
  go_ret
  exact ⟨rfl, (Sm.below hb1'.out).trans hs'.out (fun _ _ => rfl)⟩
end Go.Proofs.YtgfnfbbiojnhaaaDoor.KB

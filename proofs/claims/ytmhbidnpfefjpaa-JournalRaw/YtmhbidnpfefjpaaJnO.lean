/- Open. -/
import Derived.Test.YtmhbidnpfefjpaaJnK
namespace Go.Proofs.Ytmhbidnpfefjpaa
open Go.RowKit
/-- One opening more. -/
def bt1 (b : Nat) : Nat := (b + 1) % 4294967296
/-- What Open of a disk with power answers. -/
def OpP (W : World) (g gb n : Nat) (D : Dk) (e : Ending) (w' : World) : Prop :=
  (e = .returned (.tuple #[.pointer none, .slice none 0 0, .int .i64 52]) ∧ Hid (lookR D.bytes n = none) ∧ Hid (Below W.heap.size W w')) ∨
  ∃ (gj : Nat) (oa : Option Addr) (cap : Nat) (G : List (Nat × List Nat)) (p b : Nat), e = .returned (.tuple #[.pointer (some ⟨gj, 0, none⟩), .slice oa G.length cap, .int .i64 0]) ∧ Hid (lookR D.bytes n = some (G.map (·.2), p, b)) ∧ Hid (p < n ∧ b < 4294967296) ∧ Hid (JnA w' gj g ⟨p, G.length, bt1 b, false⟩) ∧ Hid (DkA w' g gb (wrD D 0 (headB (bt1 b)))) ∧ Hid (RsB w' W.heap.size (.slice oa G.length cap) G) ∧ Hid (W.heap.size ≤ gj) ∧ Hid (Kp g gb W w')
set_option maxRecDepth 100000 in
theorem openNil (W : World) : Calls Try.prog 15 #[.pointer none] W fun e w' => e = .returned (.tuple #[.pointer none, .slice none 0 0, .int .i64 1]) ∧ w' = W := by
  go_enter Try.func15, Try.ntmps15
  go_wp2
  exact bodyPost_ret (v := .tuple #[.pointer none, .slice none 0 0, .int .i64 1]) (by simp [results, Try.results15]) rfl ⟨rfl, rfl⟩
set_option maxRecDepth 100000 in
set_option maxHeartbeats 1000000 in
theorem openFew {W : World} {g gb n : Nat} {D : Dk} (hd : DkA W g gb D) (hk : D.bytes.length = 16 * n) (hn : n < 2) : Calls Try.prog 15 #[.pointer (some ⟨g, 0, none⟩)] W fun e w' => e = .returned (.tuple #[.pointer none, .slice none 0 0, .int .i64 51]) ∧ w' = W := by
  have K := hide' (blocksF hd hk (by omega))
  have hn' : (n : Int) < 2 := by omega
  clear hd
  go_enter Try.func15, Try.ntmps15
  go_wp2_with (first | (go_at_call 18; refine K.out.mono ?_; rintro e' w1 ⟨rfl, hw1'⟩; obtain rfl : W = w1 := hw1'.symm))
  exact bodyPost_ret (v := .tuple #[.pointer none, .slice none 0 0, .int .i64 51]) (by simp [results, Try.results15]) rfl ⟨rfl, rfl⟩
set_option maxRecDepth 100000 in
set_option maxHeartbeats 1000000 in
theorem openDown {W : World} {g gb n : Nat} {D : Dk} (hd : DkA W g gb D) (hk : D.bytes.length = 16 * n) (hn : 2 ≤ n) (hn6 : n ≤ 65536) (hp : D.power = false) : Calls Try.prog 15 #[.pointer (some ⟨g, 0, none⟩)] W fun e w' => e = .returned (.tuple #[.pointer none, .slice none 0 0, .int .i64 50]) ∧ w' = W := by
  have K := hide' (blocksF hd hk (by omega))
  have KP := hide' (powerF hd)
  rw [hp] at KP
  have hn' : ¬ (n : Int) < 2 := by omega
  clear hd
  go_enter Try.func15, Try.ntmps15
  go_wp2_with (first | (go_at_call 18; refine K.out.mono ?_; rintro e' w1 ⟨rfl, hw1'⟩; obtain rfl : W = w1 := hw1'.symm) | (go_at_call 35; refine KP.out.mono ?_; rintro e' w1 ⟨rfl, hw1'⟩; obtain rfl : W = w1 := hw1'.symm))
  exact bodyPost_ret (v := .tuple #[.pointer none, .slice none 0 0, .int .i64 50]) (by simp [results, Try.results15]) rfl ⟨rfl, rfl⟩
set_option maxRecDepth 100000 in
set_option maxHeartbeats 4000000 in
theorem openJ {W : World} {g gb n : Nat} {D : Dk} (hd : DkA W g gb D) (hk : DkO D n) (hn : 2 ≤ n) (hp : D.power = true) (hb : ∀ z ∈ D.bytes, z < 256) (hw : D.writes < 1000000000000) : Calls Try.prog 15 #[.pointer (some ⟨g, 0, none⟩)] W (OpP W g gb n D) := by
  have hk' := hide' hk
  have hd' := hide' hd
  have K := hide' (blocksF hd hk.len hk.most)
  have KP := hide' (powerF hd)
  rw [hp] at KP
  have hn' : ¬ (n : Int) < 2 := by omega
  have hB1 : Hid (Below W.heap.size W (W.alloc (.cells #[.pointer (some ⟨g, 0, none⟩), .int .i64 1, .int .i64 0, .int .u32 0, .bool false] 74))) := (Below.refl _ _).alloc (Nat.le_refl _) _
  have hj1 : Hid (JnA (W.alloc (.cells #[.pointer (some ⟨g, 0, none⟩), .int .i64 1, .int .i64 0, .int .u32 0, .bool false] 74)) W.heap.size g ⟨1, 0, 0, false⟩) := heap_new _ _
  have hd1 := hide' (hd.below hB1.out (Nat.le_refl _))
  have KL := hide' (lookJ hj1.out hd1.out hk.len hn hk.most hp hb)
  unfold LkP at KL
  have hlow : Hid (g < W.heap.size ∧ gb < W.heap.size) := ⟨blk_lt hd.1, blk_lt hd.2⟩
  have hsz : Hid ((W.alloc (.cells #[.pointer (some ⟨g, 0, none⟩), .int .i64 1, .int .i64 0, .int .u32 0, .bool false] 74)).heap.size = W.heap.size + 1) := size_alloc _ _
  clear hd hk hb
  have hp' := hide' hp
  clear hp
  unfold OpP
  generalize hO : lookR D.bytes n = O at *
  clear hO
  go_enter Try.func15, Try.ntmps15
  go_wp2_with (first | (go_at_call 18; refine K.out.mono ?_; rintro e' w1 ⟨rfl, hw1'⟩; obtain rfl : W = w1 := hw1'.symm) | (go_at_call 35; refine KP.out.mono ?_; rintro e' w1 ⟨rfl, hw1'⟩; obtain rfl : W = w1 := hw1'.symm))
  generalize W.alloc (.cells #[.pointer (some ⟨g, 0, none⟩), .int .i64 1, .int .i64 0, .int .u32 0, .bool false] 74) = WJ at *
  obtain ⟨gj, hgj⟩ : ∃ x, x = W.heap.size := ⟨_, rfl⟩
  rw [← hgj] at KL ⊢
  have hgj' := hide' hgj
  clear hgj
  refine KL.out.mono ?_
  rintro e' w2 ⟨hk2, ⟨rfl, hO⟩ | ⟨oa, cap, G, p, b, rfl, hO, hpn, hR⟩⟩
  · have hbe : Hid (Below W.heap.size W w2) := hB1.out.trans (hk2.out.below (by rw [hgj'.out]; exact Nat.le_refl _) (by rw [hgj'.out]; exact Nat.le_refl _) hB1.out.size)
    go_wp2
    refine bodyPost_ret (v := .tuple #[.pointer none, .slice none 0 0, .int .i64 52]) (by simp [results, Try.results15]) rfl (.inl ⟨rfl, hO, hbe⟩)
  · have hbe : Hid (Below W.heap.size W w2) := hB1.out.trans (hk2.out.below (by rw [hgj'.out]; exact Nat.le_refl _) (by rw [hgj'.out]; exact Nat.le_refl _) hB1.out.size)
    have hj2 := hide' hR.out.jn
    have hd2 := hide' hR.out.dk
    have hr2 := hide' hR.out.rs
    obtain ⟨c0, c1, c2, c3, c4⟩ := hj2.out.cells
    have f2 := hj2.out.free
    have hbw : IntKind.u32.wrap ((b : Int) + 1) = ((bt1 b : Nat) : Int) := by
      unfold IntKind.wrap bt1
      simp [IntKind.bits, IntKind.signed]
    have hbl : bt1 b < 4294967296 := Nat.mod_lt _ (by decide)
    have hj3 := hide' (hj2.out.set3 (bt1 b))
    have hk3 : Hid (Kp gj gj w2 (w2.setCell ⟨gj, 3, none⟩ (.int .u32 ((bt1 b : Nat) : Int)))) := (Kp.refl _ _ _).set _ _
    have hnd := hide' (hj2.out.nd hd2.out)
    have hd3 := hide' (hd2.out.kp hk3.out hnd.out.1.symm hnd.out.1.symm hnd.out.2.symm hnd.out.2.symm)
    have hr3 : Hid (RsB (w2.setCell ⟨gj, 3, none⟩ (.int .u32 ((bt1 b : Nat) : Int))) (W.heap.size + 1) (.slice oa G.length cap) G) := by
      have := hr2.out
      rw [hsz.out] at this
      exact this.kp hk3.out (by rw [hgj'.out]; omega) (by rw [hgj'.out]; omega)
    have KH := hide' (headF (bt1 b) (w2.setCell ⟨gj, 3, none⟩ (.int .u32 ((bt1 b : Nat) : Int))) hbl)
    dsimp only at c3
    clear hR KL K KP hd1 hj1
    generalize hgl : G.length = gl at *
    have hgl' := hide' hgl
    clear hgl
    generalize hbb : bt1 b = b2 at *
    have hbb' := hide' hbb
    clear hbb
    have c3' := hj3.out.cells.2.2.2.1
    dsimp only at c3'
    go_wp2_with fail
    refine KH.out.mono ?_
    rintro e' w4 ⟨rfl, hb4⟩
    have hj4 := hide' (hj3.out.below hb4 (blk_lt hj3.out))
    have hd4 := hide' (hd3.out.below hb4 (Nat.le_refl _))
    have hr4 := hide' (hr3.out.below hb4)
    have hb4' := hide' hb4
    clear hb4 KH
    have KW := hide' (writeJ hj4.out hd4.out hk'.out 0 (by omega) (headB b2) (headB_len _) hw)
    unfold WjP at KW
    rw [show ((0 : Nat) : Int) = 0 from rfl] at KW
    go_wp2_with fail
    refine KW.out.mono ?_
    rintro e' w5 ⟨r, D', rfl, hc5, hd5, hk5⟩
    obtain ⟨rfl, rfl⟩ : r = 0 ∧ D' = wrD D 0 (headB b2) := by
      rcases hc5.out with ⟨_, h1, h2⟩ | ⟨h0, _, _⟩
      · exact ⟨h1, h2⟩
      · rw [hp'.out] at h0; cases h0
    go_wp2
    refine bodyPost_ret (v := .tuple #[.pointer (some ⟨gj, 0, none⟩), .slice oa gl cap, .int .i64 0]) (by simp [results, Try.results15]) rfl (.inr ⟨gj, oa, cap, G, p, b, by rw [hgl'.out], hO, hpn, ?_, by rw [hbb'.out]; exact hd5, ?_, by rw [hgj'.out]; exact Nat.le_refl _, ?_⟩)
    · rw [hgl'.out, hbb'.out]
      exact hj4.out.kp hk5.out hnd.out.1 hnd.out.2
    · rw [hgl'.out]
      exact (hr4.out.low (Nat.le_succ _)).kp hk5.out hlow.out.1 hlow.out.2
    · have k3 : Below W.heap.size w2 (w2.setCell ⟨gj, 3, none⟩ (.int .u32 (b2 : Int))) := hk3.out.below (by rw [hgj'.out]; exact Nat.le_refl _) (by rw [hgj'.out]; exact Nat.le_refl _) hbe.out.size
      have k4 : Below W.heap.size W w4 := (hbe.out.trans k3).trans (hb4'.out.mono (Nat.le_trans hbe.out.size hk3.out.size))
      exact (Kp.of_below k4).trans hk5.out
end Go.Proofs.Ytmhbidnpfefjpaa

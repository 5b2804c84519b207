/- Scan: what it answers. -/
import Derived.Test.YtghodeggobgclaaLStepB
import Derived.Test.YtghodeggobgclaaLStepC
import Derived.Test.YtghodeggobgclaaLStepD
import Derived.Test.YtghodeggobgclaaLStepE
import Derived.Deep.LoopGhost
namespace Go.Proofs.Ytghodeggobgclaa
open Go.RowKit Go.Shelf
theorem stepF {w0 w : World} {K : Kd} {T : List UInt8} {a s l : Nat} {v : Value} {toks : List Tok} (H : Sc w0 w K T a s l v toks) (htk : toks.length + 1 ≤ a + l) (ha : a < T.length) :
    Calls Try.prog 36 #[.pointer (some ⟨w0.heap.size, 0, none⟩)] w (StepPost w0 K T a s l toks) := by
  obtain ⟨c, r, hT⟩ : ∃ c r, T.drop a = c :: r := by
    cases h : T.drop a with
    | nil => have := congrArg List.length h; simp at this; omega
    | cons c r => exact ⟨c, r, rfl⟩
  cases hb : isBl c
  · cases hr : isRm c
    · cases he : isEnd c
      · cases hc : cutT (c :: r) with
        | error er => exact stepErr H htk hT hb hr he hc
        | ok x => obtain ⟨kd, n, vl⟩ := x; exact stepOk H htk hT hb hr he hc
      · exact stepEn H htk hT hb hr he
    · exact stepRm H htk hT hb hr
  · exact stepBl H htk hT hb
/-- A scan's answer. -/
def ScanPost (T : List UInt8) (w : World) (e : Ending) (w' : World) : Prop :=
  Below w.heap.size w w' ∧ ∃ v er ln cl toks, e = .returned (.tuple #[v, .agg #[.int .i64 er, .int .i64 ln, .int .i64 cl]]) ∧ w'.ownsRow w.heap.size 35 5 v toks.length (cellsT toks) ∧
    ((er ≠ 0 ∧ scanT T = .error (er, ln, cl) ∧ toks = []) ∨ (er = 0 ∧ ln = 0 ∧ cl = 0 ∧ scanT T = .ok toks))
theorem owns_low {W : World} {b b' : Nat} {e : TypeId} {sz : Nat} {v : Value} {n : Nat} {xs : List Value} (h : W.ownsRow b e sz v n xs) (hb : b' ≤ b) : W.ownsRow b' e sz v n xs := by
  refine ⟨h.1, ?_⟩
  rcases h.2 with hn | ⟨g, cap, cur, rfl, hb', rest⟩
  · exact .inl hn
  · exact .inr ⟨g, cap, cur, rfl, Nat.le_trans hb hb', rest⟩
/-- The fault's block. -/
def fblk (W : World) (B : Nat) : Prop := W.heap[B]? = some (.cells #[.int .i64 0, .int .i64 0, .int .i64 0] 37)
theorem fblk_cells {W : World} {B : Nat} (h : fblk W B) : W.cell? ⟨B, 0, none⟩ = some (.int .i64 0) ∧ W.cell? ⟨B, 1, none⟩ = some (.int .i64 0) ∧ W.cell? ⟨B, 2, none⟩ = some (.int .i64 0) ∧ W.frozen? ⟨B, 0, none⟩ = false ∧ W.frozen? ⟨B, 1, none⟩ = false ∧ W.frozen? ⟨B, 2, none⟩ = false := by
  unfold fblk at h
  simp [World.cell?, World.frozen?, h]
theorem below_set3 {n B : Nat} {w W : World} (h : Below n w W) (hB : n ≤ B) (a b c : Value) : Below n w (((W.setCell ⟨B, 0, none⟩ a).setCell ⟨B, 1, none⟩ b).setCell ⟨B, 2, none⟩ c) :=
  ((h.setCell (p := ⟨B, 0, none⟩) hB _).setCell (p := ⟨B, 1, none⟩) hB _).setCell (p := ⟨B, 2, none⟩) hB _
theorem owns_set3 {W : World} {n B : Nat} {e : TypeId} {sz : Nat} {v : Value} {m : Nat} {xs : List Value} (h : W.ownsRow n e sz v m xs) (hB : B < n) (a b c : Value) : (((W.setCell ⟨B, 0, none⟩ a).setCell ⟨B, 1, none⟩ b).setCell ⟨B, 2, none⟩ c).ownsRow n e sz v m xs := by
  refine owns_same h fun g _ e => ?_
  have hg : n ≤ g := by
    rcases h.2 with ⟨rfl, _⟩ | ⟨g', cap, cur, rfl, hb, _⟩
    · cases e
    · have : g' = g := by simpa [Value.ownBlock] using e
      omega
  have hne : g ≠ B := by omega
  rw [setCell_far hne, setCell_far hne, setCell_far hne]
set_option maxRecDepth 100000 in
set_option maxHeartbeats 8000000 in
theorem scanF (T : List UInt8) (w : World) (hm : T.length ≤ 9223372036854775807) : Calls Try.prog 13 #[.string (bs T)] w (ScanPost T w) := by
  have hsz := bs_size T
  by_cases hbig : 65536 < T.length
  · have hP : Hid (∀ W : World, Below w.heap.size w W → ScanPost T w (.returned (.tuple #[.slice none 0 0, .agg #[.int .i64 2, .int .i64 0, .int .i64 0]])) W) := fun W hb => by
      refine ⟨hb, _, 2, 0, 0, [], rfl, World.ownsRow_nil _ _ _ _, .inl ⟨by decide, ?_, rfl⟩⟩
      unfold scanT
      rw [if_pos hbig]
    generalize bs T = st at *
    go_enter Try.func13, Try.ntmps13
    go_wp2_with fail
    exact bodyPost_ret (v := .tuple #[.slice none 0 0, .agg #[.int .i64 2, .int .i64 0, .int .i64 0]]) (by simp [results, Try.results13, go_sem]) rfl (hP.out _ ((Below.refl _ w).alloc (Nat.le_refl _) _))
  · have hsc : Hid (scanT T = scanW (T.drop 0) 1 (0 - 0 + 1) []) := by show _ = _; unfold scanT; rw [if_neg hbig]; rfl
    have hst : Hid (∃ st, bs T = st) := ⟨_, rfl⟩
    obtain ⟨st, hst⟩ := hst.out
    rw [hst] at hsz
    rw [hst]
    have hst' := hide' hst
    clear hst
    go_enter Try.func13, Try.ntmps13
    go_wp2_with fail
    refine (kindsOB _).mono ?_
    rintro e w1 ⟨K, rfl, hK, hb1⟩
    have B1 : Hid (Below w.heap.size w w1) := ((Below.refl _ w).alloc (Nat.le_refl _) _).trans (hb1.mono (by simp))
    have F1 : Hid (fblk w1 w.heap.size) := by
      show _ = _
      rw [hb1.block _ (by simp)]
      exact heap_alloc_new w _
    have hK' := hide' hK
    clear hb1 hK
    unfold Kd.v
    have H1 : Hid (Sc w1 (w1.alloc (.cells #[fv K.g0 K.l0, fv K.g1 K.l1, fv K.g2 K.l2, fv K.g3 K.l3, fv K.g4 K.l4, fv K.g5 K.l5, fv K.g6 K.l6, fv K.g7 K.l7, .string st, .int .i64 0, .int .i64 0, .int .i64 1, .slice none 0 0] 91)) K T 0 0 1 (.slice none 0 0) []) :=
      ⟨by rw [hst'.out]; exact heap_alloc_new w1 _, World.ownsRow_nil _ _ _ _, (Below.refl _ w1).alloc (Nat.le_refl _) _, hK'.out, Nat.zero_le _, Nat.le_refl _, by omega, Nat.le_refl _, by simp⟩
    go_wp2_with fail
    go_loopg [] T.length (fun gf wx => ∃ a s l v toks, Hid (Sc w1 wx K T a s l v toks) ∧ toks.length + 1 ≤ a + l ∧ T.length ≤ a + gf ∧ a ≤ T.length ∧ Hid (scanT T = scanW (T.drop a) l (a - s + 1) toks))
    case atStart => exact ⟨0, 0, 1, _, [], H1.out, by simp, by omega, Nat.zero_le _, hsc.out⟩
    case round =>
      obtain ⟨a, s, l, v, toks, H, htk, hgf, haT, hsc2⟩ := hrel
      clear H1 hsc
      obtain ⟨-, x9, -⟩ := H.out.cells
      by_cases hlt : a < T.length
      · obtain ⟨g', rfl⟩ : ∃ g', gk = g' + 1 := ⟨gk - 1, by omega⟩
        have KS := hide' (stepF H.out htk hlt)
        go_wp2_with fail
        refine KS.out.mono ?_
        clear KS
        rintro e w2 (⟨rfl, a', s', l', toks', v', H2, h1, h2, h3⟩ | ⟨er, hne, rfl, ⟨v', H2⟩, h3⟩)
        · have H2' := hide' H2
          have aT := H2.aT
          clear H2 x9
          have h3' := hide' (hsc2.out.trans h3)
          clear h3 hsc2 H hK' F1 B1
          go_wp2_with fail
          go_roundg g'
          case measure => omega
          case rel => exact ⟨a', s', l', v', toks', H2'.out, h2, by omega, aT, h3'.out⟩
        · have H2' := hide' H2
          have hne2 : (er != 0) = true := by simpa using hne
          clear x9
          obtain ⟨-, x9, x10, x11, -⟩ := H2.cells
          have hs1 := H2.sa
          have hs2 := H2.tT
          have KC : Hid (∀ W : World, W.cell? ⟨w1.heap.size, 9, none⟩ = some (.int .i64 (a : Int)) → W.cell? ⟨w1.heap.size, 10, none⟩ = some (.int .i64 (s : Int)) → Calls Try.prog 37 #[.pointer (some ⟨w1.heap.size, 0, none⟩)] W fun e w' => e = .returned (.int .i64 ((a - s + 1 : Nat) : Int)) ∧ ∃ n, w' = W.drewN n) := fun W h1 h2 => colF _ a s W h1 h2 (by omega) (by omega)
          have hwb : w.heap.size < w1.heap.size := (Array.getElem?_eq_some_iff.1 F1.out).1
          have F2 : fblk w2 w.heap.size := (H2.bl.block _ hwb).trans F1.out
          obtain ⟨c0, c1, c2, f0, f1, f2⟩ := fblk_cells F2
          have B2 : Hid (Below w.heap.size w w2) := B1.out.trans (H2.bl.mono B1.out.size)
          have hP : Hid (∀ W : World, Below w.heap.size w W → ScanPost T w (.returned (.tuple #[.slice none 0 0, .agg #[.int .i64 er, .int .i64 (l : Int), .int .i64 ((a - s + 1 : Nat) : Int)]])) W) := fun W hb =>
            ⟨hb, _, er, l, (a - s + 1 : Nat), [], rfl, World.ownsRow_nil _ _ _ _, .inl ⟨hne, hsc2.out.trans h3, rfl⟩⟩
          generalize a - s + 1 = d at *
          clear h3 H2 H hK' F1 B1 hne F2 hsc2 htk
          go_upto_region 7 with fail
          go_region_with (go_at_call 37; refine (KC.out _ (by simpa using x9) (by simpa using x10)).mono ?_; rintro e w3 ⟨rfl, n3, rfl⟩)
          all_goals go_wp2_with fail
          all_goals exact bodyPost_ret (v := .tuple #[.slice none 0 0, .agg #[.int .i64 er, .int .i64 (l : Int), .int .i64 (d : Int)]]) (by simp [results, Try.results13, go_sem, c0, c1, c2]) rfl (hP.out _ (below_set3 (B2.out.trans ((drew_below _ _).mono B2.out.size)) (Nat.le_refl _) _ _ _))
      · obtain rfl : a = T.length := by omega
        have KE := hide' (endLineF H.out htk)
        have hend : Hid (scanT T = .ok (endL toks l (T.length - s + 1 : Nat))) := by show _ = _; rw [hsc2.out, List.drop_eq_nil_of_le (Nat.le_refl _), scan_nil]
        go_wp2_with fail
        refine KE.out.mono ?_
        rintro e w2 ⟨rfl, v2, H2⟩
        clear x9
        obtain ⟨-, -, -, -, x12⟩ := H2.cells
        have hwb : w.heap.size < w1.heap.size := (Array.getElem?_eq_some_iff.1 F1.out).1
        have F2 : fblk w2 w.heap.size := (H2.bl.block _ hwb).trans F1.out
        obtain ⟨c0, c1, c2, f0, f1, f2⟩ := fblk_cells F2
        have B2 : Hid (Below w.heap.size w w2) := B1.out.trans (H2.bl.mono B1.out.size)
        obtain ⟨o2, cap2, rfl⟩ := own_shapeT H2.row
        have hrow := hide' H2.row
        have hz := hide' B1.out.size
        generalize endL toks l (T.length - s + 1 : Nat) = tk at *
        clear H2 H KE hK' F1 B1 F2 hsc2 htk
        go_wp2_with fail
        refine bodyPost_ret (v := .tuple #[.slice o2 tk.length cap2, .agg #[.int .i64 0, .int .i64 0, .int .i64 0]]) (by simp [results, Try.results13, go_sem, c0, c1, c2]) rfl ?_
        exact ⟨below_set3 B2.out (Nat.le_refl _) _ _ _, _, 0, 0, 0, tk, rfl, owns_low (owns_set3 hrow.out (by omega) _ _ _) (by have := hz.out; omega), .inr ⟨rfl, rfl, rfl, hend.out⟩⟩
end Go.Proofs.Ytghodeggobgclaa

/- The document's Depth. -/
import Derived.Test.YtegpgjiccpglbaaDoorYRef3
import Derived.Deep.QuietTactic
import Derived.Deep.CutBlock
import Derived.Deep.CutRange
import Derived.BigQuiet
namespace Go.Proofs.YtegpgjiccpglbaaDoor
open Go.RowKit
theorem infoN : (Tryd.prog.info? 3).map (fun i => (i.zero, i.size, i.bytes)) = some (some (.int .i64 0), 1, 8) := by kernel_rfl
theorem made64 (W : World) : (Instr.makeSlice 55 (.int .i64 64) (.int .i64 64)).run Tryd.prog W = .ok (.slice (some ⟨W.heap.size, 0, none⟩) 64 64) (W.alloc (.cells (madeCells #[.int .i64 0] 64) 3)) := by
  obtain ⟨i0, hi, hz0, hz1, hz2⟩ := info_q infoN
  exact run_make_row (P := Tryd.prog) 55 3 i0 (.int .i64 0) Tryd.underlying55 hi hz0 hz1 rfl .i64 .i64 64 (by rw [hz2]; decide) (by decide) W
theorem keepD {V : World} {r g2 i1 i2 g x y : Nat} {u0 u1 u2 u3 z : Value} (hr : r ≠ g) (hg : g2 ≠ g) (hxy : x ≠ y) (h : V.cell? ⟨r, 0, none⟩ = some u0 ∧ V.cell? ⟨g2, i1, none⟩ = some u1 ∧ V.cell? ⟨g2, i2, none⟩ = some u2 ∧ V.cell? ⟨g, y, none⟩ = some u3) :
    (V.setCell ⟨g, x, none⟩ z).cell? ⟨r, 0, none⟩ = some u0 ∧ (V.setCell ⟨g, x, none⟩ z).cell? ⟨g2, i1, none⟩ = some u1 ∧ (V.setCell ⟨g, x, none⟩ z).cell? ⟨g2, i2, none⟩ = some u2 ∧ (V.setCell ⟨g, x, none⟩ z).cell? ⟨g, y, none⟩ = some u3 := by
  refine ⟨?_, ?_, ?_, ?_⟩
  · rw [World.cell?_setCell_other _ _ _ _ (by intro e; injection e with e1; exact hr e1.symm)]; exact h.1
  · rw [World.cell?_setCell_other _ _ _ _ (by intro e; injection e with e1; exact hg e1.symm)]; exact h.2.1
  · rw [World.cell?_setCell_other _ _ _ _ (by intro e; injection e with e1; exact hg e1.symm)]; exact h.2.2.1
  · rw [World.cell?_setCell_other _ _ _ _ (by intro e; injection e with _ e2; exact hxy e2)]; exact h.2.2.2
section
variable {w : World} {r : Nat} {v : Value} {D : List (Int × Int)} {J : Nat → Nat}
set_option maxRecDepth 100000 in
set_option maxHeartbeats 2000000 in
theorem depRR (h : RfAt w r v 0 D) (hw : Wf J) (hy : Acy J) (hs : Sm J D) (x : Int) :
    Calls Tryd.prog 26 #[.pointer (some ⟨r, 0, none⟩), .int .i64 x] w fun e w' => e = .returned (.int .i64 (depI J x : Int)) ∧ Below w.heap.size w w' := by
  have hmk := made64
  have hlen := hs.len
  obtain ⟨oa, cap, rfl⟩ := h.shape
  have H := hide' h
  have hpc : Hid (∀ V, Below w.heap.size w V → ∀ (i : Nat) (p : Int × Int), D[i]? = some p → ∃ g o, oa = some ⟨g, o, none⟩ ∧ g < w.heap.size ∧ V.cell? ⟨g, o + i * 2, none⟩ = some (.int .i64 p.1) ∧ V.cell? ⟨g, o + i * 2 + 1, none⟩ = some (.int .i64 p.2)) := fun V hV i p hp => by
    obtain ⟨oa', cap', e, _, hh⟩ := h.pairs
    cases e
    obtain ⟨g, o, e, c1, c2⟩ := hh i p hp
    exact ⟨g, o, e, cell_lt c1, cell_over c1 hV, cell_over c2 hV⟩
  have hlk := hide' (fun p (hp : p ∈ D) => hs.link hw hp)
  have hall := hide' (fun i (hi : i < 64) => rlxN_all hw hy hs (i := i) hi)
  have hle : Hid (∀ n c i, i < 64 → rlxL (D.take c) (rlxN D n) i ≤ 63) := fun n c i hi => Nat.le_trans (rlxL_le hw hy _ _ (fun p hp => hs.link hw (List.mem_of_mem_take hp)) (fun k hk => (rlxN_ok hw hy hs n k hk).1) i hi) (dep_le hw hy hi)
  have hirr : Hid (∀ a b, E J a b → a ≠ b) := fun a b hE e => hy a b hE (e ▸ Rc.refl J a)
  have hwf := hide' hw
  clear h hs hw hy
  generalize hm : D.length = m at *
  have hm' := hide' hm
  clear hm
  have hrl := H.out.lt
  have hst : Hid ((w.alloc (.cells (madeCells #[.int .i64 0] 64) 3)).rowIs w.heap.size 3 64 (fun i => .int .i64 ((rlxN D 0 i : Nat) : Int))) := World.rowIs_made w (.int .i64 0) 64 3
  go_enter Tryd.func26, Tryd.ntmps26
  go_upto_block 0 with fail
  go_cut [6, 7] from 9 to 67 (fun s6 s7 wx => Hid (wx.rowIs w.heap.size 3 64 (fun i => .int .i64 ((rlxN D 64 i : Nat) : Int))) ∧ Below w.heap.size w wx)
  case first =>
    as_aux_lemma =>
    go_wp2_with fail
    go_loopw [6, 7] (fun k s7 wr => ∃ n : Nat, n ≤ 64 ∧ k = .int .i64 n ∧ Hid (wr.rowIs w.heap.size 3 64 (fun i => .int .i64 ((rlxN D n i : Nat) : Int))) ∧ Below w.heap.size w wr) (fun k _ _ => (64 - intOf k).toNat)
    case atStart => exact ⟨0, by omega, rfl, hst, (Below.refl _ _).alloc (Nat.le_refl _) _⟩
    case round =>
      clear hst hmk
      obtain ⟨n, hn, rfl, hd, hB⟩ := hrel
      by_cases hlt : n < 64
      · have hdn : decide ((n : Int) < 64) = true := by simp; omega
        have c0 := (H.out.over hB).cell
        go_wp2_with fail
        go_loopw [7] (fun k wv => ∃ c : Nat, c ≤ m ∧ k = .int .i64 c ∧ Hid (wv.rowIs w.heap.size 3 64 (fun i => .int .i64 ((rlxL (D.take c) (rlxN D n) i : Nat) : Int))) ∧ Below w.heap.size w wv) (fun k _ => ((m : Int) - intOf k).toNat)
        case atStart => exact ⟨0, by omega, rfl, hd, hB⟩
        case round =>
          clear hd hB c0
          obtain ⟨c, hc, rfl, hd, hB⟩ := hrel
          have c0 := (H.out.over hB).cell
          by_cases hlc : c < m
          · obtain ⟨p, hp⟩ : ∃ p, D[c]? = some p := ⟨_, List.getElem?_eq_getElem (by have := hm'.out; omega)⟩
            have htk := hide' (rlxL_take hp (rlxN D n))
            obtain ⟨x1, y1, hE, rfl⟩ := hlk.out p (List.mem_of_getElem? hp)
            obtain ⟨g, o, rfl, hgl, c1, c2⟩ := hpc.out wr hB c _ hp
            have hx1 := hE.1
            have hy1 := hE.lt hwf.out
            have hne := hirr.out _ _ hE
            have k1 := hd.out.cell hy1
            have k2 := hd.out.cell hx1
            have f2 := hd.out.frozen x1
            have l1 := hle.out n c y1 hy1
            have l2 := hle.out n c x1 hx1
            have g1 : (x1 : Int) < 64 := by omega
            have g2 : (0 : Int) ≤ (x1 : Int) := by omega
            have g3 : (y1 : Int) < 64 := by omega
            have g4 : (0 : Int) ≤ (y1 : Int) := by omega
            have g5 : (c : Int) < (m : Int) := by omega
            have g6 : (0 : Int) ≤ (c : Int) := by omega
            simp only [] at c1 c2
            clear hp hE hlk hall hle hirr hwf hpc
            generalize hdf : rlxL (D.take c) (rlxN D n) = df at *
            unfold rlx at htk
            simp only [Int.toNat_natCast] at htk
            by_cases hlt2 : df x1 < df y1 + 1
            · rw [if_pos hlt2] at htk
              have hset := hd.out.set x1 (.int .i64 ((df y1 + 1 : Nat) : Int))
              have hset2 : Hid (∀ V : World, V.rowIs w.heap.size 3 64 (fun i => .int .i64 ((df i : Nat) : Int)) → (V.setCell ⟨w.heap.size, x1, none⟩ (.int .i64 ((df y1 : Int) + 1))).rowIs w.heap.size 3 64 (fun i => .int .i64 ((rlxL (D.take (c + 1)) (rlxN D n) i : Nat) : Int))) := fun V hV => by
                have := hV.set x1 (.int .i64 ((df y1 + 1 : Nat) : Int))
                rw [show ((df y1 + 1 : Nat) : Int) = (df y1 : Int) + 1 by omega] at this
                refine this.congr fun i _ => ?_
                rw [htk.out]
                dsimp only
                split
                · rw [show ((df y1 + 1 : Nat) : Int) = (df y1 : Int) + 1 by omega]
                · rfl
              have hw1 : IntKind.i64.wrap ((df y1 : Int) + 1) = (df y1 : Int) + 1 := by
                simp only [IntKind.wrap, IntKind.bits, IntKind.signed]; simp; omega
              have e1 : decide ((df x1 : Int) < (df y1 : Int) + 1) = true := by simp; omega
              have e2 : decide (df x1 < df y1 + 1) = true := by simpa using hlt2
              have hkp : Hid (∀ V : World, V.cell? ⟨r, 0, none⟩ = some (.slice (some ⟨g, o, none⟩) m cap) ∧ V.cell? ⟨g, o + c * 2 + 1, none⟩ = some (.int .i64 (y1 : Int)) ∧ V.cell? ⟨g, o + c * 2, none⟩ = some (.int .i64 (x1 : Int)) ∧ V.cell? ⟨w.heap.size, y1, none⟩ = some (.int .i64 (df y1 : Int)) → (V.setCell ⟨w.heap.size, x1, none⟩ (.int .i64 ((df y1 : Int) + 1))).cell? ⟨r, 0, none⟩ = some (.slice (some ⟨g, o, none⟩) m cap) ∧ (V.setCell ⟨w.heap.size, x1, none⟩ (.int .i64 ((df y1 : Int) + 1))).cell? ⟨g, o + c * 2 + 1, none⟩ = some (.int .i64 (y1 : Int)) ∧ (V.setCell ⟨w.heap.size, x1, none⟩ (.int .i64 ((df y1 : Int) + 1))).cell? ⟨g, o + c * 2, none⟩ = some (.int .i64 (x1 : Int)) ∧ (V.setCell ⟨w.heap.size, x1, none⟩ (.int .i64 ((df y1 : Int) + 1))).cell? ⟨w.heap.size, y1, none⟩ = some (.int .i64 (df y1 : Int))) := fun V hV => keepD (by omega) (by omega) hne hV
              have hi0 : Hid (∀ q, (wr.drewN q).drew.cell? ⟨r, 0, none⟩ = some (.slice (some ⟨g, o, none⟩) m cap) ∧ (wr.drewN q).drew.cell? ⟨g, o + c * 2 + 1, none⟩ = some (.int .i64 (y1 : Int)) ∧ (wr.drewN q).drew.cell? ⟨g, o + c * 2, none⟩ = some (.int .i64 (x1 : Int)) ∧ (wr.drewN q).drew.cell? ⟨w.heap.size, y1, none⟩ = some (.int .i64 (df y1 : Int))) := fun q => ⟨c0, c2, c1, k1⟩
              have hdv := hide' hd.out
              clear hset htk hdf hlt2 hne hd
              generalize hdy : df y1 = dy at *
              generalize hdx : df x1 = dx at *
              clear hdy hdx
              go_upto_region 8 with fail
              go_quiet (fail)
              go_wp2
              go_region_held3 (fun V => V.cell? ⟨r, 0, none⟩ = some (.slice (some ⟨g, o, none⟩) m cap) ∧ V.cell? ⟨g, o + c * 2 + 1, none⟩ = some (.int .i64 (y1 : Int)) ∧ V.cell? ⟨g, o + c * 2, none⟩ = some (.int .i64 (x1 : Int)) ∧ V.cell? ⟨w.heap.size, y1, none⟩ = some (.int .i64 (dy : Int))) (first | assumption | (exact hi0.out _) | (exact hkp.out _ (by assumption))) (first | fail)
              go_wp2
              exact ⟨⟨c + 1, by omega, by go_num, hset2.out _ hdv.out, ((below_drewN hB _).drew).setCell (Nat.le_refl _) _⟩, by simp [intOf]; omega⟩
            · rw [if_neg hlt2] at htk
              have hd2 : Hid (∀ q, (wr.drewN q).rowIs w.heap.size 3 64 (fun i => .int .i64 ((rlxL (D.take (c + 1)) (rlxN D n) i : Nat) : Int))) := fun q => by rw [htk.out]; exact hd.out
              have hw1 : IntKind.i64.wrap ((df y1 : Int) + 1) = (df y1 : Int) + 1 := by
                simp only [IntKind.wrap, IntKind.bits, IntKind.signed]; simp; omega
              have e1 : decide ((df x1 : Int) < (df y1 : Int) + 1) = false := by simp; omega
              have e2 : decide (df x1 < df y1 + 1) = false := by simpa using hlt2
              clear htk hdf hlt2 hne hd
              generalize hdy : df y1 = dy at *
              generalize hdx : df x1 = dx at *
              clear hdy hdx
              go_upto_region 8 with fail
              go_quiet (fail)
              go_wp2
              exact ⟨⟨c + 1, by omega, by go_num, hd2.out _, below_drewN hB _⟩, by simp [intOf]; omega⟩
          · obtain rfl : c = m := by omega
            have hfull : D.take c = D := by rw [← hm'.out, List.take_length]
            have hd2 : Hid (wr.rowIs w.heap.size 3 64 (fun i => .int .i64 ((rlxN D (n + 1) i : Nat) : Int))) := by
              have := hd.out
              rw [hfull] at this
              exact this
            clear hd hfull
            go_wp2
            exact ⟨⟨n + 1, by omega, by go_num, hd2, hB⟩, by simp [intOf]; omega⟩
      · obtain rfl : n = 64 := by omega
        go_wp2
        go_meet
        exact ⟨hd, hB⟩
  case rest =>
  as_aux_lemma =>
  obtain ⟨hd, hB⟩ := hcut
  cases hx : okA x with
  | false =>
    have e : depI J x = 0 := by simp [depI, hx]
    have e' := hide' e
    clear e
    go_wp2_with (go_at_call 35; refine (placeR _ _).mono ?_; rintro e w1 ⟨rfl, hw1⟩; have hw2 := hw1.symm; subst hw2; clear hw1)
    go_ret
    exact ⟨by rw [e'.out]; rfl, hB⟩
  | true =>
    have e : depI J x = dep J x.toNat := by simp [depI, hx]
    obtain ⟨i, hi, rfl⟩ := okA_nat hx
    rw [Int.toNat_natCast, ← hall.out i hi] at e
    have e' := hide' e
    have k1 := hd.out.cell hi
    have g1 : (i : Int) < 64 := by omega
    have g2 : (0 : Int) ≤ (i : Int) := by omega
    clear e hall hle hpc hlk hirr hwf
    go_wp2_with (go_at_call 35; refine (placeR _ _).mono ?_; rintro e w1 ⟨rfl, hw1⟩; have hw2 := hw1.symm; subst hw2; clear hw1)
    go_ret
    exact ⟨by rw [e'.out]; rfl, hB⟩
end
end Go.Proofs.YtegpgjiccpglbaaDoor

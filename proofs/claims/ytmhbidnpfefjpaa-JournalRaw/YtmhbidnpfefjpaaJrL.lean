/- The document's Append: what stands while it writes. -/
import Derived.Test.YtmhbidnpfefjpaaJrO
namespace Go.Proofs.Ytmhbidnpfefjpaa
open Go.RowKit
/-- These writes were done. -/
structure Lz (W0 : World) (q r rb cap n : Nat) (J : Jn) (D : Dk) (v : Value) (R : List Nat) (ws : List (Nat × List Nat)) (W : World) : Prop where
  dk : RkA W r rb cap (wrs D ws)
  ok : DkO (wrs D ws) n
  wr : (wrs D ws).writes ≤ D.writes + ws.length
  all : wrsOk D ws = true
  jn : RjA W q r J
  row : RowC W v R
  kp : Kp r rb W0 W
/-- One of these writes was not. -/
structure Lc (W0 : World) (q r rb cap : Nat) (J : Jn) (D : Dk) (ws : List (Nat × List Nat)) (W : World) : Prop where
  dk : RkA W r rb cap (wrs D ws)
  all : wrsOk D ws = false
  jn : RjA W q r J
  kp : Kp r rb W0 W
theorem Lz.up {W0 : World} {q r rb cap n : Nat} {J : Jn} {D : Dk} {v : Value} {R : List Nat} {ws : List (Nat × List Nat)} {W W' : World} (h : Lz W0 q r rb cap n J D v R ws W) (hb : Below W.heap.size W W') : Lz W0 q r rb cap n J D v R ws W' :=
  ⟨h.dk.up hb, h.ok, h.wr, h.all, h.jn.below hb (blk_lt h.jn), h.row.below hb (Nat.le_refl _), h.kp.trans (Kp.of_below hb)⟩
theorem Lc.more {W0 : World} {q r rb cap : Nat} {J : Jn} {D : Dk} {ws : List (Nat × List Nat)} {W : World} (h : Lc W0 q r rb cap J D ws W) (b : List (Nat × List Nat)) : Lc W0 q r rb cap J D (ws ++ b) W := by
  obtain ⟨e1, e2⟩ := wrs_cut h.all b
  exact ⟨by rw [e1]; exact h.dk, e2, h.jn, h.kp⟩
/-- A write more. -/
theorem Lz.write {W0 : World} {q r rb cap n : Nat} {J : Jn} {D : Dk} {v : Value} {R : List Nat} {ws : List (Nat × List Nat)} {W : World} (h : Lz W0 q r rb cap n J D v R ws W) (hv : ∀ x o n c, v = .slice (some ⟨x, o, none⟩) n c → x ≠ r ∧ x ≠ rb) (b : Nat) (P : List Nat) (u : Value) (hu : ∀ X, Kp r rb W X → RowC X u P) (hb : b < n) (hP : P.length = 16) (hw : D.writes + ws.length < 1000000000000) :
    Calls Try.prog 55 #[.pointer (some ⟨r, 0, none⟩), .int .i64 (b : Int), u] W fun e w' => ∃ x : Int, e = .returned (.int .i64 x) ∧ Hid (RjA w' q r J) ∧ Hid (x = 0 ∧ Lz W0 q r rb cap n J D v R (ws ++ [(b, P)]) w' ∨ x = 50 ∧ Lc W0 q r rb cap J D (ws ++ [(b, P)]) w') := by
  have hn := h.jn.nd h.dk
  have hwr := h.wr
  have hfit : Fit n [(b, P)] := fun p hp => by simp only [List.mem_cons, List.not_mem_nil, or_false] at hp; subst hp; exact ⟨hb, hP⟩
  cases hp : (wrs D ws).power with
  | true =>
    refine (rWriteF h.dk h.ok b hb hp P u hu hP (by omega)).mono ?_
    rintro e w' ⟨rfl, hd, hk⟩
    obtain ⟨e, q⟩ := wrs_more (D' := wrD (wrs D ws) b P) (b := b) (P := P) (r := 0) h.all (.inl ⟨hp, rfl, rfl⟩)
    have hj := h.jn.kp hk.out hn.1 hn.2
    have hd' := hd.out
    rw [e] at hd'
    rcases q with ⟨_, q2⟩ | ⟨q1, _⟩
    · have hok := wrs_ok (ws := [(b, P)]) h.ok hfit (by simp only [List.length_cons, List.length_nil]; omega)
      refine ⟨0, rfl, hj, .inl ⟨rfl, hd', ?_, ?_, q2, hj, h.row.kp hk.out hv, h.kp.trans hk.out⟩⟩
      · rw [wrs_app, if_pos h.all]; exact hok.1
      · rw [wrs_app, if_pos h.all]
        have := hok.2.2
        simp only [List.length_append, List.length_cons, List.length_nil] at *
        omega
    · cases q1
  | false =>
    refine (rWriteDown h.dk h.ok (b : Int) P u (hu _ (Kp.refl _ _ _)) ⟨by omega, by omega⟩ hP hp).mono ?_
    rintro e w' ⟨rfl, rfl⟩
    obtain ⟨e, q⟩ := wrs_more (D' := wrs D ws) (b := b) (P := P) (r := 50) h.all (.inr ⟨hp, rfl, rfl⟩)
    rcases q with ⟨q1, _⟩ | ⟨_, q2⟩
    · cases q1
    · exact ⟨50, rfl, h.jn, .inr ⟨rfl, by rw [← e]; exact h.dk, q2, h.jn, h.kp⟩⟩
theorem piece_end (R : List Nat) (i : Nat) : splice z16 0 (((R.drop (16 * i)).take 16).take ((R.drop (16 * i)).take 16).length) = pieceB R i := by
  rw [List.take_length]; rfl
theorem piece_len (R : List Nat) (i : Nat) : ((R.drop (16 * i)).take 16).length = min 16 (R.length - 16 * i) := by simp
theorem piece_at {R : List Nat} {i c : Nat} (h1 : c < 16) (h2 : 16 * i + c < R.length) : ∃ z, R[16 * i + c]? = some z ∧ ((R.drop (16 * i)).take 16)[c]? = some z := by
  refine ⟨_, List.getElem?_eq_getElem h2, ?_⟩
  rw [List.getElem?_take, if_pos h1, List.getElem?_drop, List.getElem?_eq_getElem h2]
theorem BkB.set {W : World} {g : Nat} {L : List Nat} (h : BkB W g L) (i z : Nat) : BkB (W.setCell ⟨g, i, none⟩ (.int .u8 (z : Int))) g (L.set i z) := BkT.set h i z
theorem RowC.cellAt {W : World} {oa : Option Addr} {n cp i z : Nat} {R : List Nat} (h : RowC W (.slice oa n cp) R) (hz : R[i]? = some z) : ∃ g o, oa = some ⟨g, o, none⟩ ∧ W.cell? ⟨g, o + i, none⟩ = some (.int .u8 (z : Int)) := by
  obtain ⟨oa', cp', e, _, hc⟩ := h
  obtain ⟨g, o, e1, e2⟩ := hc i z hz
  injection e with e3
  exact ⟨g, o, e3.trans e1, e2⟩
theorem Lc.lay {W0 : World} {q r rb cap p c i : Nat} {J : Jn} {D : Dk} {R : List Nat} {W : World} (hi : i ≤ spn R.length) (h : Lc W0 q r rb cap J D (pcW p R i) W) : Lc W0 q r rb cap J D (layW p c R) W := by
  have h1 := h.more ((pcW p R (spn R.length)).drop i ++ [(p + 1 + spn R.length, z16), (p, titleB R.length (c + 1))])
  rw [← List.append_assoc, ← pcW_split hi] at h1
  exact h1
theorem layW_eq (p c : Nat) (R : List Nat) : layW p c R = (pcW p R (spn R.length) ++ [(p + 1 + spn R.length, z16)]) ++ [(p, titleB R.length (c + 1))] := by
  unfold layW
  rw [List.append_assoc]
  rfl
theorem bk_kp {W X : World} {g r rb : Nat} {L : List Nat} (h : BkB W g L) (k : Kp r rb W X) (h1 : g ≠ r) (h2 : g ≠ rb) (hl : L.length = 16) : RowC X (.slice (some ⟨g, 0, none⟩) 16 16) L :=
  RowC.of_bk (show BkB X g L from (k.block g (blk_lt h) h1 h2).trans h) (fun i z hz => by rw [Nat.zero_add]; exact hz) hl.symm (Nat.le_refl _)
theorem make16J (w : World) : ∃ w', (Instr.makeSlice 34 (.int .i64 16) (.int .i64 16)).run Try.prog w = .ok (.slice (some ⟨w.heap.size, 0, none⟩) 16 16) w' ∧ Hid (BkB w' w.heap.size (List.replicate 16 0)) ∧ Hid (Below w.heap.size w w') := by
  obtain ⟨i0, hi, hz0, hz1, hz2⟩ := info_parts infoU8
  obtain ⟨w', hr, h1, h2⟩ := run_make_full (P := Try.prog) w w.heap.size 34 5 i0 (.int .u8 0) 1 Try.underlying34 hi hz0 hz1 .i64 .i64 16 (by rw [hz2]; omega) (by unfold maxLen; omega) (Nat.le_refl _)
  exact ⟨w', hr, made_bk h1, (Below.refl _ w).grown h2 (Nat.le_refl _) (fun j ej => by cases ej)⟩
end Go.Proofs.Ytmhbidnpfefjpaa

/- lay, Append. -/
import Derived.Test.YtmhbidnpfefjpaaJnJ
import Derived.Test.YtmhbidnpfefjpaaJnW
namespace Go.Proofs.Ytmhbidnpfefjpaa
open Go.RowKit
/-- What lay leaves. -/
def LyP (W : World) (g gb : Nat) (D : Dk) (ws : List (Nat × List Nat)) (e : Ending) (w' : World) : Prop :=
  ∃ r : Int, e = .returned (.int .i64 r) ∧ Hid (r = 0 ∧ wrsOk D ws = true ∨ r = 50 ∧ wrsOk D ws = false) ∧ Hid (DkA w' g gb (wrs D ws)) ∧ Hid (Kp g gb W w')
/-- What stands while a record is laid: these writes were done. -/
structure Ly (W0 : World) (gj g gb n : Nat) (J : Jn) (D : Dk) (v : Value) (R : List Nat) (ws : List (Nat × List Nat)) (W : World) : Prop where
  dk : DkA W g gb (wrs D ws)
  ok : DkO (wrs D ws) n
  wr : (wrs D ws).writes ≤ D.writes + ws.length
  all : wrsOk D ws = true
  jn : JnA W gj g J
  row : RowC W v R
  kp : Kp g gb W0 W
theorem RowC.kp {W W' : World} {v : Value} {L : List Nat} {x y : Nat} (h : RowC W v L) (k : Kp x y W W') (h1 : ∀ g o n c, v = .slice (some ⟨g, o, none⟩) n c → g ≠ x ∧ g ≠ y) : RowC W' v L := by
  obtain ⟨oa, cap, e, e0, h⟩ := h
  refine ⟨oa, cap, e, e0, fun i z hz => ?_⟩
  obtain ⟨g, o, e1, e2⟩ := h i z hz
  have ne := h1 g o _ _ (by rw [e, e1])
  refine ⟨g, o, e1, ?_⟩
  have hb := k.block g (cell_lt e2) ne.1 ne.2
  simp only [World.cell?] at e2 ⊢
  rw [hb]; exact e2
theorem Ly.up {W0 : World} {gj g gb n : Nat} {J : Jn} {D : Dk} {v : Value} {R : List Nat} {ws : List (Nat × List Nat)} {W W' : World} (h : Ly W0 gj g gb n J D v R ws W) (hb : Below W.heap.size W W') : Ly W0 gj g gb n J D v R ws W' :=
  ⟨h.dk.below hb (Nat.le_refl _), h.ok, h.wr, h.all, h.jn.below hb (blk_lt h.jn), h.row.below hb (Nat.le_refl _), h.kp.trans (Kp.of_below hb)⟩
theorem Ly.more {W0 : World} {gj g gb n : Nat} {J : Jn} {D D' : Dk} {v : Value} {R : List Nat} {ws : List (Nat × List Nat)} {W W' : World} {b : Nat} {P : List Nat} {r : Int} (h : Ly W0 gj g gb n J D v R ws W) (hv : ∀ x o n c, v = .slice (some ⟨x, o, none⟩) n c → x ≠ g ∧ x ≠ gb) (hb : b < n) (hP : P.length = 16) (hw : D.writes + ws.length < 1000000000000)
    (hc : (wrs D ws).power = true ∧ r = 0 ∧ D' = wrD (wrs D ws) b P ∨ (wrs D ws).power = false ∧ r = 50 ∧ D' = wrs D ws) (hd : DkA W' g gb D') (hk : Kp g gb W W') :
    r = 0 ∧ Ly W0 gj g gb n J D v R (ws ++ [(b, P)]) W' ∨ r = 50 ∧ wrsOk D (ws ++ [(b, P)]) = false ∧ DkA W' g gb (wrs D (ws ++ [(b, P)])) ∧ Kp g gb W0 W' := by
  obtain ⟨e, q⟩ := wrs_more h.all hc
  rw [e] at hd
  rcases q with ⟨q1, q2⟩ | ⟨q1, q2⟩
  · refine .inl ⟨q1, hd, ?_, ?_, q2, h.jn.kp hk (h.jn.nd h.dk).1 (h.jn.nd h.dk).2, h.row.kp hk hv, h.kp.trans hk⟩
    · rw [wrs_app, if_pos h.all]
      exact (wrs_ok h.ok (fun p hp => by simp only [List.mem_cons, List.not_mem_nil, or_false] at hp; subst hp; exact ⟨hb, hP⟩) (by have := h.wr; simp only [List.length_cons, List.length_nil]; omega)).1
    · have := (wrs_ok (ws := [(b, P)]) h.ok (fun p hp => by simp only [List.mem_cons, List.not_mem_nil, or_false] at hp; subst hp; exact ⟨hb, hP⟩) (by have := h.wr; simp only [List.length_cons, List.length_nil]; omega)).2.2
      rw [wrs_app, if_pos h.all]
      have := h.wr
      simp only [List.length_append, List.length_cons, List.length_nil] at *
      omega
  · exact .inr ⟨q1, q2, hd, h.kp.trans hk⟩
/-- A write of the journal's, told by what stands. -/
theorem Ly.write {W0 : World} {gj g gb n : Nat} {J : Jn} {D : Dk} {v : Value} {R : List Nat} {ws : List (Nat × List Nat)} {W : World} (h : Ly W0 gj g gb n J D v R ws W) (hv : ∀ x o n c, v = .slice (some ⟨x, o, none⟩) n c → x ≠ g ∧ x ≠ gb) (b : Nat) (P : List Nat) (hb : b < n) (hP : P.length = 16) (hw : D.writes + ws.length < 1000000000000) :
    Calls Try.prog 38 #[.pointer (some ⟨gj, 0, none⟩), .int .i64 (b : Int), .agg (cellsB P).toArray] W fun e w' => ∃ r : Int, e = .returned (.int .i64 r) ∧ Hid (JnA w' gj g J) ∧ Hid (r = 0 ∧ Ly W0 gj g gb n J D v R (ws ++ [(b, P)]) w' ∨ r = 50 ∧ wrsOk D (ws ++ [(b, P)]) = false ∧ DkA w' g gb (wrs D (ws ++ [(b, P)])) ∧ Kp g gb W0 w') := by
  refine (writeJ h.jn h.dk h.ok b hb P hP (by have := h.wr; omega)).mono ?_
  rintro e w' ⟨r, D', rfl, hc, hd, hk⟩
  exact ⟨r, rfl, h.jn.kp hk.out (h.jn.nd h.dk).1 (h.jn.nd h.dk).2, h.more hv hb hP hw hc.out hd.out hk.out⟩
set_option maxRecDepth 100000 in
set_option maxHeartbeats 4000000 in
theorem layJ {W : World} {gj g gb n : Nat} {J : Jn} {D : Dk} {v : Value} {R : List Nat} (h : JnA W gj g J) (hd : DkA W g gb D) (hk : DkO D n) (hv : RowC W v R) (hvn : ∀ x o n c, v = .slice (some ⟨x, o, none⟩) n c → x ≠ g ∧ x ≠ gb) (hR : R.length ≤ 131072) (he : J.e + 1 + spn R.length < n) (hc : J.c ≤ 100000) (hw : D.writes ≤ 900000000000) :
    Calls Try.prog 41 #[.pointer (some ⟨gj, 0, none⟩), v] W (LyP W g gb D (layW J.e J.c R)) := by
  have hL : Hid (Ly W gj g gb n J D v R [] W) := ⟨hd, hk, by simp [wrs], rfl, h, hv, Kp.refl _ _ _⟩
  have hmost := hk.most
  have zJ := zeroJ
  clear h hd hk
  obtain ⟨oa, cap, rfl, _, _⟩ := hv
  have hvn' := hide' hvn
  clear hvn
  have hsp : spn R.length ≤ 8192 := by unfold spn; omega
  have hti := fun (i : Nat) (h : i < spn R.length) => spn_lt h
  have hti' := hide' hti
  clear hti
  unfold LyP layW
  generalize hm : R.length = m at *
  have hm' := hide' hm
  clear hm
  have KS := hide' (fun W => sizeF (W := W) (oa := oa) (m := m) (cap := cap) (by omega))
  generalize spn m = k at *
  go_enter Try.func41, Try.ntmps41
  go_upto_block 0 with (go_at_call 61; refine (KS.out _).mono ?_; rintro e' w1 ⟨rfl, hw1'⟩; obtain rfl : W = w1 := hw1'.symm)
  go_cut [6, 7, 12] from 11 to 30 (fun _ _ _ wx => Hid (Ly W gj g gb n J D (.slice oa m cap) R (pcW J.e R k) wx))
  case first =>
    go_wp2
    go_loopw [6, 7, 12] (fun _ _ iv wx => ∃ i : Nat, iv = .int .i64 (i : Int) ∧ i ≤ k ∧ Hid (Ly W gj g gb n J D (.slice oa m cap) R (pcW J.e R i) wx)) (fun _ _ iv _ => ((k : Int) - intOf iv).toNat)
    case atStart => exact ⟨0, rfl, by omega, hL⟩
    case round =>
      obtain ⟨i, rfl, hi, hQ⟩ := hrel
      by_cases hik : i < k
      · have hik' : (i : Int) < (k : Int) := by omega
        have hQd := hide' (hQ.out.up (Below.refl _ wr).drew)
        have c1 := hQd.out.jn.cells.2.1
        have KP := hide' (pieceF hQd.out.row i (by rw [hm'.out]; exact hti'.out i hik) (by rw [hm'.out]; omega))
        have hw1 : IntKind.i64.wrap ((J.e : Int) + 1) = (J.e : Int) + 1 := wrap_id (by omega) (by omega)
        have hw2 : IntKind.i64.wrap ((J.e : Int) + 1 + (i : Int)) = (J.e : Int) + 1 + (i : Int) := wrap_id (by omega) (by omega)
        have KW := hide' (fun V (hV : Ly W gj g gb n J D (.slice oa m cap) R (pcW J.e R i) V) => hV.write hvn'.out (J.e + 1 + i) (pieceB R i) (by omega) (pieceB_len R i) (by rw [pcW_len]; omega))
        rw [← pcW_succ, show ((J.e + 1 + i : Nat) : Int) = (J.e : Int) + 1 + (i : Int) by omega] at KW
        have hup := hide' (fun V (hV : Below wr.drew.heap.size wr.drew V) => hQd.out.up hV)
        go_wp2
        go_region_held3 (fun V => V.cell? ⟨gj, 1, none⟩ = some (.int .i64 (J.e : Int))) (first | (exact c1) | (exact hj2.out.cells.2.1) | (exact (hup.out _ hb1).jn.cells.2.1)) (first | (go_at_call 38; refine (KW.out _ (hup.out _ hb1)).mono ?_; rintro e' w2 ⟨r, rfl, hj2, hq2⟩) | (go_at_call 62; refine KP.out.mono ?_; rintro e' w1 ⟨rfl, hb1⟩))
        rcases hq2.out with ⟨rfl, hQ2⟩ | ⟨rfl, hq3, hq4, hq5⟩
        · have hQ2' := hide' hQ2
          clear hQ2 hq2
          go_wp2
          exact ⟨⟨i + 1, by go_num, by omega, hQ2'⟩, by simp [intOf]; omega⟩
        · have hq6 := hide' (wrs_cut hq3 ((pcW J.e R k).drop (i + 1) ++ [(J.e + 1 + k, z16), (J.e, titleB m (J.c + 1))]))
          rw [← List.append_assoc, ← pcW_split (show i + 1 ≤ k by omega)] at hq6
          have q4 := hide' hq4
          have q5 := hide' hq5
          clear hq4 hq5 hq2 hq3
          go_wp2
          go_ret
          refine ⟨50, rfl, .inr ⟨rfl, hq6.out.2⟩, ?_, q5⟩
          show DkA _ _ _ _
          rw [hq6.out.1]
          exact q4.out
      · have hik' : ¬ (i : Int) < (k : Int) := by omega
        obtain rfl : i = k := by omega
        go_wp2_with fail
        go_meet
        case rel => exact hQ
  case rest =>
    have hQ := hcut
    clear hcut
    have c1 := hQ.out.jn.cells.2.1
    have KW := hide' (hQ.out.write hvn'.out (J.e + 1 + k) z16 (by omega) z16_len (by rw [pcW_len]; omega))
    rw [show ((J.e + 1 + k : Nat) : Int) = (J.e : Int) + 1 + (k : Int) by omega] at KW
    go_wp2_with fail
    refine KW.out.mono ?_
    rintro e' w2 ⟨r, rfl, hj2, hq2⟩
    rcases hq2.out with ⟨rfl, hQ2⟩ | ⟨rfl, hq3, hq4, hq5⟩
    · have hQ2' := hide' hQ2
      clear hQ2 hq2 hQ
      have hQd := hide' (hQ2'.out.up (Below.refl _ w2).drew)
      have c1 := hQd.out.jn.cells.2.1
      have c2 := hQd.out.jn.cells.2.2.1
      have KT := hide' (titleF m (J.c + 1) w2.drew (by omega) (by omega))
      rw [show ((J.c + 1 : Nat) : Int) = (J.c : Int) + 1 by omega] at KT
      have hw1 : IntKind.i64.wrap ((J.c : Int) + 1) = (J.c : Int) + 1 := wrap_id (by omega) (by omega)
      have KW2 := hide' (fun V (hV : Ly W gj g gb n J D (.slice oa m cap) R (pcW J.e R k ++ [(J.e + 1 + k, z16)]) V) => hV.write hvn'.out J.e (titleB m (J.c + 1)) (by omega) (titleB_len _ _) (by rw [List.length_append, pcW_len, List.length_singleton]; omega))
      have hup := hide' (fun V (hV : Below w2.drew.heap.size w2.drew V) => hQd.out.up hV)
      go_wp2
      go_region_held3 (fun V => V.cell? ⟨gj, 1, none⟩ = some (.int .i64 (J.e : Int)) ∧ V.cell? ⟨gj, 2, none⟩ = some (.int .i64 (J.c : Int))) (first | (exact ⟨c1, c2⟩) | (exact ⟨hj4.out.cells.2.1, hj4.out.cells.2.2.1⟩) | (exact ⟨(hup.out _ hb1).jn.cells.2.1, (hup.out _ hb1).jn.cells.2.2.1⟩)) (first | (go_at_call 38; refine (KW2.out _ (hup.out _ hb1)).mono ?_; rintro e' w4 ⟨r, rfl, hj4, hq4⟩) | (go_at_call 63; refine KT.out.mono ?_; rintro e' w3 ⟨rfl, hb1⟩))
      go_wp2
      go_ret
      refine ⟨r, rfl, ?_⟩
      rw [List.append_assoc] at hq4
      rcases hq4.out with ⟨rfl, hQ4⟩ | ⟨rfl, q3, q4, q5⟩
      · exact ⟨.inl ⟨rfl, hQ4.all⟩, hQ4.dk, hQ4.kp⟩
      · exact ⟨.inr ⟨rfl, q3⟩, q4, q5⟩
    · have hq6 := hide' (wrs_cut hq3 [(J.e, titleB m (J.c + 1))])
      rw [List.append_assoc] at hq6
      have q4 := hide' hq4
      have q5 := hide' hq5
      clear hq4 hq5 hq2 hq3
      go_wp2
      go_ret
      refine ⟨50, rfl, .inr ⟨rfl, hq6.out.2⟩, ?_, q5⟩
      show DkA _ _ _ _
      rw [show pcW J.e R k ++ [(J.e + 1 + k, z16), (J.e, titleB m (J.c + 1))] = pcW J.e R k ++ ([(J.e + 1 + k, z16)] ++ [(J.e, titleB m (J.c + 1))]) from rfl, hq6.out.1]
      exact q4.out
end Go.Proofs.Ytmhbidnpfefjpaa

/- The document's run: Ready, Fixed; the program's Fixed; two rows of events held against one another. -/
import Derived.Test.YtahfobbiaimoiaaGreatDoorJ19
import Derived.Test.YtahfobbiaimoiaaGreatDoorJ34
import Derived.Laws.StructEq
import Derived.Deep.QuietTactic
import Derived.BigQuiet
namespace Go.Proofs.YtahfobbiaimoiaaGreatDoor
open Go.RowKit
section
variable {w : World} {B gd gt : Nat} {nm : ByteArray} {sv rv : Value} {go ct : Nat} {ev : Value} {R : Rs} {sk : Bool} {en : Int} {Pf : Nat → Nat}
set_option maxRecDepth 100000 in
set_option maxHeartbeats 2000000 in
theorem readyD {Rel : Nat → Nat → Bool} {Sf : Nat → Nat} (h : RzAt w B gd gt nm sv rv go ct ev R.S R.log sk en) (hs : SkE R sk en) (hO : O.Ord R.S.length Rel Pf Sf) (KP : ∀ a : Nat, a < R.S.length → Calls Tryz.prog 98 #[.pointer (some ⟨go, 0, none⟩), .int .i64 (a : Int)] w fun e w' => e = .returned (.int .u64 (Pf a : Int)) ∧ w' = w) :
    Calls Tryz.prog 18 #[.pointer (some ⟨gd, 0, none⟩)] w fun e w' => e = .returned (.int .u64 (rdyR R.S.length Pf R : Nat)) ∧ w' = w := by
  have KC : Hid (∀ c : Nat, Calls Tryz.prog 57 #[.pointer (some ⟨gd, 0, none⟩), .int .i64 (c : Int)] w fun e w' => e = .returned (.int .i64 (canC Pf R (c : Int))) ∧ w' = w) := fun c => canClaimD h hs hO.n64 KP (fun a ha => hO.pre_lt ha) c
  have h64 := hO.n64
  obtain ⟨c3, c4, c5, c6, c7⟩ := h.cs
  rw [← rdyD hO rfl]
  clear h hs hO KP
  generalize R.S.length = n at *
  go_enter Tryz.func18, Tryz.ntmps18
  go_wp2
  go_loop [3, 4] (fun v j => ∃ (c : Nat), c ≤ n ∧ j = .int .i64 c ∧ v = .int .u64 (O.accB (fun i => decide (canC Pf R (i : Int) = 0)) c : Nat)) (fun _ j => ((n : Int) - intOf j).toNat)
  case atStart => exact ⟨0, Nat.zero_le _, rfl, rfl⟩
  case round =>
    obtain ⟨c, hcl, rfl, rfl⟩ := hrel
    have hlt0 := O.accB_lt (fun i : Nat => decide (canC Pf R (i : Int) = 0)) (k := c) (by omega)
    have hN := hide' (accB_next (fun i : Nat => decide (canC Pf R (i : Int) = 0)) c)
    by_cases hlt : c < n
    · have K1 := hide' (KC.out c)
      have hsh := O.shlc c (by omega)
      have hpw : (2 ^ c : Nat) < 18446744073709551616 := Nat.lt_of_lt_of_le (Nat.pow_lt_pow_right (by decide) (show c < 64 by omega)) (by decide)
      have hor := u64_or_nat (O.accB (fun i : Nat => decide (canC Pf R (i : Int) = 0)) c) (2 ^ c) hlt0 hpw
      generalize hy : O.accB (fun i : Nat => decide (canC Pf R (i : Int) = 0)) (c + 1) = y at *
      have hy' := hide' hy
      clear hy KC
      by_cases e : canC Pf R (c : Int) = 0
      · rw [e] at K1
        have hq : y = O.accB (fun i : Nat => decide (canC Pf R (i : Int) = 0)) c ||| 2 ^ c := by rw [hN.out]; simp [e]
        rw [← hq] at hor
        clear hN hq hlt0 e
        generalize O.accB (fun i : Nat => decide (canC Pf R (i : Int) = 0)) c = x at *
        generalize 2 ^ c = pw at *
        go_wp2_with (go_at_call 57; refine K1.out.mono ?_; rintro e w1 ⟨rfl, hw⟩; obtain rfl : w = w1 := hw.symm)
        go_round
        case rel => exact ⟨c + 1, by omega, by go_num, by rw [hy'.out]⟩
        case measure => simp [intOf]; omega
      · have e' : (canC Pf R (c : Int) == 0) = false := by rw [beq_eq_false_iff_ne]; exact e
        have hq : Hid (y = O.accB (fun i : Nat => decide (canC Pf R (i : Int) = 0)) c) := by show _ = _; rw [hN.out]; simp [e]
        clear hN hor hsh hpw
        generalize O.accB (fun i : Nat => decide (canC Pf R (i : Int) = 0)) c = x at *
        generalize canC Pf R (c : Int) = z at *
        go_wp2_with (go_at_call 57; refine K1.out.mono ?_; rintro e w1 ⟨rfl, hw⟩; obtain rfl : w = w1 := hw.symm)
        go_round
        case rel => exact ⟨c + 1, by omega, by go_num, by rw [hy'.out, hq.out]⟩
        case measure => simp [intOf]; omega
    · obtain rfl : c = n := by omega
      clear hN KC
      go_wp2
      go_ret
      exact ⟨rfl, rfl⟩
def usL (S : List SS) : List Int := S.map SS.us
theorem elI : ElT 53 3 1 8 := ElT.mk' (z := .int .i64 0) Tryz.underlying53 (by kernel_rfl) rfl (by decide) (by decide)
theorem cellsI_app1 (l : List Int) (x : Int) : cellsI l ++ [.int .i64 x] = cellsI (l ++ [x]) := by simp [cellsI]
end
theorem below_drewR {n : Nat} {w w' : World} (h : Below n w w') : ∀ k, Below n w (w'.drewN k) := by
  intro k
  induction k with
  | zero => exact h
  | succ k ih => exact ih.drew
theorem ev_eq (a b c d : Int) (w : World) : (Op.equalIn 10000 76 (.agg #[.int .i64 a, .int .i64 b, .int .i64 c, .int .i64 d]) (.agg #[.int .i64 a, .int .i64 b, .int .i64 c, .int .i64 d])).run Tryz.prog w = .ok true w := by
  have u3 := Tryz.underlying3
  have a3 := Tryz.isAgg3
  have z3 := Tryz.sizeOf3
  rw [show (10000 : Nat) = 9999 + 1 from rfl, run_equalIn_struct w 9999 _ _ _ (by simp [Program.fieldsOf, Tryz.underlying76]) (by kernel_rfl)]
  simp only [Program.fieldsOf, Tryz.underlying76]
  go_simp
theorem evAt {W : World} {B g n cap : Nat} {L : List Ev} (h : W.ownsRow B 76 4 (.slice (some ⟨g, 0, none⟩) n cap) n (cellsEv L)) {i : Nat} (hi : i < n) {e : Ev} (he : L[i]? = some e) : W.cell? ⟨g, i * 4, none⟩ = some (.int .i64 e.tick) ∧ W.cell? ⟨g, i * 4 + 1, none⟩ = some (.int .i64 e.kind) ∧ W.cell? ⟨g, i * 4 + 2, none⟩ = some (.int .i64 e.step) ∧ W.cell? ⟨g, i * 4 + 3, none⟩ = some (.int .i64 e.user) := by
  have a0 := h.cellAt (i * 4 + 0) (by omega)
  have a1 := h.cellAt (i * 4 + 1) (by omega)
  have a2 := h.cellAt (i * 4 + 2) (by omega)
  have a3 := h.cellAt (i * 4 + 3) (by omega)
  unfold cellsEv at a0 a1 a2 a3
  rw [four_at evcells evcells_len L i _ (by decide), he] at a0 a1 a2 a3
  exact ⟨a0, a1, a2, a3⟩
theorem evs_shape {W : World} {B : Nat} {v : Value} {L : List Ev} (h : W.ownsRow B 76 4 v L.length (cellsEv L)) (hL : L ≠ []) : ∃ g c, v = .slice (some ⟨g, 0, none⟩) L.length c ∧ L.length ≤ c := by
  rcases h.2 with ⟨_, h0⟩ | ⟨g, cap, cs, e, _, _, hc, _⟩
  · exact absurd (List.eq_nil_of_length_eq_zero h0) hL
  · exact ⟨g, cap, e, hc⟩
set_option maxRecDepth 100000 in
set_option maxHeartbeats 2000000 in
/-- Two rows of the same events. -/
theorem eventsF (L : List Ev) (B1 B2 : Nat) (va vb : Value) (w : World) (ha : w.ownsRow B1 76 4 va L.length (cellsEv L)) (hb : w.ownsRow B2 76 4 vb L.length (cellsEv L)) (hL : L ≠ []) (hl : L.length ≤ 100000) :
    Calls Tryz.prog 19 #[va, vb] w fun e w' => e = .returned (.bool true) ∧ Below w.heap.size w w' := by
  obtain ⟨g1, k1, rfl, hk1⟩ := evs_shape ha hL
  obtain ⟨g2, k2, rfl, hk2⟩ := evs_shape hb hL
  have hA : Hid (∀ i e V, L[i]? = some e → Below w.heap.size w V → V.cell? ⟨g1, i * 4, none⟩ = some (.int .i64 e.tick) ∧ V.cell? ⟨g1, i * 4 + 1, none⟩ = some (.int .i64 e.kind) ∧ V.cell? ⟨g1, i * 4 + 2, none⟩ = some (.int .i64 e.step) ∧ V.cell? ⟨g1, i * 4 + 3, none⟩ = some (.int .i64 e.user)) := fun i e V he hV => evAt (own_same ha fun k hk _ => hV.block k hk) (List.getElem?_eq_some_iff.1 he).1 he
  have hB : Hid (∀ i e V, L[i]? = some e → Below w.heap.size w V → V.cell? ⟨g2, i * 4, none⟩ = some (.int .i64 e.tick) ∧ V.cell? ⟨g2, i * 4 + 1, none⟩ = some (.int .i64 e.kind) ∧ V.cell? ⟨g2, i * 4 + 2, none⟩ = some (.int .i64 e.step) ∧ V.cell? ⟨g2, i * 4 + 3, none⟩ = some (.int .i64 e.user)) := fun i e V he hV => evAt (own_same hb fun k hk _ => hV.block k hk) (List.getElem?_eq_some_iff.1 he).1 he
  clear ha hb hL
  go_enter Tryz.func19, Tryz.ntmps19
  go_wp2
  go_loopw [5] (fun k wr => ∃ c : Nat, c ≤ L.length ∧ k = .int .i64 c ∧ Hid (Below w.heap.size w wr)) (fun k _ => ((L.length : Int) - intOf k).toNat)
  case atStart => exact ⟨0, Nat.zero_le _, rfl, Below.refl _ _⟩
  case round =>
    obtain ⟨c, hcl, rfl, hBl⟩ := hrel
    by_cases hlt : c < L.length
    · obtain ⟨e, hx⟩ : ∃ x, L[c]? = some x := ⟨_, List.getElem?_eq_getElem hlt⟩
      obtain ⟨a0, a1, a2, a3⟩ := hA.out c e wr hx hBl.out
      obtain ⟨b0, b1, b2, b3⟩ := hB.out c e wr hx hBl.out
      clear hA hB hx
      generalize e.tick = t0 at *
      generalize e.kind = t1 at *
      generalize e.step = t2 at *
      generalize e.user = t3 at *
      have he : ∀ W : World, (Op.equalIn 10000 76 (.agg #[.int .i64 t0, .int .i64 t1, .int .i64 t2, .int .i64 t3]) (.agg #[.int .i64 t0, .int .i64 t1, .int .i64 t2, .int .i64 t3])).run Tryz.prog W = .ok true W := fun W => ev_eq _ _ _ _ W
      go_wp2
      go_quiet (fail)
      go_wp2
      exact ⟨⟨c + 1, by omega, by go_num, below_drewR hBl.out _⟩, by simp [intOf]; omega⟩
    · obtain rfl : c = L.length := by omega
      clear hA hB
      go_wp2
      go_ret
      exact ⟨rfl, hBl.out⟩
end Go.Proofs.YtahfobbiaimoiaaGreatDoor

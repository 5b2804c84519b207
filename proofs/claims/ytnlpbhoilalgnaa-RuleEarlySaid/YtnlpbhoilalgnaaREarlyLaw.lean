/- RuleEarly: it returns true. -/
import Derived.Test.YtnlpbhoilalgnaaROther
import Derived.Test.YtnlpbhoilalgnaaRMath2
namespace Go.Proofs.Ytnlpbhoilalgnaa
open Go.RowKit
theorem St.drew' {w W : World} {n : Int} {ol : Option Addr} {cl : Nat} {L : List Rl} {ob : Option Addr} {cb : Nat} {B : List Int} (h : St w W n ol cl L ob cb B) : St w W.drew n ol cl L ob cb B := h.over (Below.refl _ _).drew
theorem St.cut {w W : World} {n : Int} {ol : Option Addr} {cl : Nat} {L : List Rl} {ob : Option Addr} {cb : Nat} {B : List Int} (h : St w W n ol cl L ob cb B) {m : Nat} (hm : m ≤ B.length) : St w W n ol cl L ob cb (B.take m) :=
  ⟨h.xN, h.rl, by have := row_take h.lb hm; rwa [show (B.take m).length = m by rw [List.length_take]; omega], h.bl, h.few, h.low, by have := h.fewB; rw [List.length_take]; omega⟩
theorem chk_out {n : Int} {r : Rl} (h : n < 0 ∨ 12 < n) : chk n r = false := by
  unfold chk
  rcases h with h | h
  · rw [decide_eq_false (by omega)]; rfl
  · rw [decide_eq_false (by omega : ¬ n ≤ 12)]; simp
theorem early_chk {n : Int} {r : Rl} {B : List Int} (h : chk n r = false) : early r n B = false := by unfold early; rw [h]; rfl
/-- row, told as memory of one's own. -/
theorem rowOwn {w W : World} {n : Int} {ol : Option Addr} {cl : Nat} {L : List Rl} {ob : Option Addr} {cb : Nat} {B : List Int} (h : St w W n ol cl L ob cb B) :
    ∀ V, Below W.heap.size W V → Calls Try.prog 10 #[.slice ob B.length cb] V fun e w' => ∃ o1 k1, e = .returned (.slice o1 B.length k1) ∧ Hid (w'.ownsRow V.heap.size 3 1 (.slice o1 B.length k1) B.length (cellsI B)) ∧ Below V.heap.size V w' := fun V hV => by
  have h1 := rowO B _ V (h.lb.below hV (Nat.le_refl _))
  rw [take40_of h.fewB] at h1
  refine h1.mono fun e w' ⟨v', e1, e2, e3⟩ => ?_
  obtain ⟨oa, cap, rfl⟩ := own_shp e2
  exact ⟨oa, cap, e1, e2, e3⟩
/-- Is it early with one more label, one of the first k, or the new one? -/
def more (r : Rl) (n : Int) (B : List Int) (z : Int) (k : Nat) : Bool := early r n (B ++ [z]) || (B.take k).any fun x => early r n (B ++ [x])
theorem more_zero (r : Rl) (n : Int) (B : List Int) (z : Int) : more r n B z 0 = early r n (B ++ [z]) := by simp [more]
theorem more_succ {r : Rl} {n : Int} {B : List Int} {z : Int} {k : Nat} {x : Int} (hx : B[k]? = some x) : more r n B z (k + 1) = (more r n B z k || early r n (B ++ [x])) := by
  unfold more
  rw [List.take_add_one, hx, show (some x).toList = [x] from rfl, List.any_append, Bool.or_assoc]
  simp
theorem more_all {r : Rl} {n : Int} {B : List Int} {z : Int} (hc : chk n r = true) (hn : (B.length : Int) < n) (hz : z ∉ B) : early r n B = more r n B z B.length := by
  rw [Bool.eq_iff_iff, early_step hc hn hz]
  unfold more
  rw [List.take_length]
  simp
set_option maxRecDepth 100000 in
set_option maxHeartbeats 8000000 in
theorem ruleEarly_walk (n : Int) (L0 : List Rl) (B0 : List Int) (or : Option Addr) (cr : Nat) (oB : Option Addr) (cB : Nat) (on : Option Addr) (ln cn : Nat) (w : World) (hr : RowR w (.slice or L0.length cr) L0) (hl : RowI w (.slice oB B0.length cB) B0) :
    Calls Try.prog 5 #[.agg #[.int .i64 n, .slice or L0.length cr, .slice oB B0.length cB, .slice on ln cn]] w fun e w' => e = .returned (.bool true) ∧ Below w.heap.size w w' := by
  have hB : Hid (Below w.heap.size w (w.alloc (.cells #[.int .i64 n, .slice or L0.length cr, .slice oB B0.length cB, .slice on ln cn] 26))) := (Below.refl _ w).alloc (Nat.le_refl _) _
  have hbox : Hid (∀ V, Below (w.alloc (.cells #[.int .i64 n, .slice or L0.length cr, .slice oB B0.length cB, .slice on ln cn] 26)).heap.size (w.alloc (.cells #[.int .i64 n, .slice or L0.length cr, .slice oB B0.length cB, .slice on ln cn] 26)) V → V.cell? ⟨w.heap.size, 0, none⟩ = some (.int .i64 n) ∧ V.cell? ⟨w.heap.size, 2, none⟩ = some (.slice oB B0.length cB)) := fun V hV => by
    have e : V.heap[w.heap.size]? = some (.cells #[.int .i64 n, .slice or L0.length cr, .slice oB B0.length cB, .slice on ln cn] 26) := by
      rw [hV.block _ (by simp)]
      exact heap_new w _
    simp [World.cell?, e]
  have K1 := hide' (twinR L0 _ _ (hr.below hB.out (Nat.le_refl _)))
  have K2 : Hid (∀ V, Below w.heap.size w V → Calls Try.prog 10 #[.slice oB B0.length cB] V fun e w' => ∃ ob cb, e = .returned (.slice ob (B0.take 40).length cb) ∧ RowI w' (.slice ob (B0.take 40).length cb) (B0.take 40) ∧ Below V.heap.size V w') := fun V hV => rowR B0 _ V (hl.below hV (Nat.le_refl _))
  have K9 := hide' wakesR
  clear hr hl
  go_enter Try.func5, Try.ntmps5
  go_wp2_with fail
  refine K1.out.mono ?_
  rintro e w1 ⟨ol, cl, rfl, hr1, hb1⟩
  obtain ⟨x0, x2⟩ := hbox.out _ hb1
  have hB1 : Hid (Below w.heap.size w w1) := hB.out.trans (hb1.mono hB.out.size)
  have hb1' := hide' hb1
  have hr1' := hide' hr1
  clear K1 hr1 hb1 hB
  go_wp2_with fail
  refine (K2.out _ hB1.out).mono ?_
  rintro e w2 ⟨ob, cb, rfl, hr2, hb2⟩
  have hS0 : Hid (St w w2 n ol cl (twin L0) ob cb (B0.take 40)) := ⟨(hbox.out _ (hb1'.out.trans (hb2.mono hb1'.out.size))).1, hr1'.out.below hb2 (Nat.le_refl _), hr2, hB1.out.trans (hb2.mono hB1.out.size), twin_len L0, fun r h => twin_steps h, by rw [List.length_take]; omega⟩
  have hTw := hide' (twin_twin L0)
  clear hr2 hb2 hb1' hr1' hB1 hbox K2 x0 x2
  generalize twin L0 = L at *
  generalize B0.take 40 = B at *
  clear hTw
  by_cases hout : n < 0 ∨ 12 < n
  · as_aux_lemma =>
    have hE : Hid (∀ r X, early r n X = false) := fun r X => early_chk (chk_out hout)
    obtain xN := hS0.out.xN
    have hstart : Hid (∀ b : Bool, b = (decide (n < 0) || decide (12 < n)) → b = true) := fun b hb => by rw [hb]; simpa using hout
    rcases hout with h0 | h12
    all_goals
      try have h0' : decide (n < 0) = false := decide_eq_false (by omega)
      go_wp2
      go_loopw [6] (fun k wr => ∃ c : Nat, c ≤ L.length ∧ k = .int .i64 c ∧ Hid (St w wr n ol cl L ob cb B)) (fun k _ => ((L.length : Int) - intOf k).toNat)
      case atStart => exact ⟨0, Nat.zero_le _, rfl, hS0⟩
      case round =>
        clear hS0 xN
        obtain ⟨c, hcl, rfl, hS⟩ := hrel
        have hf := hS.out.few
        by_cases hlt : c < L.length
        · as_aux_lemma =>
          clear K9
          obtain ⟨r, hx⟩ : ∃ r, L[c]? = some r := ⟨_, List.getElem?_eq_getElem hlt⟩
          obtain ⟨g, o, os, cs, rfl, hC, hV⟩ := hS.out.cells hx
          have hC' := hide' hC
          have hm := hS.out.low r (List.mem_of_getElem? hx)
          have KR := hide' (rowAgain hS.out)
          have KE : Hid (∀ V o1 k1 X, Below wr.heap.size wr V → RowI V (.slice o1 X.length k1) X → Calls Try.prog 19 #[.agg #[.int .i64 r.kind, .int .i64 r.k, .slice os r.steps.length cs], .int .i64 n, .slice o1 X.length k1] V fun e w' => e = .returned (.bool (early r n X)) ∧ Below V.heap.size V w') := fun V o1 k1 X h1 h2 => earlyF r n _ _ X V (hV V h1) h2 (by omega)
          have KE' : Hid (∀ V o1 k1, Below wr.heap.size wr V → RowI V (.slice o1 B.length k1) B → Calls Try.prog 19 #[.agg #[.int .i64 r.kind, .int .i64 r.k, .slice os r.steps.length cs], .int .i64 n, .slice o1 B.length k1] V fun e w' => e = .returned (.bool false) ∧ Below V.heap.size V w') := fun V o1 k1 h1 h2 => by
            have := KE.out V o1 k1 B h1 h2
            rwa [hE.out] at this
          have hd : Hid (Below wr.heap.size wr wr.drew) := (Below.refl _ _).drew
          clear hC hV hx KE hE
          generalize r.steps.length = q at *
          generalize r.kind = kd at *
          generalize r.k = kk at *
          go_wp2_with fail
          go_region_held3 (fun V => V.cell? ⟨g, o + c * 3, none⟩ = some (.int .i64 kd) ∧ V.cell? ⟨g, o + c * 3 + 1, none⟩ = some (.int .i64 kk) ∧ V.cell? ⟨g, o + c * 3 + 2, none⟩ = some (.slice os q cs) ∧ V.cell? ⟨w.heap.size, 0, none⟩ = some (.int .i64 n)) (first | (exact hC'.out _ hd.out) | (exact hC'.out _ h1.out) | (exact hC'.out _ h2.out)) (first | (go_at_call 10; refine (KR.out _ hd.out).mono ?_; rintro e w3 ⟨o1, k1, rfl, hr3, hb⟩; have h1 : Hid (Below wr.heap.size wr w3) := hd.out.trans hb; clear hb) | (go_at_call 19; refine (KE'.out _ _ _ h1.out hr3.out).mono ?_; rintro e w4 ⟨rfl, hb⟩; have h2 : Hid (Below wr.heap.size wr w4) := h1.out.trans (hb.mono h1.out.size); clear hb))
          all_goals
            clear KR KE' hC' hr3
            go_wp2
            exact ⟨⟨c + 1, by omega, by go_num, hS.out.over h2.out⟩, by simp [intOf]; omega⟩
        · go_wp2_with (go_at_call 18; refine (K9.out _).mono ?_; rintro e w3 ⟨rfl, hb⟩)
          go_ret
          exact ⟨rfl, (hS.out.over hb).bl⟩
  · have h0 : 0 ≤ n := by omega
    have h12 : n ≤ 12 := by omega
    have h0' : decide (n < 0) = false := decide_eq_false (by omega)
    have h12' : decide (12 < n) = false := decide_eq_false (by omega)
    obtain xN := hS0.out.xN
    clear hout
    have hfB := hS0.out.fewB
    by_cases hlong : n < (B.length : Int)
    · as_aux_lemma =>
      obtain ⟨m, rfl⟩ : ∃ m : Nat, n = (m : Int) := ⟨n.toNat, by omega⟩
      obtain ⟨gb, pb, cbn, rfl⟩ : ∃ (gb pb : Nat), B.length ≤ cb ∧ ob = some ⟨gb, pb, none⟩ := by
        obtain ⟨_, _, e, h1, h⟩ := hS0.out.lb
        cases e
        obtain ⟨gb, pb, e, _⟩ := h 0 B[0] (List.getElem?_eq_getElem (by omega))
        exact ⟨gb, pb, h1.1, e⟩
      have hmB : m < B.length := by omega
      have hmc : (m : Int) ≤ (cb : Int) := by omega
      obtain ⟨B2, hB2⟩ : ∃ B2, B2 = B.take m := ⟨_, rfl⟩
      have hp : Hid (B2.length = m) := by show _ = _; rw [hB2, List.length_take]; omega
      have hS3 : Hid (∀ V, Below w2.heap.size w2 V → St w V (m : Int) ol cl L (some ⟨gb, pb, none⟩) cb B2) := fun V hV => by rw [hB2]; exact (hS0.out.cut (by omega)).over hV
      clear hS0 hB2
      go_wp2_with (go_at_call 18; refine (K9.out _).mono ?_; rintro e w3 ⟨rfl, hb⟩; have hS4 := hide' (hS3.out _ hb); clear hb hS3)
      clear K9 xN hmB hmc cbn hlong
      go_loopw [7, 8, 9, 10] (fun k _ _ _ wr => ∃ c : Nat, c ≤ L.length ∧ k = .int .i64 c ∧ Hid (St w wr (m : Int) ol cl L (some ⟨gb, pb, none⟩) cb B2)) (fun k _ _ _ _ => ((L.length : Int) - intOf k).toNat)
      case atStart => exact ⟨0, Nat.zero_le _, rfl, hS4⟩
      case round =>
        clear hS4
        obtain ⟨c, hcl, rfl, hS⟩ := hrel
        have hf := hS.out.few
        by_cases hlt : c < L.length
        · as_aux_lemma =>
          obtain ⟨r, hx⟩ : ∃ r, L[c]? = some r := ⟨_, List.getElem?_eq_getElem hlt⟩
          have hm := hS.out.low r (List.mem_of_getElem? hx)
          have hx' := hide' hx
          obtain ⟨g, o, os, cs, rfl, hC, hV⟩ := hS.out.cells hx
          have hC' := hide' hC
          have KR : Hid (∀ V, Below wr.heap.size wr V → Calls Try.prog 10 #[.slice (some ⟨gb, pb, none⟩) m cb] V fun e w' => ∃ o1 k1, e = .returned (.slice o1 m k1) ∧ Hid (w'.ownsRow V.heap.size 3 1 (.slice o1 m k1) m (cellsI B2)) ∧ Below V.heap.size V w') := fun V h1 => by
            have := rowOwn hS.out V h1
            rwa [hp.out] at this
          have KE1 : Hid (∀ V o1 k1, Below wr.heap.size wr V → RowI V (.slice o1 m k1) B2 → Calls Try.prog 19 #[.agg #[.int .i64 r.kind, .int .i64 r.k, .slice os r.steps.length cs], .int .i64 (m : Int), .slice o1 m k1] V fun e w' => e = .returned (.bool (early r (m : Int) B2)) ∧ Below V.heap.size V w') := fun V o1 k1 h1 h2 => earlyF r (m : Int) _ _ B2 V (hV V h1) h2 (by omega)
          have KE2 : Hid (∀ V o1 k1 x, Below wr.heap.size wr V → RowI V (.slice o1 (m + 1) k1) (B2 ++ [x]) → Calls Try.prog 19 #[.agg #[.int .i64 r.kind, .int .i64 r.k, .slice os r.steps.length cs], .int .i64 (m : Int), .slice o1 (m + 1) k1] V fun e w' => e = .returned (.bool (early r (m : Int) (B2 ++ [x]))) ∧ Below V.heap.size V w') := fun V o1 k1 x h1 h2 => earlyF r (m : Int) _ _ (B2 ++ [x]) V (hV V h1) h2 (by omega)
          have KC : Hid (∀ V, Below wr.heap.size wr V → Calls Try.prog 11 #[.int .i64 (m : Int), .agg #[.int .i64 r.kind, .int .i64 r.k, .slice os r.steps.length cs]] V fun e w' => e = .returned (.int .i64 (erC (chk (m : Int) r))) ∧ Below V.heap.size V w') := fun V h1 => checkF (m : Int) r _ V (hV V h1) (by omega)
          have KH : Hid (∀ V o1 k1, Below wr.heap.size wr V → RowI V (.slice o1 m k1) B2 → Calls Try.prog 13 #[.agg #[.int .i64 r.kind, .int .i64 r.k, .slice os r.steps.length cs], .slice o1 m k1] V fun e w' => e = .returned (.bool (holds r B2)) ∧ Below V.heap.size V w') := fun V o1 k1 h1 h2 => holdsF r _ _ B2 V (hV V h1) h2 (by omega)
          have KO : Hid (∀ V, Below wr.heap.size wr V → Calls Try.prog 20 #[.slice (some ⟨gb, pb, none⟩) m cb] V fun e w' => ∃ z : Nat, e = .returned (.int .i64 (z : Int)) ∧ Hid ((z : Int) ∉ B2) ∧ w' = V) := fun V h1 => by
            have h3 := hS.out.lb
            rw [hp.out] at h3
            exact otherF B2 _ V (h3.below h1 (Nat.le_refl _)) (by rw [hp.out]; omega)
          have hd : Hid (Below wr.heap.size wr wr.drew) := (Below.refl _ _).drew
          clear hC hV hx
          go_wp2_with fail
          go_region_held3 (fun V => V.cell? ⟨g, o + c * 3, none⟩ = some (.int .i64 r.kind) ∧ V.cell? ⟨g, o + c * 3 + 1, none⟩ = some (.int .i64 r.k) ∧ V.cell? ⟨g, o + c * 3 + 2, none⟩ = some (.slice os r.steps.length cs) ∧ V.cell? ⟨w.heap.size, 0, none⟩ = some (.int .i64 (m : Int))) (first | (exact hC'.out _ hd.out) | (exact hC'.out _ h1.out) | (exact hC'.out _ h2.out)) (first | (go_at_call 10; refine (KR.out _ hd.out).mono ?_; rintro e w3 ⟨o1, k1, rfl, hr3, hb⟩; have h1 : Hid (Below wr.heap.size wr w3) := hd.out.trans hb; clear hb) | (go_at_call 19; refine (KE1.out _ _ _ h1.out (by have := RowI.of_owns hr3.out; exact this)).mono ?_; rintro e w4 ⟨rfl, hb⟩; have h2 : Hid (Below wr.heap.size wr w4) := h1.out.trans (hb.mono h1.out.size); clear hb))
          all_goals
            obtain ⟨y0, y1, y2, -⟩ := hC'.out _ h2.out
            clear hr3 KE1 h1
            cases hck : chk (m : Int) r with
            | false =>
              have hE0 : early r (m : Int) B2 = false := early_chk hck
              rw [hck] at KC
              have KC' : Hid (∀ V, Below wr.heap.size wr V → Calls Try.prog 11 #[.int .i64 (m : Int), .agg #[.int .i64 r.kind, .int .i64 r.k, .slice os r.steps.length cs]] V fun e w' => e = .returned (.int .i64 1) ∧ Below V.heap.size V w') := KC
              rw [hE0]
              clear KC KE2 KR KH KO hC' hck hE0
              go_wp2_with (go_at_call 11; refine (KC'.out _ h2.out).mono ?_; rintro e w5 ⟨rfl, hb⟩; have h3 : Hid (Below wr.heap.size wr w5) := h2.out.trans (hb.mono h2.out.size); clear hb)
              exact ⟨⟨c + 1, by omega, by go_num, hS.out.over h3.out⟩, by simp [intOf]; omega⟩
            | true =>
              rw [hck] at KC
              have KC' : Hid (∀ V, Below wr.heap.size wr V → Calls Try.prog 11 #[.int .i64 (m : Int), .agg #[.int .i64 r.kind, .int .i64 r.k, .slice os r.steps.length cs]] V fun e w' => e = .returned (.int .i64 0) ∧ Below V.heap.size V w') := KC
              have hck' := hide' hck
              clear KC hck
              by_cases hpn2 : (m : Int) = (m : Int)
              · have hH : Hid (early r (m : Int) B2 = holds r B2) := by
                  show _ = _
                  unfold holds
                  rw [hp.out, hpn2]
                rw [hH.out]
                have hpb : ((m : Int) == (m : Int)) = true := by rw [hpn2]; simp
                clear hpn2
                clear KE2 KO hck' hH
                generalize holds r B2 = bH at *
                go_wp2_with (go_at_call 11; refine (KC'.out _ h2.out).mono ?_; rintro e w5 ⟨rfl, hb⟩; have h3 : Hid (Below wr.heap.size wr w5) := h2.out.trans (hb.mono h2.out.size); clear hb)
                have hd3 : Hid (Below wr.heap.size wr w5.drew) := h3.out.drew
                go_region_held3 (fun V => V.cell? ⟨g, o + c * 3, none⟩ = some (.int .i64 r.kind) ∧ V.cell? ⟨g, o + c * 3 + 1, none⟩ = some (.int .i64 r.k) ∧ V.cell? ⟨g, o + c * 3 + 2, none⟩ = some (.slice os r.steps.length cs) ∧ V.cell? ⟨w.heap.size, 0, none⟩ = some (.int .i64 (m : Int))) (first | (exact hC'.out _ hd3.out) | (exact hC'.out _ h4.out) | (exact hC'.out _ h5.out)) (first | (go_at_call 10; refine (KR.out _ hd3.out).mono ?_; rintro e w6 ⟨o1, k1, rfl, hr6, hb⟩; have h4 : Hid (Below wr.heap.size wr w6) := hd3.out.trans (hb.mono hd3.out.size); clear hb) | (go_at_call 13; refine (KH.out _ _ _ h4.out (by have := RowI.of_owns hr6.out; exact this)).mono ?_; rintro e w7 ⟨rfl, hb⟩; have h5 : Hid (Below wr.heap.size wr w7) := h4.out.trans (hb.mono h4.out.size); clear hb))
                all_goals
                  clear KR KH KC' hC' hr6
                  go_wp2
                  exact ⟨⟨c + 1, by omega, by go_num, hS.out.over h5.out⟩, by simp [intOf]; omega⟩
              · exact absurd rfl hpn2
        · go_wp2
          go_ret
          exact ⟨rfl, hS.out.bl⟩
    · as_aux_lemma =>
      have hpn : (B.length : Int) ≤ n := by omega
      obtain ⟨B2, hB2⟩ : ∃ B2, B2 = B := ⟨_, rfl⟩
      have hS3 : Hid (∀ V, Below w2.heap.size w2 V → St w V n ol cl L ob cb B2) := fun V hV => by rw [hB2]; exact hS0.out.over hV
      have hp : Hid (B2.length = B.length) := by show _ = _; rw [hB2]
      clear hS0 hB2
      generalize B.length = p at *
      go_wp2_with (go_at_call 18; refine (K9.out _).mono ?_; rintro e w3 ⟨rfl, hb⟩; have hS4 := hide' (hS3.out _ hb); clear hb hS3)
      clear K9 xN hlong
      go_loopw [7, 8, 9, 10] (fun k _ _ _ wr => ∃ c : Nat, c ≤ L.length ∧ k = .int .i64 c ∧ Hid (St w wr n ol cl L ob cb B2)) (fun k _ _ _ _ => ((L.length : Int) - intOf k).toNat)
      case atStart => exact ⟨0, Nat.zero_le _, rfl, hS4⟩
      case round =>
        clear hS4
        obtain ⟨c, hcl, rfl, hS⟩ := hrel
        have hf := hS.out.few
        by_cases hlt : c < L.length
        · as_aux_lemma =>
          obtain ⟨r, hx⟩ : ∃ r, L[c]? = some r := ⟨_, List.getElem?_eq_getElem hlt⟩
          have hm := hS.out.low r (List.mem_of_getElem? hx)
          have hx' := hide' hx
          obtain ⟨g, o, os, cs, rfl, hC, hV⟩ := hS.out.cells hx
          have hC' := hide' hC
          have KR : Hid (∀ V, Below wr.heap.size wr V → Calls Try.prog 10 #[.slice ob p cb] V fun e w' => ∃ o1 k1, e = .returned (.slice o1 p k1) ∧ Hid (w'.ownsRow V.heap.size 3 1 (.slice o1 p k1) p (cellsI B2)) ∧ Below V.heap.size V w') := fun V h1 => by
            have := rowOwn hS.out V h1
            rwa [hp.out] at this
          have KE1 : Hid (∀ V o1 k1, Below wr.heap.size wr V → RowI V (.slice o1 p k1) B2 → Calls Try.prog 19 #[.agg #[.int .i64 r.kind, .int .i64 r.k, .slice os r.steps.length cs], .int .i64 n, .slice o1 p k1] V fun e w' => e = .returned (.bool (early r n B2)) ∧ Below V.heap.size V w') := fun V o1 k1 h1 h2 => earlyF r n _ _ B2 V (hV V h1) h2 (by omega)
          have KE2 : Hid (∀ V o1 k1 x, Below wr.heap.size wr V → RowI V (.slice o1 (p + 1) k1) (B2 ++ [x]) → Calls Try.prog 19 #[.agg #[.int .i64 r.kind, .int .i64 r.k, .slice os r.steps.length cs], .int .i64 n, .slice o1 (p + 1) k1] V fun e w' => e = .returned (.bool (early r n (B2 ++ [x]))) ∧ Below V.heap.size V w') := fun V o1 k1 x h1 h2 => earlyF r n _ _ (B2 ++ [x]) V (hV V h1) h2 (by omega)
          have KC : Hid (∀ V, Below wr.heap.size wr V → Calls Try.prog 11 #[.int .i64 n, .agg #[.int .i64 r.kind, .int .i64 r.k, .slice os r.steps.length cs]] V fun e w' => e = .returned (.int .i64 (erC (chk n r))) ∧ Below V.heap.size V w') := fun V h1 => checkF n r _ V (hV V h1) (by omega)
          have KH : Hid (∀ V o1 k1, Below wr.heap.size wr V → RowI V (.slice o1 p k1) B2 → Calls Try.prog 13 #[.agg #[.int .i64 r.kind, .int .i64 r.k, .slice os r.steps.length cs], .slice o1 p k1] V fun e w' => e = .returned (.bool (holds r B2)) ∧ Below V.heap.size V w') := fun V o1 k1 h1 h2 => holdsF r _ _ B2 V (hV V h1) h2 (by omega)
          have KO : Hid (∀ V, Below wr.heap.size wr V → Calls Try.prog 20 #[.slice ob p cb] V fun e w' => ∃ z : Nat, e = .returned (.int .i64 (z : Int)) ∧ Hid ((z : Int) ∉ B2) ∧ w' = V) := fun V h1 => by
            have h3 := hS.out.lb
            rw [hp.out] at h3
            exact otherF B2 _ V (h3.below h1 (Nat.le_refl _)) (by rw [hp.out]; omega)
          have hd : Hid (Below wr.heap.size wr wr.drew) := (Below.refl _ _).drew
          clear hC hV hx
          go_wp2_with fail
          go_region_held3 (fun V => V.cell? ⟨g, o + c * 3, none⟩ = some (.int .i64 r.kind) ∧ V.cell? ⟨g, o + c * 3 + 1, none⟩ = some (.int .i64 r.k) ∧ V.cell? ⟨g, o + c * 3 + 2, none⟩ = some (.slice os r.steps.length cs) ∧ V.cell? ⟨w.heap.size, 0, none⟩ = some (.int .i64 n)) (first | (exact hC'.out _ hd.out) | (exact hC'.out _ h1.out) | (exact hC'.out _ h2.out)) (first | (go_at_call 10; refine (KR.out _ hd.out).mono ?_; rintro e w3 ⟨o1, k1, rfl, hr3, hb⟩; have h1 : Hid (Below wr.heap.size wr w3) := hd.out.trans hb; clear hb) | (go_at_call 19; refine (KE1.out _ _ _ h1.out (by have := RowI.of_owns hr3.out; exact this)).mono ?_; rintro e w4 ⟨rfl, hb⟩; have h2 : Hid (Below wr.heap.size wr w4) := h1.out.trans (hb.mono h1.out.size); clear hb))
          all_goals
            obtain ⟨y0, y1, y2, -⟩ := hC'.out _ h2.out
            clear hr3 KE1 h1
            cases hck : chk n r with
            | false =>
              have hE0 : early r n B2 = false := early_chk hck
              rw [hck] at KC
              have KC' : Hid (∀ V, Below wr.heap.size wr V → Calls Try.prog 11 #[.int .i64 n, .agg #[.int .i64 r.kind, .int .i64 r.k, .slice os r.steps.length cs]] V fun e w' => e = .returned (.int .i64 1) ∧ Below V.heap.size V w') := KC
              rw [hE0]
              clear KC KE2 KR KH KO hC' hck hE0
              go_wp2_with (go_at_call 11; refine (KC'.out _ h2.out).mono ?_; rintro e w5 ⟨rfl, hb⟩; have h3 : Hid (Below wr.heap.size wr w5) := h2.out.trans (hb.mono h2.out.size); clear hb)
              exact ⟨⟨c + 1, by omega, by go_num, hS.out.over h3.out⟩, by simp [intOf]; omega⟩
            | true =>
              rw [hck] at KC
              have KC' : Hid (∀ V, Below wr.heap.size wr V → Calls Try.prog 11 #[.int .i64 n, .agg #[.int .i64 r.kind, .int .i64 r.k, .slice os r.steps.length cs]] V fun e w' => e = .returned (.int .i64 0) ∧ Below V.heap.size V w') := KC
              have hck' := hide' hck
              clear KC hck
              by_cases hpn2 : (p : Int) = n
              · have hH : Hid (early r n B2 = holds r B2) := by
                  show _ = _
                  unfold holds
                  rw [hp.out, hpn2]
                rw [hH.out]
                have hpb : ((p : Int) == n) = true := by rw [hpn2]; simp
                clear hpn2
                clear KE2 KO hck' hH
                generalize holds r B2 = bH at *
                go_wp2_with (go_at_call 11; refine (KC'.out _ h2.out).mono ?_; rintro e w5 ⟨rfl, hb⟩; have h3 : Hid (Below wr.heap.size wr w5) := h2.out.trans (hb.mono h2.out.size); clear hb)
                have hd3 : Hid (Below wr.heap.size wr w5.drew) := h3.out.drew
                go_region_held3 (fun V => V.cell? ⟨g, o + c * 3, none⟩ = some (.int .i64 r.kind) ∧ V.cell? ⟨g, o + c * 3 + 1, none⟩ = some (.int .i64 r.k) ∧ V.cell? ⟨g, o + c * 3 + 2, none⟩ = some (.slice os r.steps.length cs) ∧ V.cell? ⟨w.heap.size, 0, none⟩ = some (.int .i64 n)) (first | (exact hC'.out _ hd3.out) | (exact hC'.out _ h4.out) | (exact hC'.out _ h5.out)) (first | (go_at_call 10; refine (KR.out _ hd3.out).mono ?_; rintro e w6 ⟨o1, k1, rfl, hr6, hb⟩; have h4 : Hid (Below wr.heap.size wr w6) := hd3.out.trans (hb.mono hd3.out.size); clear hb) | (go_at_call 13; refine (KH.out _ _ _ h4.out (by have := RowI.of_owns hr6.out; exact this)).mono ?_; rintro e w7 ⟨rfl, hb⟩; have h5 : Hid (Below wr.heap.size wr w7) := h4.out.trans (hb.mono h4.out.size); clear hb))
                all_goals
                  clear KR KH KC' hC' hr6
                  go_wp2
                  exact ⟨⟨c + 1, by omega, by go_num, hS.out.over h5.out⟩, by simp [intOf]; omega⟩
              · have hpb : ((p : Int) == n) = false := by simpa using hpn2
                have hltn : Hid ((B2.length : Int) < n) := by show _ < _; rw [hp.out]; omega
                clear KH
                go_wp2_with (go_at_call 11; refine (KC'.out _ h2.out).mono ?_; rintro e w5 ⟨rfl, hb⟩; have h3 : Hid (Below wr.heap.size wr w5) := h2.out.trans (hb.mono h2.out.size); clear hb)
                have hd3 : Hid (Below wr.heap.size wr w5.drew) := h3.out.drew
                go_region_held3 (fun V => V.cell? ⟨g, o + c * 3, none⟩ = some (.int .i64 r.kind) ∧ V.cell? ⟨g, o + c * 3 + 1, none⟩ = some (.int .i64 r.k) ∧ V.cell? ⟨g, o + c * 3 + 2, none⟩ = some (.slice os r.steps.length cs) ∧ V.cell? ⟨w.heap.size, 0, none⟩ = some (.int .i64 n)) (first | (exact hC'.out _ hd3.out) | (exact hC'.out _ h4.out) | (exact hC'.out _ (Below.alloc h4.out h4.out.size _)) | (exact hC'.out _ h5.out) | (exact hC'.out _ h6.out)) (first | (go_at_call 10; refine (KR.out _ hd3.out).mono ?_; rintro e w6 ⟨o1, k1, rfl, hr6, hb⟩; have h4 : Hid (Below wr.heap.size wr w6) := hd3.out.trans (hb.mono hd3.out.size); have hsz6 : Hid (w5.drew.heap.size ≤ w6.heap.size) := hb.size; clear hb) | (go_at_call 20; refine (KO.out _ h4.out).mono ?_; rintro e w7 ⟨z, rfl, hz, rfl⟩) | (rw [if_pos (by rfl)]; refine app_one (.tmp 92) (.tmp 95) w5.drew.heap.size w7 _ p B2 (z : Int) rfl rfl rfl hp.out hr6.out hsz6.out (by omega) ?_; intro o2 k2 w8 hr8 hb; have h5 : Hid (Below wr.heap.size wr w8) := h4.out.trans (hb.mono hd3.out.size); have hr8' := hide' hr8; clear hb hr8) | (go_at_call 19; refine (KE2.out _ _ _ _ h5.out hr8'.out).mono ?_; rintro e w9 ⟨rfl, hb⟩; have h6 : Hid (Below wr.heap.size wr w9) := h5.out.trans (hb.mono h5.out.size); clear hb))
                all_goals
                  have hS9 := hide' (hS.out.over h6.out)
                  have hfin : Hid (early r n B2 = more r n B2 (z : Int) p) := by
                    have := more_all hck'.out hltn.out hz.out
                    rwa [hp.out] at this
                  clear KR KO KE2 KC' hC' hr6 hr8' h2 h3 h4 h5 h6 hd hd3 hsz6 hS y0 y1 y2 hck' hltn
                  rw [hfin.out]
                  clear hfin
                  generalize hme : more r n B2 (z : Int) p = mEnd at *
                  have hme' := hide' hme
                  clear hme
                  go_wp2
                  go_loopw [9, 10] (fun mv kv wv => ∃ k : Nat, k ≤ p ∧ kv = .int .i64 k ∧ mv = .bool (more r n B2 (z : Int) k) ∧ Hid (St w wv n (some ⟨g, o, none⟩) cl L ob cb B2)) (fun _ kv _ => ((p : Int) - intOf kv).toNat)
                  case atStart => exact ⟨0, Nat.zero_le _, rfl, by rw [more_zero], hS9⟩
                  case round =>
                    clear hS9
                    obtain ⟨k, hkp, rfl, rfl, hS⟩ := hrel
                    by_cases hkl : k < p
                    · as_aux_lemma =>
                      obtain ⟨x, hxk⟩ : ∃ x, B2[k]? = some x := ⟨_, List.getElem?_eq_getElem (by rw [hp.out]; exact hkl)⟩
                      have hM1 := hide' (more_succ (r := r) (n := n) (z := (z : Int)) hxk)
                      clear hme'
                      cases hmk : more r n B2 (z : Int) k with
                      | true =>
                        have hM2 : Hid (Value.bool true = .bool (more r n B2 (z : Int) (k + 1))) := by show _ = _; rw [hM1.out, hmk]; rfl
                        clear hM1 hmk hxk hx' hp hz
                        go_wp2_with fail
                        refine wp_region_noPanic (wp_region_held_drew (S := (fun _ => True)) (by kernel_rfl) ?_ (fun hHeld => ?_))
                        · trivial
                        refine wpAnyH_take (i := 0) (oi := { dst := some 104, op := Op.move (Operand.tmp 9), type := 4, pos := "law.go:131", after := #[], guard := none }) (v := ?_) rfl (by kernel_rfl) (by kernel_rfl) (by kernel_rfl) (fun _ _ _ h => h) (Or.inl ⟨by rfl, ?_⟩) (by assumption) ?_
                        rotate_left
                        · intro w hSw; (try dsimp only at hSw); go_simp <;> with_reducible rfl
                        simp only [Act.put, List.setIfInBounds_toArray, List.set_cons_zero, List.set_cons_succ]
                        refine wpAnyH_take (i := 1) (oi := { dst := some 105, op := Op.move (Operand.tmp 104), type := 4, pos := "law.go:131", after := #[{ on := 0, ground := Ground.data }], guard := none }) (v := ?_) rfl (by kernel_rfl) (by kernel_rfl) (by kernel_rfl) (fun _ _ _ h => h) (Or.inl ⟨by rfl, ?_⟩) (by assumption) ?_
                        rotate_left
                        · intro w hSw; (try dsimp only at hSw); go_simp <;> with_reducible rfl
                        simp only [Act.put, List.setIfInBounds_toArray, List.set_cons_zero, List.set_cons_succ]
                        refine wpAnyH_take (i := 2) (oi := { dst := some 106, op := Op.move (Operand.tmp 3), type := 22, pos := "law.go:131", after := #[{ on := 1, ground := Ground.guard }], guard := some (1, false) }) (v := undef) rfl (by kernel_rfl) (by kernel_rfl) (by kernel_rfl) (fun _ _ _ h => h) (Or.inr ⟨by rfl, rfl⟩) (by assumption) ?_
                        simp only [Act.put, List.setIfInBounds_toArray, List.set_cons_zero, List.set_cons_succ]
                        refine wpAnyH_take (i := 3) (oi := { dst := some 107, op := Op.move (Operand.tmp 7), type := 3, pos := "law.go:131", after := #[{ on := 1, ground := Ground.guard }], guard := some (1, false) }) (v := undef) rfl (by kernel_rfl) (by kernel_rfl) (by kernel_rfl) (fun _ _ _ h => h) (Or.inr ⟨by rfl, rfl⟩) (by assumption) ?_
                        simp only [Act.put, List.setIfInBounds_toArray, List.set_cons_zero, List.set_cons_succ]
                        refine wpAnyH_take (i := 4) (oi := { dst := some 108, op := Op.indexAddr 22 (Operand.tmp 106) (Operand.tmp 107), type := 0, pos := "law.go:131", after := #[{ on := 2, ground := Ground.data }, { on := 3, ground := Ground.data }, { on := 1, ground := Ground.guard }], guard := some (1, false) }) (v := undef) rfl (by kernel_rfl) (by kernel_rfl) (by kernel_rfl) (fun _ _ _ h => h) (Or.inr ⟨by rfl, rfl⟩) (by assumption) ?_
                        simp only [Act.put, List.setIfInBounds_toArray, List.set_cons_zero, List.set_cons_succ]
                        refine wpAnyH_take (i := 5) (oi := { dst := some 109, op := Op.load 32 (Operand.tmp 108), type := 32, pos := "law.go:131", after := #[{ on := 4, ground := Ground.data }, { on := 1, ground := Ground.guard }], guard := some (1, false) }) (v := undef) rfl (by kernel_rfl) (by kernel_rfl) (by kernel_rfl) (fun _ _ _ h => h) (Or.inr ⟨by rfl, rfl⟩) (by assumption) ?_
                        simp only [Act.put, List.setIfInBounds_toArray, List.set_cons_zero, List.set_cons_succ]
                        refine wpAnyH_take (i := 6) (oi := { dst := some 110, op := Op.move (Operand.tmp 5), type := 3, pos := "law.go:131", after := #[{ on := 1, ground := Ground.guard }], guard := some (1, false) }) (v := undef) rfl (by kernel_rfl) (by kernel_rfl) (by kernel_rfl) (fun _ _ _ h => h) (Or.inr ⟨by rfl, rfl⟩) (by assumption) ?_
                        simp only [Act.put, List.setIfInBounds_toArray, List.set_cons_zero, List.set_cons_succ]
                        refine wpAnyH_take (i := 7) (oi := { dst := some 111, op := Op.move (Operand.tmp 4), type := 23, pos := "law.go:131", after := #[{ on := 1, ground := Ground.guard }], guard := some (1, false) }) (v := undef) rfl (by kernel_rfl) (by kernel_rfl) (by kernel_rfl) (fun _ _ _ h => h) (Or.inr ⟨by rfl, rfl⟩) (by assumption) ?_
                        simp only [Act.put, List.setIfInBounds_toArray, List.set_cons_zero, List.set_cons_succ]
                        refine wpAnyH_take (i := 8) (oi := { dst := some 112, op := Op.call { callee := Callee.value (Operand.func 10), args := #[Operand.tmp 111], argTypes := #[23] }, type := 23, pos := "law.go:131", after := #[{ on := 7, ground := Ground.data }, { on := 1, ground := Ground.chain }, { on := 1, ground := Ground.guard }], guard := some (1, false) }) (v := undef) rfl (by kernel_rfl) (by kernel_rfl) (by kernel_rfl) (fun _ _ _ h => h) (Or.inr ⟨by rfl, rfl⟩) (by assumption) ?_
                        simp only [Act.put, List.setIfInBounds_toArray, List.set_cons_zero, List.set_cons_succ]
                        refine wpAnyH_take (i := 9) (oi := { dst := some 113, op := Op.move (Operand.tmp 4), type := 23, pos := "law.go:131", after := #[{ on := 1, ground := Ground.guard }], guard := some (1, false) }) (v := undef) rfl (by kernel_rfl) (by kernel_rfl) (by kernel_rfl) (fun _ _ _ h => h) (Or.inr ⟨by rfl, rfl⟩) (by assumption) ?_
                        simp only [Act.put, List.setIfInBounds_toArray, List.set_cons_zero, List.set_cons_succ]
                        refine wpAnyH_take (i := 10) (oi := { dst := some 114, op := Op.move (Operand.tmp 10), type := 3, pos := "law.go:131", after := #[{ on := 1, ground := Ground.guard }], guard := some (1, false) }) (v := undef) rfl (by kernel_rfl) (by kernel_rfl) (by kernel_rfl) (fun _ _ _ h => h) (Or.inr ⟨by rfl, rfl⟩) (by assumption) ?_
                        simp only [Act.put, List.setIfInBounds_toArray, List.set_cons_zero, List.set_cons_succ]
                        refine wpAnyH_take (i := 11) (oi := { dst := some 115, op := Op.indexAddr 23 (Operand.tmp 113) (Operand.tmp 114), type := 0, pos := "law.go:131", after := #[{ on := 9, ground := Ground.data }, { on := 10, ground := Ground.data }, { on := 1, ground := Ground.guard }], guard := some (1, false) }) (v := undef) rfl (by kernel_rfl) (by kernel_rfl) (by kernel_rfl) (fun _ _ _ h => h) (Or.inr ⟨by rfl, rfl⟩) (by assumption) ?_
                        simp only [Act.put, List.setIfInBounds_toArray, List.set_cons_zero, List.set_cons_succ]
                        refine wpAnyH_take (i := 12) (oi := { dst := some 116, op := Op.load 3 (Operand.tmp 115), type := 3, pos := "law.go:131", after := #[{ on := 11, ground := Ground.data }, { on := 1, ground := Ground.guard }], guard := some (1, false) }) (v := undef) rfl (by kernel_rfl) (by kernel_rfl) (by kernel_rfl) (fun _ _ _ h => h) (Or.inr ⟨by rfl, rfl⟩) (by assumption) ?_
                        simp only [Act.put, List.setIfInBounds_toArray, List.set_cons_zero, List.set_cons_succ]
                        refine wpAnyH_take (i := 13) (oi := { dst := some 117, op := Op.buildSlice 23 1 #[(0, Operand.tmp 116)], type := 23, pos := "law.go:131", after := #[{ on := 12, ground := Ground.data }, { on := 1, ground := Ground.guard }], guard := some (1, false) }) (v := undef) rfl (by kernel_rfl) (by kernel_rfl) (by kernel_rfl) (fun _ _ _ h => h) (Or.inr ⟨by rfl, rfl⟩) (by assumption) ?_
                        simp only [Act.put, List.setIfInBounds_toArray, List.set_cons_zero, List.set_cons_succ]
                        refine wpAnyH_take (i := 14) (oi := { dst := some 118, op := Op.call { callee := Callee.builtin Builtin.append, args := #[Operand.tmp 112, Operand.tmp 117], argTypes := #[23, 23] }, type := 23, pos := "law.go:131", after := #[{ on := 8, ground := Ground.data }, { on := 13, ground := Ground.data }, { on := 8, ground := Ground.chain }, { on := 1, ground := Ground.guard }], guard := some (1, false) }) (v := undef) rfl (by kernel_rfl) (by kernel_rfl) (by kernel_rfl) (fun _ _ _ h => h) (Or.inr ⟨by rfl, rfl⟩) (by assumption) ?_
                        simp only [Act.put, List.setIfInBounds_toArray, List.set_cons_zero, List.set_cons_succ]
                        refine wpAnyH_take (i := 15) (oi := { dst := some 119, op := Op.call { callee := Callee.value (Operand.func 19), args := #[Operand.tmp 109, Operand.tmp 110, Operand.tmp 118], argTypes := #[32, 3, 23] }, type := 4, pos := "law.go:131", after := #[{ on := 5, ground := Ground.data }, { on := 6, ground := Ground.data }, { on := 14, ground := Ground.data }, { on := 14, ground := Ground.chain }, { on := 1, ground := Ground.guard }], guard := some (1, false) }) (v := undef) rfl (by kernel_rfl) (by kernel_rfl) (by kernel_rfl) (fun _ _ _ h => h) (Or.inr ⟨by rfl, rfl⟩) (by assumption) ?_
                        simp only [Act.put, List.setIfInBounds_toArray, List.set_cons_zero, List.set_cons_succ]
                        refine wpAnyH_take (i := 16) (oi := { dst := some 120, op := Op.pick (Operand.tmp 105) (Operand.const (Value.bool true)) (Operand.tmp 119), type := 4, pos := "law.go:131", after := #[{ on := 1, ground := Ground.data }, { on := 15, ground := Ground.data }], guard := none }) (v := ?_) rfl (by kernel_rfl) (by kernel_rfl) (by kernel_rfl) (fun _ _ _ h => h) (Or.inl ⟨by rfl, ?_⟩) (by assumption) ?_
                        rotate_left
                        · intro w hSw; (try dsimp only at hSw); go_simp <;> with_reducible rfl
                        simp only [Act.put, List.setIfInBounds_toArray, List.set_cons_zero, List.set_cons_succ]
                        refine wpAnyH_take (i := 17) (oi := { dst := some 9, op := Op.assign (Operand.tmp 120), type := 4, pos := "law.go:131", after := #[{ on := 16, ground := Ground.data }, { on := 15, ground := Ground.chain }, { on := 0, ground := Ground.phase }, { on := 1, ground := Ground.phase }, { on := 2, ground := Ground.phase }, { on := 3, ground := Ground.phase }, { on := 4, ground := Ground.phase }, { on := 5, ground := Ground.phase }, { on := 6, ground := Ground.phase }, { on := 7, ground := Ground.phase }, { on := 8, ground := Ground.phase }, { on := 9, ground := Ground.phase }, { on := 10, ground := Ground.phase }, { on := 11, ground := Ground.phase }, { on := 12, ground := Ground.phase }, { on := 13, ground := Ground.phase }, { on := 14, ground := Ground.phase }, { on := 15, ground := Ground.phase }, { on := 16, ground := Ground.phase }], guard := none }) (v := ?_) rfl (by kernel_rfl) (by kernel_rfl) (by kernel_rfl) (fun _ _ _ h => h) (Or.inl ⟨by rfl, ?_⟩) (by assumption) ?_
                        rotate_left
                        · intro w hSw; (try dsimp only at hSw); go_simp <;> with_reducible rfl
                        simp only [Act.put, List.setIfInBounds_toArray, List.set_cons_zero, List.set_cons_succ]
                        refine wpAnyH_done (by kernel_rfl) ?_ _
                        refine NoPanic.normal ?_
                        go_wp2
                        exact ⟨⟨k + 1, by omega, by go_num, hM2.out, hS.out.drew'⟩, by simp [intOf]; omega⟩
                      | false =>
                        have hM2 : Hid (more r n B2 (z : Int) (k + 1) = early r n (B2 ++ [x])) := by show _ = _; rw [hM1.out, hmk]; rfl
                        clear hM1 hmk
                        have hx := hx'.out
                        obtain ⟨g1, p1, os, cs, e1, hC, hV⟩ := hS.out.cells hx
                        cases e1
                        have hC' := hide' hC
                        have KR : Hid (∀ V, Below wr.heap.size wr V → Calls Try.prog 10 #[.slice ob p cb] V fun e w' => ∃ o1 k1, e = .returned (.slice o1 p k1) ∧ Hid (w'.ownsRow V.heap.size 3 1 (.slice o1 p k1) p (cellsI B2)) ∧ Below V.heap.size V w') := fun V h1 => by
                          have := rowOwn hS.out V h1
                          rwa [hp.out] at this
                        have KE1 : Hid (∀ V o1 k1, Below wr.heap.size wr V → RowI V (.slice o1 p k1) B2 → Calls Try.prog 19 #[.agg #[.int .i64 r.kind, .int .i64 r.k, .slice os r.steps.length cs], .int .i64 n, .slice o1 p k1] V fun e w' => e = .returned (.bool (early r n B2)) ∧ Below V.heap.size V w') := fun V o1 k1 h1 h2 => earlyF r n _ _ B2 V (hV V h1) h2 (by omega)
                        have KE2 : Hid (∀ V o1 k1 x, Below wr.heap.size wr V → RowI V (.slice o1 (p + 1) k1) (B2 ++ [x]) → Calls Try.prog 19 #[.agg #[.int .i64 r.kind, .int .i64 r.k, .slice os r.steps.length cs], .int .i64 n, .slice o1 (p + 1) k1] V fun e w' => e = .returned (.bool (early r n (B2 ++ [x]))) ∧ Below V.heap.size V w') := fun V o1 k1 x h1 h2 => earlyF r n _ _ (B2 ++ [x]) V (hV V h1) h2 (by omega)
                        have KC : Hid (∀ V, Below wr.heap.size wr V → Calls Try.prog 11 #[.int .i64 n, .agg #[.int .i64 r.kind, .int .i64 r.k, .slice os r.steps.length cs]] V fun e w' => e = .returned (.int .i64 (erC (chk n r))) ∧ Below V.heap.size V w') := fun V h1 => checkF n r _ V (hV V h1) (by omega)
                        have KH : Hid (∀ V o1 k1, Below wr.heap.size wr V → RowI V (.slice o1 p k1) B2 → Calls Try.prog 13 #[.agg #[.int .i64 r.kind, .int .i64 r.k, .slice os r.steps.length cs], .slice o1 p k1] V fun e w' => e = .returned (.bool (holds r B2)) ∧ Below V.heap.size V w') := fun V o1 k1 h1 h2 => holdsF r _ _ B2 V (hV V h1) h2 (by omega)
                        have KO : Hid (∀ V, Below wr.heap.size wr V → Calls Try.prog 20 #[.slice ob p cb] V fun e w' => ∃ z : Nat, e = .returned (.int .i64 (z : Int)) ∧ Hid ((z : Int) ∉ B2) ∧ w' = V) := fun V h1 => by
                          have h3 := hS.out.lb
                          rw [hp.out] at h3
                          exact otherF B2 _ V (h3.below h1 (Nat.le_refl _)) (by rw [hp.out]; omega)
                        have hd : Hid (Below wr.heap.size wr wr.drew) := (Below.refl _ _).drew
                        obtain ⟨gb, pb, eB, hcell⟩ : ∃ gb pb, ob = some ⟨gb, pb, none⟩ ∧ ∀ V, Below wr.heap.size wr V → V.cell? ⟨gb, pb + k, none⟩ = some (.int .i64 x) := by
                          obtain ⟨_, _, e, _, h⟩ := hS.out.lb
                          cases e
                          obtain ⟨gb, pb, e, h⟩ := h k x hxk
                          exact ⟨gb, pb, e, fun V hV => (hV.cell (p := ⟨gb, pb + k, none⟩) (cell_lt h)).trans h⟩
                        subst eB
                        have hcell' := hide' hcell
                        have hCC : Hid (∀ V, Below wr.heap.size wr V → (V.cell? ⟨g, o + c * 3, none⟩ = some (.int .i64 r.kind) ∧ V.cell? ⟨g, o + c * 3 + 1, none⟩ = some (.int .i64 r.k) ∧ V.cell? ⟨g, o + c * 3 + 2, none⟩ = some (.slice os r.steps.length cs) ∧ V.cell? ⟨w.heap.size, 0, none⟩ = some (.int .i64 n)) ∧ V.cell? ⟨gb, pb + k, none⟩ = some (.int .i64 x)) := fun V hV => ⟨hC'.out V hV, hcell'.out V hV⟩
                        have hkl' : (k : Int) < (p : Int) := by omega
                        have hdb : Hid (wr.heap.size ≤ wr.drew.heap.size) := hd.out.size
                        clear hC hV hx KE1 KC KH KO hC' hcell hcell' hxk hx' hz
                        go_wp2_with fail
                        have hdA : Hid (Below wr.heap.size wr (wr.drew.alloc (.cells #[.int .i64 x] 3))) := Below.alloc hd.out hd.out.size _
                        have hcA : Hid (∀ V, Below (wr.drew.alloc (.cells #[.int .i64 x] 3)).heap.size (wr.drew.alloc (.cells #[.int .i64 x] 3)) V → V.cell? ⟨wr.heap.size, 0, none⟩ = some (.int .i64 x)) := fun V hV => by
                          have e : V.heap[wr.heap.size]? = some (.cells #[.int .i64 x] 3) := by
                            rw [hV.block _ (by rw [World.size_alloc]; exact Nat.lt_succ_self _)]
                            exact heap_new wr.drew _
                          simp [World.cell?, e]
                        have hcN : Hid (∀ W : World, (W.alloc (.cells #[.int .i64 x] 3)).cell? ⟨W.heap.size, 0, none⟩ = some (.int .i64 x)) := fun W => by
                          have e : (W.alloc (.cells #[.int .i64 x] 3)).heap[W.heap.size]? = some (.cells #[.int .i64 x] 3) := heap_new W _
                          rw [World.cell?]
                          show (match (W.alloc (.cells #[.int .i64 x] 3)).heap[W.heap.size]? with | some (.cells c _ _) => c[0]? | _ => none) = _
                          rw [e]; rfl
                        go_region_held3 (fun V => (V.cell? ⟨g, o + c * 3, none⟩ = some (.int .i64 r.kind) ∧ V.cell? ⟨g, o + c * 3 + 1, none⟩ = some (.int .i64 r.k) ∧ V.cell? ⟨g, o + c * 3 + 2, none⟩ = some (.slice os r.steps.length cs) ∧ V.cell? ⟨w.heap.size, 0, none⟩ = some (.int .i64 n)) ∧ V.cell? ⟨gb, pb + k, none⟩ = some (.int .i64 x)) (first | (exact hCC.out _ hd.out) | (exact hCC.out _ hdA.out) | (exact hCC.out _ h1.out) | (exact hCC.out _ (Below.alloc h1.out h1.out.size _)) | (exact hCC.out _ h5.out) | (exact hCC.out _ h6.out)) (first | (go_at_call 10; refine (KR.out _ hd.out).mono ?_; rintro e w3 ⟨o1, k1, rfl, hr3, hb⟩; have h1 : Hid (Below wr.heap.size wr w3) := hd.out.trans hb; have hsz3 : Hid (wr.drew.heap.size ≤ w3.heap.size) := hb.size; have hcw := hide' True.intro; clear hb) | (go_at_call 10; refine (KR.out _ hdA.out).mono ?_; rintro e w3 ⟨o1, k1, rfl, hr3, hb⟩; have h1 : Hid (Below wr.heap.size wr w3) := hdA.out.trans (hb.mono hdA.out.size); have hsz3 : Hid ((wr.drew.alloc (.cells #[.int .i64 x] 3)).heap.size ≤ w3.heap.size) := hb.size; have hcw := hide' (hcA.out _ hb); clear hb) | (rw [if_pos (by rfl)]; refine app_any (.tmp 112) (.tmp 117) wr.drew.heap.size w3.heap.size (w3.alloc (.cells #[.int .i64 x] 3)) _ p B2 x rfl rfl rfl (hcN.out w3) hp.out (hr3.out.alloc _) (Nat.le_trans hsz3.out (by simp)) (by omega) ?_; intro o2 k2 w8 hr8 hb; have h5 : Hid (Below wr.heap.size wr w8) := (Below.alloc h1.out h1.out.size _).trans (hb.mono hdb.out); have hr8' := hide' hr8; clear hb hr8) | (rw [if_pos (by rfl)]; refine app_any (.tmp 112) (.tmp 117) (wr.drew.alloc (.cells #[.int .i64 x] 3)).heap.size wr.heap.size w3 _ p B2 x rfl rfl rfl hcw.out hp.out hr3.out hsz3.out (by omega) ?_; intro o2 k2 w8 hr8 hb; have h5 : Hid (Below wr.heap.size wr w8) := h1.out.trans (hb.mono hdA.out.size); have hr8' := hide' hr8; clear hb hr8) | (go_at_call 19; refine (KE2.out _ _ _ _ h5.out hr8'.out).mono ?_; rintro e w9 ⟨rfl, hb⟩; have h6 : Hid (Below wr.heap.size wr w9) := h5.out.trans (hb.mono h5.out.size); clear hb))
                        all_goals
                          clear KR KE2 hCC hr3 hr8'
                          go_wp2
                          exact ⟨⟨k + 1, by omega, by go_num, by rw [hM2.out], hS.out.over h6.out⟩, by simp [intOf]; omega⟩
                    · as_aux_lemma =>
                      obtain rfl : k = p := by omega
                      rw [hme'.out]
                      clear hme' hx'
                      go_wp2
                      exact ⟨⟨c + 1, by omega, by go_num, hS⟩, by simp [intOf]; omega⟩
        · go_wp2
          go_ret
          exact ⟨rfl, hS.out.bl⟩
end Go.Proofs.Ytnlpbhoilalgnaa

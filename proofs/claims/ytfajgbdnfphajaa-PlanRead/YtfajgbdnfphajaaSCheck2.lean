/- whoFit, rulesFit, Check. -/
import Derived.Test.YtfajgbdnfphajaaSCheck
namespace Go.Proofs.Ytfajgbdnfphajaa.S
open Go.RowKit Go.Shelf
/-- The problem's box. -/
def PbB (w : World) (g : Nat) (P : Pb) (wv fv rv : Value) : Prop := w.heap[g]? = some (.cells #[.int .i64 P.users, wv, fv, rv] 27 (0, 0))
theorem PbB.c0 {w : World} {g : Nat} {P : Pb} {wv fv rv : Value} (h : PbB w g P wv fv rv) : w.cell? ⟨g, 0, none⟩ = some (.int .i64 P.users) := by unfold PbB at h; simp [World.cell?, h]
theorem PbB.c1 {w : World} {g : Nat} {P : Pb} {wv fv rv : Value} (h : PbB w g P wv fv rv) : w.cell? ⟨g, 1, none⟩ = some wv := by unfold PbB at h; simp [World.cell?, h]
theorem PbB.c2 {w : World} {g : Nat} {P : Pb} {wv fv rv : Value} (h : PbB w g P wv fv rv) : w.cell? ⟨g, 2, none⟩ = some fv := by unfold PbB at h; simp [World.cell?, h]
theorem PbB.c3 {w : World} {g : Nat} {P : Pb} {wv fv rv : Value} (h : PbB w g P wv fv rv) : w.cell? ⟨g, 3, none⟩ = some rv := by unfold PbB at h; simp [World.cell?, h]
theorem PbB.below {w w' : World} {g : Nat} {P : Pb} {wv fv rv : Value} (h : PbB w g P wv fv rv) (hb : Below w.heap.size w w') : PbB w' g P wv fv rv := (hb.block g (Array.getElem?_eq_some_iff.1 h).1).trans h
theorem shr_zero (z U : Nat) (hz : z < 18446744073709551616) : ((z : Int) / 2 ^ (min U 64)) = ((z / 2 ^ U : Nat) : Int) := by
  rcases Nat.lt_or_ge U 64 with h | h
  · rw [Nat.min_eq_left (by omega)]; simp
  · rw [Nat.min_eq_right h, Nat.div_eq_of_lt (Nat.lt_of_lt_of_le hz (show 2 ^ 64 ≤ 2 ^ U from Nat.pow_le_pow_right (by decide) h))]
    have : ((z : Int) / 2 ^ 64) = ((z / 2 ^ 64 : Nat) : Int) := by simp
    rw [this, Nat.div_eq_of_lt hz]
set_option maxRecDepth 100000 in
set_option maxHeartbeats 2000000 in
theorem whoFitF (P : Pb) (wv fv rv : Value) (w : World) (h : PbV w P wv fv rv) (hl : P.who.length ≤ 1000) (hU : 0 ≤ P.users) (hw : ∀ z ∈ P.who, z < 18446744073709551616) :
    Calls Try.prog 39 #[pbV P wv fv rv] w fun e w' => e = .returned (.bool (whoB P)) ∧ Below w.heap.size w w' := by
  have hs := h.shape
  have hf := h.who
  obtain ⟨ow, cw, of, cf, or, cr, rfl, rfl, rfl⟩ := hs
  obtain ⟨oa, cap, e, _, hc⟩ := hf
  injection e with e1 e2 e3
  subst e1
  subst e3
  have hc' := hide' hc
  have hw' := hide' hw
  have hB0 : Hid (Below w.heap.size w (w.alloc (.cells #[.int .i64 P.users, .slice ow P.who.length cw, .slice of P.fixed.length cf, .slice or P.rules.length cr] 27))) := (Below.refl _ w).alloc (Nat.le_refl _) _
  have hb0 : Hid (PbB (w.alloc (.cells #[.int .i64 P.users, .slice ow P.who.length cw, .slice of P.fixed.length cf, .slice or P.rules.length cr] 27)) w.heap.size P (.slice ow P.who.length cw) (.slice of P.fixed.length cf) (.slice or P.rules.length cr)) := heap_new w _
  obtain ⟨U, hUe⟩ : ∃ U : Nat, P.users = (U : Int) := ⟨P.users.toNat, by omega⟩
  have hU0 : ¬ (P.users : Int) < 0 := by omega
  unfold pbV
  have hwB : Hid (whoB P = P.who.all (outU U)) := by show _ = _; unfold whoB; rw [hUe, Int.toNat_natCast]
  rw [hwB.out]
  rw [hUe] at hB0 hb0 ⊢
  unfold PbB at hb0
  rw [hUe] at hb0
  clear h hc e2 hw hwB hU hU0
  go_enter Try.func39, Try.ntmps39
  go_wp2
  go_loopw [4, 8] (fun _ p wr => ∃ j : Nat, j ≤ P.who.length ∧ p = .int .i64 (j : Int) ∧ Hid ((P.who.take j).all (outU U) = true) ∧ Hid (Below w.heap.size w wr) ∧ Hid (wr.heap[w.heap.size]? = some (.cells #[.int .i64 (U : Int), .slice ow P.who.length cw, .slice of P.fixed.length cf, .slice or P.rules.length cr] 27 (0, 0)))) (fun _ p _ => ((P.who.length : Int) - intOf p).toNat)
  case atStart => exact ⟨0, Nat.zero_le _, rfl, rfl, hB0, hb0⟩
  case round =>
    clear hB0 hb0
    obtain ⟨j, hj, rfl, hE, hB, hb⟩ := hrel
    have q0 : wr.cell? ⟨w.heap.size, 0, none⟩ = some (.int .i64 (U : Int)) := by have := hb.out; simp [World.cell?, this]
    by_cases hlt : j < P.who.length
    · have hlt' : (j : Int) < (P.who.length : Int) := by omega
      obtain ⟨z, hx⟩ : ∃ z, P.who[j]? = some z := ⟨_, List.getElem?_eq_getElem hlt⟩
      obtain ⟨g, o, rfl, d1⟩ := hc'.out j z hx
      have d2 := M.cell_over d1 hB.out
      have hsn := hide' (all_take (outU U) hx)
      have hno := hide' (fun h => all_no (outU U) hx h)
      have hsh := shr_zero z U (hw'.out z (List.mem_of_getElem? hx))
      have hU0 : ¬ (U : Int) < 0 := by omega
      clear d1 hx
      by_cases he : z / 2 ^ U = 0
      · rw [he] at hsh
        have hE2 : Hid ((P.who.take (j + 1)).all (outU U) = true) := by show _ = _; rw [hsn.out, hE.out]; simp [outU, he]
        clear hsn hno hE he
        go_wp2
        exact ⟨⟨j + 1, by omega, by go_num, hE2, hB, hb⟩, by simp [intOf]; omega⟩
      · have hE2 := hide' (hno.out (by simp only [outU, he]; rfl))
        have hne : (((z / 2 ^ U : Nat) : Int) != 0) = true := by rw [bne_iff_ne]; omega
        generalize z / 2 ^ U = y at *
        clear hsn hno hE he
        go_wp2
        go_ret
        exact ⟨ret_bool hE2.out.symm, hB.out⟩
    · obtain rfl : j = P.who.length := by omega
      rw [List.take_length] at hE
      clear hc'
      go_wp2
      go_ret
      exact ⟨ret_bool hE.out.symm, hB.out⟩
set_option maxRecDepth 100000 in
set_option maxHeartbeats 2000000 in
theorem rulesFitF (P : Pb) (wv fv rv : Value) (w : World) (h : PbV w P wv fv rv) (hl : P.rules.length ≤ 1000) (hm : ∀ r ∈ P.rules, r.steps.length ≤ 1000) :
    Calls Try.prog 40 #[pbV P wv fv rv] w fun e w' => e = .returned (.bool (rulB P)) ∧ Below w.heap.size w w' := by
  have hs := h.shape
  have hf := h.rules
  obtain ⟨ow, cw, of, cf, or, cr, rfl, rfl, rfl⟩ := hs
  obtain ⟨oa, cap, e, _, hc⟩ := hf
  injection e with e1 e2 e3
  subst e1
  subst e3
  have hc' := hide' hc
  have hm' := hide' hm
  have hB0 : Hid (Below w.heap.size w (w.alloc (.cells #[.int .i64 P.users, .slice ow P.who.length cw, .slice of P.fixed.length cf, .slice or P.rules.length cr] 27))) := (Below.refl _ w).alloc (Nat.le_refl _) _
  have hb0 : Hid (PbB (w.alloc (.cells #[.int .i64 P.users, .slice ow P.who.length cw, .slice of P.fixed.length cf, .slice or P.rules.length cr] 27)) w.heap.size P (.slice ow P.who.length cw) (.slice of P.fixed.length cf) (.slice or P.rules.length cr)) := heap_new w _
  unfold pbV rulB
  clear h hc e2 hm
  go_enter Try.func40, Try.ntmps40
  go_wp2
  go_loopw [4, 8] (fun _ p wr => ∃ j : Nat, j ≤ P.rules.length ∧ p = .int .i64 (j : Int) ∧ Hid ((P.rules.take j).all (fun r => chk (P.who.length : Int) r) = true) ∧ Hid (Below w.heap.size w wr) ∧ Hid (PbB wr w.heap.size P (.slice ow P.who.length cw) (.slice of P.fixed.length cf) (.slice or P.rules.length cr))) (fun _ p _ => ((P.rules.length : Int) - intOf p).toNat)
  case atStart => exact ⟨0, Nat.zero_le _, rfl, rfl, hB0, hb0⟩
  case round =>
    clear hB0 hb0
    obtain ⟨j, hj, rfl, hE, hB, hb⟩ := hrel
    by_cases hlt : j < P.rules.length
    · have hlt' : (j : Int) < (P.rules.length : Int) := by omega
      obtain ⟨r, hx⟩ : ∃ r, P.rules[j]? = some r := ⟨_, List.getElem?_eq_getElem hlt⟩
      obtain ⟨g, o, sv, rfl, d1, d2, d3, d4⟩ := hc'.out j r hx
      have e1 := M.cell_over d1 hB.out
      have e2 := M.cell_over d2 hB.out
      have e3 := M.cell_over d3 hB.out
      have hsn := hide' (all_take (fun r => chk (P.who.length : Int) r) hx)
      have hno := hide' (fun h => all_no (fun r => chk (P.who.length : Int) r) hx h)
      have hB1 : Hid (Below w.heap.size w (wr.alloc (.cells #[.int .i64 r.kind, .int .i64 r.k, sv] 62))) := hB.out.alloc hB.out.size _
      have hb1 : Hid (PbB (wr.alloc (.cells #[.int .i64 r.kind, .int .i64 r.k, sv] 62)) w.heap.size P (.slice ow P.who.length cw) (.slice of P.fixed.length cf) (.slice (some ⟨g, o, none⟩) P.rules.length cr)) := hb.out.below ((Below.refl _ _).alloc (Nat.le_refl _) _)
      have q1 := hb1.out.c1
      have KE : Hid (Calls Try.prog 44 #[.int .i64 (P.who.length : Int), .agg #[.int .i64 r.kind, .int .i64 r.k, sv]] (wr.alloc (.cells #[.int .i64 r.kind, .int .i64 r.k, sv] 62)) fun e w' => e = .returned (.int .i64 (erC (chk (P.who.length : Int) r))) ∧ Below (wr.alloc (.cells #[.int .i64 r.kind, .int .i64 r.k, sv] 62)).heap.size (wr.alloc (.cells #[.int .i64 r.kind, .int .i64 r.k, sv] 62)) w') := checkF (P.who.length : Int) r sv _ (d4.below hB1.out (Nat.le_refl _)) (by have := hm'.out r (List.mem_of_getElem? hx); omega)
      obtain ⟨osv, nsv, csv, rfl⟩ : ∃ a b c, sv = .slice a b c := by obtain ⟨a, c, e, _⟩ := d4; exact ⟨a, _, c, e⟩
      clear d1 d2 d3 d4 hx hb
      cases hk : chk (P.who.length : Int) r with
      | true =>
        rw [hk] at KE
        have hE2 : Hid ((P.rules.take (j + 1)).all (fun r => chk (P.who.length : Int) r) = true) := by show _ = _; rw [hsn.out, hE.out, hk]; rfl
        clear hsn hno hE hk
        go_wp2_with fail
        refine KE.out.mono ?_
        rintro e w5 ⟨rfl, hb5⟩
        have hB5 : Hid (Below w.heap.size w w5) := hB1.out.trans (hb5.mono hB1.out.size)
        have hb6 := hide' (hb1.out.below hb5)
        clear hb5 hb1 hB1 KE q1
        unfold erC
        go_wp2
        exact ⟨⟨j + 1, by omega, by go_num, hE2, hB5, hb6⟩, by simp [intOf]; omega⟩
      | false =>
        rw [hk] at KE
        have hE2 := hide' (hno.out hk)
        clear hsn hno hE hk
        go_wp2_with fail
        refine KE.out.mono ?_
        rintro e w5 ⟨rfl, hb5⟩
        have hB5 : Hid (Below w.heap.size w w5) := hB1.out.trans (hb5.mono hB1.out.size)
        clear hb5 hb1 hB1 KE q1
        unfold erC
        go_wp2
        go_ret
        exact ⟨ret_bool hE2.out.symm, hB5.out⟩
    · obtain rfl : j = P.rules.length := by omega
      rw [List.take_length] at hE
      clear hc'
      go_wp2
      go_ret
      exact ⟨ret_bool hE.out.symm, hB.out⟩
end Go.Proofs.Ytfajgbdnfphajaa.S

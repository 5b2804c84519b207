/- Loan.Back: each row of words is as it was lent; it turns nothing but the loan's own. (Printed by mkloanu.py.) -/
import Derived.Test.YtmoiedlchcceaaaDoorJ15
namespace Go.Proofs.YtmoiedlchcceaaaDoor.KU
open Go.RowKit
open Go.Proofs.YtmoiedlchcceaaaDoor.K
/-- The lists below i are written over, and k places of list i. -/
def rowsN (rows : Nat → List Int) (i k j : Nat) : List Int := if j < i then List.replicate (rows j).length 99 else if j = i then List.replicate k 99 ++ (rows i).drop k else rows j
theorem rowsN_i (rows : Nat → List Int) (i k : Nat) : rowsN rows i k i = List.replicate k 99 ++ (rows i).drop k := by rw [rowsN, if_neg (Nat.lt_irrefl _), if_pos rfl]
theorem rowsN_at (rows : Nat → List Int) (i : Nat) : rowsN rows i 0 i = rows i := by rw [rowsN_i]; simp
theorem rowsN_len (rows : Nat → List Int) (i k : Nat) (h : k ≤ (rows i).length) : (rowsN rows i k i).length = (rows i).length := by
  rw [rowsN_i, List.length_append, List.length_replicate, List.length_drop]; omega
theorem rowsN_set (rows : Nat → List Int) (i k : Nat) (h : k < (rows i).length) : rowsN rows i (k + 1) i = (rowsN rows i k i).set k 99 := by
  rw [rowsN_i, rowsN_i, List.set_append_right _ _ (by rw [List.length_replicate]; exact Nat.le_refl _), List.length_replicate, Nat.sub_self, List.drop_eq_getElem_cons h, List.set_cons_zero, List.replicate_succ', List.append_assoc]; rfl
theorem rowsN_ne (rows : Nat → List Int) (i k j : Nat) (h : j ≠ i) : rowsN rows i (k + 1) j = rowsN rows i k j := by
  unfold rowsN; rw [if_neg h, if_neg h]
theorem rowsN_next (rows : Nat → List Int) (i j : Nat) : rowsN rows (i + 1) 0 j = rowsN rows i (rows i).length j := by
  unfold rowsN
  by_cases h1 : j < i
  · rw [if_pos h1, if_pos (by omega)]
  · by_cases h2 : j = i
    · subst h2; rw [if_neg h1, if_pos (by omega), if_pos rfl, List.drop_length, List.append_nil]
    · rw [if_neg (by omega), if_neg h1, if_neg h2]
      by_cases h3 : j = i + 1
      · subst h3; rw [if_pos rfl]; rfl
      · rw [if_neg h3]
theorem rowsN_zero (rows : Nat → List Int) (j : Nat) : rowsN rows 0 0 j = rows j := by
  unfold rowsN
  by_cases h : j = 0
  · subst h; rfl
  · rw [if_neg (by omega), if_neg h]
set_option maxRecDepth 100000 in
set_option maxHeartbeats 8000000 in
theorem loanBack (p : Nat) (tag : Nat → Nat) (m : Nat) (w : World) (hL0 : Loan w p tag m) (hm : m ≤ 100000) :
    Calls Tryd.prog 12 #[.pointer (some ⟨p, 0, none⟩)] w fun e w' => e = .returned (.bool true) ∧ Sm (· ≠ 0) tag w w' := by
  obtain ⟨ov, ow, vs, us, rows, hbx, hbt, hlive, hwant, hfresh, hrow⟩ := hL0
  have hrow' := hide' hrow
  have hlive0 : Hid (Fam w tag 2 cL ov m vs rows) := hlive
  have hwant0 := hide' hwant
  have hbx' := hide' hbx
  obtain ⟨oa, cap, rfl⟩ := own_shape hlive.outer
  obtain ⟨ob, cb, rfl⟩ := own_shape hwant.outer
  clear hwant hlive hfresh hrow hbx
  go_enter Tryd.func12, Tryd.ntmps12
  go_wp2
  have d00 := hbx'.out.c0
  go_loopw [3, 4, 5] (fun okv i _ wr => i = .int .i64 0 ∧ okv = .bool true ∧ w = wr) (fun _ _ _ _ => 0)
  case atStart => exact ⟨rfl, rfl, rfl⟩
  case round =>
  obtain ⟨rfl, rfl, rfl⟩ := hrel
  go_wp2
  go_loopw [3, 6, 7] (fun okv i _ wr => ∃ (c : Nat), c ≤ m ∧ i = .int .i64 c ∧ okv = .bool true ∧ BoxN wr p (.slice oa m cap) (.slice ob m cb) ∧ Fam wr tag 2 cL (.slice oa m cap) m vs (rowsN rows c 0) ∧ Fam wr tag 3 (fun j => 11 + 2 * j) (.slice ob m cb) m us rows ∧ Sm (· ≠ 0) tag w wr) (fun _ i _ _ => ((m : Int) - intOf i).toNat)
  case atStart => exact ⟨0, Nat.zero_le _, rfl, rfl, hbx'.out, hlive0.out.congr (fun j _ => rowsN_zero rows j), hwant0.out, Sm.refl _ _ _⟩
  case round =>
    clear hbx' hlive0 hwant0
    obtain ⟨c, hc, rfl, rfl, hb, hL, hU, hS⟩ := hrel
    have d0 := hb.c2
    by_cases hlt : c < m
    · have d1 := hb.c3
      obtain ⟨g, cap2, e, _, _⟩ := hL.outer.form (by omega)
      obtain ⟨rfl, rfl⟩ : oa = some ⟨g, 0, none⟩ ∧ cap = cap2 := by injection e with h1 h2 h3; exact ⟨h1, h3⟩
      obtain ⟨g1, cap3, e1, _, _⟩ := hU.outer.form (by omega)
      obtain ⟨rfl, rfl⟩ : ob = some ⟨g1, 0, none⟩ ∧ cb = cap3 := by injection e1 with h1 h2 h3; exact ⟨h1, h3⟩
      obtain ⟨v, hv⟩ : ∃ v, vs[c]? = some v := ⟨_, List.getElem?_eq_getElem (by rw [hL.len]; exact hlt)⟩
      obtain ⟨u, hu⟩ : ∃ u, us[c]? = some u := ⟨_, List.getElem?_eq_getElem (by rw [hU.len]; exact hlt)⟩
      have hin := hL.inner c v hv
      have r1 := RowI.of_owns hin
      rw [rowsN_at] at r1
      have r2 := RowI.of_owns (hU.inner c u hu)
      have hnc := hrow'.out c hlt
      have cu : wr.cell? ⟨g1, c, none⟩ = some u := by rw [hU.outer.cellAt c (by omega)]; exact hu
      have cv : wr.cell? ⟨g, c, none⟩ = some v := by rw [hL.outer.cellAt c (by omega)]; exact hv
      rw [rowsN_len rows c 0 (Nat.zero_le _)] at hin
      have KI : Hid (∀ W, Below wr.heap.size wr W → Calls Tryd.prog 32 #[v, u] W fun e w' => e = .returned (.bool true) ∧ Below W.heap.size W w') := fun W hW => by
        have := keepRows (rows c) (rows c) v u W (r1.below hW (Nat.le_refl _)) (r2.below hW (Nat.le_refl _)) hnc hnc
        simpa using this
      obtain ⟨ox, cx, rfl⟩ := own_shape hin
      obtain ⟨nc, hnc'⟩ : ∃ nc, (rows c).length = nc := ⟨_, rfl⟩
      rw [hnc'] at hnc hin hv cv KI
      have hv' := hide' hv
      have hL' := hide' hL
      have hU' := hide' hU
      have hb' := hide' hb
      have hS' := hide' hS
      have hnE := hide' hnc'
      have hi0 : Hid (wr.drew.cell? ⟨p, 2, none⟩ = some (.slice (some ⟨g, 0, none⟩) m cap) ∧ wr.drew.cell? ⟨p, 3, none⟩ = some (.slice (some ⟨g1, 0, none⟩) m cb) ∧ wr.drew.cell? ⟨g, c, none⟩ = some (.slice ox nc cx) ∧ wr.drew.cell? ⟨g1, c, none⟩ = some u ∧ Below wr.heap.size wr wr.drew) := ⟨d0, d1, cv, cu, (Below.refl _ _).drew⟩
      clear hL hb hS hU e e1 hin hnc' hv hu r1 r2
      go_wp2
      go_region_held3 (fun V => V.cell? ⟨p, 2, none⟩ = some (.slice (some ⟨g, 0, none⟩) m cap) ∧ V.cell? ⟨p, 3, none⟩ = some (.slice (some ⟨g1, 0, none⟩) m cb) ∧ V.cell? ⟨g, c, none⟩ = some (.slice ox nc cx) ∧ V.cell? ⟨g1, c, none⟩ = some u ∧ Below wr.heap.size wr V) (first | (exact keep4 (by assumption) hb) | (exact keep4 hi0.out hb) | (exact hi0.out)) (first | (go_at_call 32; refine (KI.out _ (by first | exact ‹_ ∧ _ ∧ _ ∧ _ ∧ _›.2.2.2.2 | exact (Below.refl _ _).drew)).mono ?_; rintro e w7 ⟨rfl, hb⟩))
      all_goals
        have hB7 := ‹_ ∧ _ ∧ _ ∧ _ ∧ Below wr.heap.size wr w7›.2.2.2.2
        have hb7 := hide' (hb'.out.below hB7)
        have hL7 := hide' (hL'.out.mv (Sm.below (X := fun _ => False) hB7) (fun h => h) (fun _ _ h => h))
        have hU7 := hide' (hU'.out.mv (Sm.below (X := fun _ => False) hB7) (fun h => h) (fun _ _ h => h))
        have hS7 := hide' (hS'.out.trans (Sm.below (X := (· ≠ 0)) (tag := tag) hB7) (fun _ _ => rfl))
        have a0 := hb7.out.c2
        have av : w7.cell? ⟨g, c, none⟩ = some (.slice ox nc cx) := by rw [hL7.out.outer.cellAt c (by omega)]; exact hv'.out
        clear hb' hL' hU' hS' hB7 hi0 KI
        go_wp2
        go_loopw [7] (fun k wr2 => ∃ (f : Nat), f ≤ nc ∧ k = .int .i64 f ∧ BoxN wr2 p (.slice (some ⟨g, 0, none⟩) m cap) (.slice (some ⟨g1, 0, none⟩) m cb) ∧ Fam wr2 tag 2 cL (.slice (some ⟨g, 0, none⟩) m cap) m vs (rowsN rows c f) ∧ Fam wr2 tag 3 (fun j => 11 + 2 * j) (.slice (some ⟨g1, 0, none⟩) m cb) m us rows ∧ Sm (· ≠ 0) tag w wr2) (fun k _ => ((nc : Int) - intOf k).toNat)
        case atStart => exact ⟨0, Nat.zero_le _, rfl, hb7.out, hL7.out, hU7.out, hS7.out⟩
        case round =>
          clear hb7 hL7 hU7 hS7 a0 av d0 d1 cv cu
          obtain ⟨f, hf, rfl, hb, hL, hU, hS⟩ := hrel
          rename World => wr3
          have d0 := hb.c2
          have cv : wr3.cell? ⟨g, c, none⟩ = some (.slice ox nc cx) := by rw [hL.outer.cellAt c (by omega)]; exact hv'.out
          by_cases hflt : f < nc
          · have hin := hL.inner c _ hv'.out
            rw [rowsN_len rows c f (by rw [hnE.out]; omega), hnE.out] at hin
            obtain ⟨gx, cx2, e, _, _⟩ := hin.form (by omega)
            obtain ⟨rfl, rfl⟩ : ox = some ⟨gx, 0, none⟩ ∧ cx = cx2 := by injection e with h1 h2 h3; exact ⟨h1, h3⟩
            obtain ⟨z, hz⟩ : ∃ z, (rowsN rows c f c)[f]? = some z := ⟨_, List.getElem?_eq_getElem (by rw [rowsN_len rows c f (by rw [hnE.out]; omega), hnE.out]; exact hflt)⟩
            have cz := cell_in hin hz
            have fz := hin.frozenAt f
            have hL' := hide' hL
            have hU' := hide' hU
            have hb' := hide' hb
            have hS' := hide' hS
            have ht : Hid (tag gx = cL c) := hL.itag c _ gx hv'.out rfl
            clear hL hb hS hU e hin hz
            go_wp2
            have s1 : Sm (· = cL c) tag wr3 (wr3.setCell ⟨gx, f, none⟩ (.int .u64 99)) := Sm.setCell _ ht.out
            exact ⟨⟨f + 1, by omega, by go_num, hb'.out.mv s1 (by rw [hbt]; unfold cL; omega), hL'.out.store hv'.out (rowsN_set rows c f (by rw [hnE.out]; exact hflt)) (fun j _ hj => rowsN_ne rows c f j hj), hU'.out.mv s1 (by unfold cL; omega) (fun j _ => by unfold cL; omega), hS'.out.trans (s1.mono fun t et => by rw [et]; unfold cL; omega) (fun _ _ => rfl)⟩, by simp [intOf]; omega⟩
          · obtain rfl : f = nc := by omega
            have hL' := hide' hL
            have hU' := hide' hU
            have hb' := hide' hb
            have hS' := hide' hS
            clear hL hb hS hU
            go_wp2
            exact ⟨⟨c + 1, by omega, by go_num, rfl, hb'.out, hL'.out.congr (fun j _ => by rw [rowsN_next, hnE.out]), hU'.out, hS'.out⟩, by simp [intOf]; omega⟩
    · obtain rfl : m = c := by omega
      have hS' := hide' hS
      have d2 := hb.c2
      clear hb hL hU hS
      go_wp2
      go_ret
      exact ⟨rfl, hS'.out⟩
end Go.Proofs.YtmoiedlchcceaaaDoor.KU

/- The laws' own small functions: row, wakes, flaws. -/
import Derived.Test.YtfajgbdnfphajaaZpE
namespace Go.Proofs.Ytfajgbdnfphajaa.S
open Go.RowKit Go.Shelf
set_option maxRecDepth 100000 in
set_option maxHeartbeats 1000000 in
theorem row14S (l : List Int) (v : Value) (w : World) (hr : RowI w v l) :
    Calls Try.prog 13 #[v] w fun e w' => ∃ v', e = .returned v' ∧ w'.ownsRow w.heap.size 3 1 v' (l.take 30).length (cellsI (l.take 30)) ∧ Below w.heap.size w w' := by
  obtain ⟨oa, cap, rfl, hcap, hc⟩ := hr
  obtain ⟨i0, hi, hz0, hz1, hz2⟩ := info_parts info3
  have hc' := hide' hc
  clear hc
  go_enter Try.func13, Try.ntmps13
  by_cases hlong : 30 < l.length
  · obtain ⟨ad, rfl⟩ : ∃ ad, oa = some ad := by
      cases oa with
      | none => have := hcap.2 rfl; omega
      | some ad => exact ⟨ad, rfl⟩
    obtain ⟨g, o, e, _⟩ := hc'.out 0 l[0] (List.getElem?_eq_getElem (by omega))
    cases e
    have hcap1 := hcap.1
    have hnews : ∀ j u, (cellsI (l.take 30))[j]? = some u → w.cell? (Addr.add ⟨g, o, none⟩ j) = some u := fun j u hu => by
      obtain ⟨z, hz, rfl⟩ := cellsI_at hu
      obtain ⟨hj, _⟩ := List.getElem?_eq_some_iff.1 hz
      rw [List.length_take] at hj
      rw [List.getElem?_take_of_lt (by omega)] at hz
      obtain ⟨g', o', e, hcell⟩ := hc'.out j z hz
      cases e
      rw [Addr.add_lit]; exact hcell
    clear hcap
    go_wp2_with (at_builtin; refine wpList_append_own _ rfl _ _ 24 rfl w.heap.size 3 i0 (.int .i64 0) 1 8 Try.underlying24 hi hz0 hz1 hz2 rfl (by decide) _ 0 (cellsI []) rfl (owns_zero w _) ⟨g, o, none⟩ 30 cap (cellsI (l.take 30)) rfl (by simp [cellsI]; omega) (fun j u hu => cell_new (hnews j u hu)) (one_cells _) (by unfold maxLen; omega) (by omega) (by simp) ?_; intro v1 w1 hown1 hgrow1 hnil)
    go_ret
    have hown : w1.ownsRow w.heap.size 3 1 v1 (0 + 30) (cellsI (l.take 30)) := hown1
    rw [show 0 + 30 = (l.take 30).length by rw [List.length_take]; omega] at hown
    exact ⟨_, rfl, hown, ((Below.refl _ w).alloc (Nat.le_refl _) _).grown hgrow1 (by simp) (fun j ej => by cases ej; exact Nat.le_refl _)⟩
  · have hle : l.length ≤ 30 := by omega
    rw [List.take_of_length_le hle]
    cases oa with
    | none =>
      obtain ⟨h1, h2⟩ := hcap
      have := h2 rfl
      subst this
      have : l = [] := List.eq_nil_of_length_eq_zero (by omega)
      subst this
      go_wp2_with (at_builtin; refine wpList_append_own_none rfl _ _ 24 rfl w.heap.size 3 i0 1 Try.underlying24 hi _ 0 (cellsI []) rfl (owns_zero w _) rfl ?_)
      go_ret
      exact ⟨_, rfl, owns_zero w _, (Below.refl _ w).alloc (Nat.le_refl _) _⟩
    | some ad =>
      have hnews : ∀ j u, (cellsI l)[j]? = some u → w.cell? (ad.add j) = some u := fun j u hu => by
        obtain ⟨z, hz, rfl⟩ := cellsI_at hu
        obtain ⟨g, o, e, hcell⟩ := hc'.out j z hz
        cases e
        rw [Addr.add_lit]; exact hcell
      clear hcap
      go_wp2_with (at_builtin; refine wpList_append_own _ rfl _ _ 24 rfl w.heap.size 3 i0 (.int .i64 0) 1 8 Try.underlying24 hi hz0 hz1 hz2 rfl (by decide) _ 0 (cellsI []) rfl (owns_zero w _) ad l.length cap (cellsI l) rfl (by simp [cellsI]) (fun j u hu => cell_new (hnews j u hu)) (one_cells _) (by unfold maxLen; omega) (by omega) (by simp) ?_; intro v1 w1 hown1 hgrow1 hnil)
      go_ret
      have hown : w1.ownsRow w.heap.size 3 1 v1 (0 + l.length) (cellsI l) := hown1
      rw [Nat.zero_add] at hown
      exact ⟨_, rfl, hown, ((Below.refl _ w).alloc (Nat.le_refl _) _).grown hgrow1 (by simp) (fun j ej => by cases ej; exact Nat.le_refl _)⟩
theorem row14F (l : List Int) (v : Value) (w : World) (hr : RowI w v l) :
    Calls Try.prog 13 #[v] w fun e w' => ∃ v', e = .returned v' ∧ RowI w' v' (l.take 30) ∧ Below w.heap.size w w' :=
  (row14S l v w hr).mono fun _ _ ⟨v', h1, h2, h3⟩ => ⟨v', h1, RowI.of_owns h2, h3⟩
/-- What stands between wakes' calls. -/
structure W1 (w : World) (gp : Nat) (wv fv rv : Value) (V : World) : Prop where
  pv : PbV V wk1 wv fv rv
  pb : PbB V gp wk1 wv fv rv
  be : Below w.heap.size w V
theorem W1.over {w : World} {gp : Nat} {wv fv rv : Value} {V V' : World} (h : W1 w gp wv fv rv V) (hb : Below V.heap.size V V') : W1 w gp wv fv rv V' :=
  ⟨h.pv.below hb, h.pb.below hb, h.be.trans (hb.mono h.be.size)⟩
set_option maxRecDepth 100000 in
set_option maxHeartbeats 4000000 in
theorem wakes14 (w : World) : Calls Try.prog 10 #[] w fun e w' => e = .returned (.bool true) ∧ Below w.heap.size w w' := by
  obtain ⟨W, hW, hP, hB, hbW⟩ := wk1_mem w
  have hW' := hide' hW
  have hS : Hid (W1 w (w.heap.size + 1 + 1) (.slice (some ⟨w.heap.size, 0, none⟩) 1 1) (.slice (some ⟨w.heap.size + 1, 0, none⟩) 1 1) (.slice none 0 0) W) := ⟨hP, hB, hbW⟩
  have KW : Hid (∀ V lv, W1 w (w.heap.size + 1 + 1) (.slice (some ⟨w.heap.size, 0, none⟩) 1 1) (.slice (some ⟨w.heap.size + 1, 0, none⟩) 1 1) (.slice none 0 0) V → RowI V lv [0] → Calls Try.prog 12 #[.agg #[.int .i64 1, .slice (some ⟨w.heap.size, 0, none⟩) 1 1, .slice (some ⟨w.heap.size + 1, 0, none⟩) 1 1, .slice none 0 0], lv] V fun e w' => ∃ oa cap, e = .returned (.tuple #[.slice oa 15 cap, .int .i64 0]) ∧ Hid (RowB w' (.slice oa 15 cap) (wrL wk1 [0])) ∧ Hid (Below V.heap.size V w')) := fun V lv hV hl => by
    refine (writeF wk1 _ _ _ [0] lv V hV.pv hl (by decide) wk1_ok).mono ?_
    rintro e w' ⟨v, rfl, hO, hb⟩
    have hr := RowB.of_owns hO.out
    obtain ⟨oa, cap, e1, _⟩ := id hr
    rw [wk1_wr]
    subst e1
    rw [show (wrL wk1 [0]).length = 15 by rw [wk1_cert]; rfl] at hr ⊢
    exact ⟨oa, cap, rfl, hr, hb⟩
  have KF : Hid (∀ V lv, W1 w (w.heap.size + 1 + 1) (.slice (some ⟨w.heap.size, 0, none⟩) 1 1) (.slice (some ⟨w.heap.size + 1, 0, none⟩) 1 1) (.slice none 0 0) V → RowI V lv [1] → Calls Try.prog 17 #[.agg #[.int .i64 1, .slice (some ⟨w.heap.size, 0, none⟩) 1 1, .slice (some ⟨w.heap.size + 1, 0, none⟩) 1 1, .slice none 0 0], lv] V fun e w' => ∃ g o cap, e = .returned (.tuple #[.slice (some ⟨g, o, none⟩) 1 cap, .int .i64 0]) ∧ w'.cell? ⟨g, o, none⟩ = some (.int .i64 2) ∧ Hid (Below V.heap.size V w')) := fun V lv hV hl => by
    refine (flawsPF wk1 _ _ _ [1] lv V hV.pv hl (by decide) wk1_ok).mono ?_
    rintro e w' ⟨v, rfl, hO, hb⟩
    rw [wk1_chk]
    rw [wk1_fl] at hO
    obtain ⟨oa, cap, e1, hc⟩ := RowFl.of_owns hO.out
    obtain ⟨g, o, rfl, h1, _⟩ := hc 0 _ rfl
    subst e1
    exact ⟨g, o, cap, rfl, by simpa using h1, hb⟩
  clear hP hB hbW hW
  go_enter Try.func10, Try.ntmps10
  go_upto_region 2 with fail
  rw [← hW'.out]
  clear hW'
  have q0 := hS.out.pb.c0
  have q1 := hS.out.pb.c1
  have q2 := hS.out.pb.c2
  have q3 := hS.out.pb.c3
  unfold wk1 at q0
  have hS2 := hide' (hS.out.over ((Below.refl _ W).alloc (Nat.le_refl _) (.cells #[.int .i64 0] 3)))
  have hr2 := hide' (row_one W 0)
  go_wp2_with fail
  refine (KW.out _ _ hS2.out hr2.out).mono ?_
  rintro e w3 ⟨o3, c3, rfl, hR3, hb3⟩
  have hS3 := hide' (hS2.out.over hb3.out)
  clear hS2 hr2 hS q0 q1 q2 q3 KW hb3
  have q0 := hS3.out.pb.c0
  have q1 := hS3.out.pb.c1
  have q2 := hS3.out.pb.c2
  have q3 := hS3.out.pb.c3
  unfold wk1 at q0
  have hS4 := hide' (hS3.out.over ((Below.refl _ w3).alloc (Nat.le_refl _) (.cells #[.int .i64 1] 3)))
  have hR4 := hide' (hR3.out.below ((Below.refl _ w3).alloc (Nat.le_refl _) (.cells #[.int .i64 1] 3)) (Nat.le_refl _))
  have hr4 := hide' (row_one w3 1)
  go_wp2_with fail
  refine (KF.out _ _ hS4.out hr4.out).mono ?_
  rintro e w5 ⟨g5, o5, c5, rfl, hc5, hb5⟩
  have hS5 := hide' (hS4.out.over hb5.out)
  have hcv := conv_bytes (hR4.out.below hb5.out (Nat.le_refl _))
  rw [wk1_str] at hcv
  clear hS4 hS3 hR3 hR4 hr4 q0 q1 q2 q3 KF hb5
  go_wp2
  go_ret
  exact ⟨rfl, hS5.out.be⟩
end Go.Proofs.Ytfajgbdnfphajaa.S

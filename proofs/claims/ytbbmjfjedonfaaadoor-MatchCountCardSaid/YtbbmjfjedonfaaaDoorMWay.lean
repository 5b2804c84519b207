/- way: from a row to a place, from the row that has it to another, till a place that nobody has. -/
import Derived.Test.YtbbmjfjedonfaaaDoorMFn
import Derived.Deep.CutRange
import Derived.Deep.CutBlock
import Derived.Deep.DeepCutAuto
namespace Go.Proofs.YtbbmjfjedonfaaaDoor.M
open Go.RowKit Go.Shelf
/-- Where the next place stands. -/
def pos : List (Fin 64) → Nat
  | [] => 64
  | k :: _ => k.val
theorem gap0 (x : Nat) (hb : ∀ v, x.testBit v = true → v < 64) : ∀ v, 0 ≤ v → v < pos (nums x) → x.testBit v = false := fun v _ hv => by
  cases e : x.testBit v
  · rfl
  · have hm := (mem_nums x ⟨v, hb v e⟩).2 e
    have hs := sorted_nums x
    cases hn : nums x with
    | nil => rw [hn] at hm; cases hm
    | cons k l =>
      rw [hn] at hm hv hs
      simp only [pos] at hv
      rcases List.mem_cons.1 hm with h | h
      · subst h; simp at hv
      · have := (List.pairwise_cons.1 hs).1 _ h
        have : k.val < v := this
        omega
theorem gapL {x : Nat} {pre rest : List (Fin 64)} {k : Fin 64} (hb : ∀ v, x.testBit v = true → v < 64) (h : nums x = pre ++ k :: rest) : ∀ v, k.val + 1 ≤ v → v < pos rest → x.testBit v = false := fun v h1 h2 => by
  cases e : x.testBit v
  · rfl
  · have hm := (mem_nums x ⟨v, hb v e⟩).2 e
    have hs := sorted_nums x
    rw [h] at hm hs
    rcases List.mem_append.1 hm with hp | hp
    · have : (⟨v, hb v e⟩ : Fin 64) < k := (List.pairwise_append.1 hs).2.2 _ hp k (List.mem_cons_self ..)
      have : v < k.val := this
      omega
    · rcases List.mem_cons.1 hp with hq | hq
      · have : v = k.val := congrArg Fin.val hq
        omega
      · cases rest with
        | nil => cases hq
        | cons j l =>
          simp only [pos] at h2
          rcases List.mem_cons.1 hq with hr | hr
          · have : v = j.val := congrArg Fin.val hr
            omega
          · have hs2 := (List.pairwise_cons.1 (List.pairwise_cons.1 (List.pairwise_append.1 hs).2.1).2).1 _ hr
            have : j.val < v := hs2
            omega
/-- What stands in the round of way. -/
structure WaI (W : World) (gm gk b0 : Nat) (rv : Value) (n : Nat) (R : Nat → Nat) (ow : Nat → Option Nat) (pl : Nat → Nat) (K : Nat → Bool) (D : Nat → Prop) (i : Nat) (rest : List (Fin 64)) (K1 : Nat → Bool) (wr : World) : Prop where
  mat : MAt wr gm rv pl ow
  mks : KAt wr gk K1
  fr : Fr2 W wr gm gk
  box : wr.cell? ⟨b0, 0, none⟩ = some (.int .u64 (R i : Int))
  now : NoW R (Ow ow D) K K1 i (pos rest)
set_option maxRecDepth 100000 in
set_option maxHeartbeats 2000000 in
theorem wayF (m : Nat) : ∀ (W : World) (gm gk : Nat) (rv : Value) (n : Nat) (R : Nat → Nat) (ow : Nat → Option Nat) (pl : Nat → Nat) (K : Nat → Bool) (E D : Nat → Prop) (i : Nat), unm K < m → Cxt W gm gk rv n R → MAt W gm rv pl ow → KAt W gk K → Wst n R ow pl E D → (∀ u, D u → K u = true) → i < n → ¬ E i →
    Calls Tryd.prog 34 #[.pointer (some ⟨gm, 0, none⟩), .int .i64 (i : Int), .pointer (some ⟨gk, 0, none⟩)] W (WayP W gm gk rv n R ow pl K E D i) := by
  induction m with
  | zero => exact fun _ _ _ _ _ _ _ _ _ _ _ _ h => absurd h (Nat.not_lt_zero _)
  | succ m ih =>
  intro W gm gk rv n R ow pl K E D i hm hC hM hK hS hD hi hiE
  obtain ⟨oa, cap, rfl, hrw⟩ := hC.rw
  obtain ⟨g, o, rfl, hg1, hg2, hcr⟩ := hrw i hi
  have c0 := hM.cell0
  have hx := hC.word i
  have hgm := hM.lt
  have hgk := hK.lt
  have hn12 := hC.few
  have hbt := hide' hC.bit
  have hC' := hide' hC
  have hS' := hide' hS
  have hD' := hide' hD
  have hM' := hide' hM
  have hK' := hide' hK
  have hm' := hide' hm
  have hiE' := hide' hiE
  have ih' := hide' ih
  have hin : (i : Int) < (n : Int) := by omega
  clear hC hS hD hM hK hrw hm hiE ih
  go_enter Tryd.func34, Tryd.ntmps34
  go_wp2_with (first | (go_at_call 22; refine (ofC _ _).mono ?_; rintro e w1 ⟨rfl, hb1⟩))
  have hB2 : Below W.heap.size W (w1.alloc (.cells #[.int .u64 (R i : Int)] 36)) := hb1.alloc hb1.size _
  have hbx : (w1.alloc (.cells #[.int .u64 (R i : Int)] 36)).cell? ⟨w1.heap.size, 0, none⟩ = some (.int .u64 (R i : Int)) := by simp
  have hsz : W.heap.size ≤ w1.heap.size := hb1.size
  refine (low64 (R i) hx _ (hC'.out.tab.over hB2)).mono ?_
  rintro e w2 ⟨rfl, hb2⟩
  have hI0 : Hid (WaI W gm gk w1.heap.size (.slice (some ⟨g, o, none⟩) n cap) n R ow pl K D i (nums (R i)) K w2) := by
    have hB := hB2.trans (hb2.mono (by have := hB2.size; omega))
    exact ⟨hM'.out.below hB, hK'.out.below hB, Fr2.below hB, cell_over hbx hb2, (NoW.start K).gap (gap0 _ (hbt.out i))⟩
  clear hb2 hB2 hbx hb1 c0 hcr
  go_wp2
  go_loopw [8] (fun p wr => ∃ (pre rest : List (Fin 64)) (z : Int) (K1 : Nat → Bool), p = .int .i64 z ∧ Hid (z = lowI rest) ∧ Hid (nums (R i) = pre ++ rest) ∧ Hid (WaI W gm gk w1.heap.size (.slice (some ⟨g, o, none⟩) n cap) n R ow pl K D i rest K1 wr)) (fun p _ => leftI p)
  case atStart => exact ⟨[], nums (R i), _, K, rfl, rfl, rfl, hI0⟩
  case round =>
    clear hI0
    obtain ⟨pre, rest, z, K1, rfl, hz, hp, hI⟩ := hrel
    cases rest with
    | nil =>
      have e1 : z < 0 := by rw [hz.out]; decide
      go_wp2
      go_ret
      exact ⟨hI.out.fr, .inr ⟨rfl, K1, hI.out.mat, hI.out.mks, hI.out.now⟩⟩
    | cons k rest =>
      obtain ⟨u, hu⟩ : ∃ u, u = k.val := ⟨_, rfl⟩
      have hu64 : u < 64 := by omega
      obtain rfl : z = (u : Int) := by rw [hz.out, hu]; rfl
      have e2 : (u : Int) < 64 := by omega
      have hu' := hide' hu
      clear hu
      have ck := hI.out.mks.cell hu64
      have fk := hI.out.mks.frz u
      have hNx : Hid (∀ V K2, WaI W gm gk w1.heap.size (.slice (some ⟨g, o, none⟩) n cap) n R ow pl K D i rest K2 V → Calls Tryd.prog 44 #[.agg #[.int .u64 (R i : Int)], .int .i64 ((u : Int) + 1)] V fun e w' => e = .returned (.int .i64 (lowI rest)) ∧ Hid (WaI W gm gk w1.heap.size (.slice (some ⟨g, o, none⟩) n cap) n R ow pl K D i rest K2 w')) := fun V K2 hV => by
        refine (next64 (R i) hx _ _ (hC'.out.fr hV.fr).tab).mono ?_
        rintro e w' ⟨rfl, hb⟩
        refine ⟨by rw [hu'.out, from_snoc (j := k) (sorted_nums (R i)) hp.out], hV.mat.below hb, hV.mks.below hb, hV.fr.trans (Fr2.below hb), cell_over hV.box hb, hV.now⟩
      have hwr : IntKind.i64.wrap ((u : Int) + 1) = (u : Int) + 1 := by simp only [IntKind.wrap, IntKind.bits, IntKind.signed]; simp; omega
      have hend : Hid (∀ V z2, z2 = lowI rest → ∀ K2, WaI W gm gk w1.heap.size (.slice (some ⟨g, o, none⟩) n cap) n R ow pl K D i rest K2 V → (∃ (pre rest : List (Fin 64)) (z : Int) (K1 : Nat → Bool), Value.int .i64 z2 = .int .i64 z ∧ Hid (z = lowI rest) ∧ Hid (nums (R i) = pre ++ rest) ∧ Hid (WaI W gm gk w1.heap.size (.slice (some ⟨g, o, none⟩) n cap) n R ow pl K D i rest K1 V)) ∧ leftI (.int .i64 z2) < leftI (.int .i64 (u : Int))) := fun V z2 e K2 hV => by
        subst e
        refine ⟨⟨pre ++ [k], rest, _, K2, rfl, rfl, by show nums (R i) = _; rw [hp.out]; simp, hV⟩, ?_⟩
        rw [hu'.out]
        exact leftI_lt (sorted_nums (R i)) hp.out
      by_cases hk1 : K1 u = true
      · rw [hk1] at ck
        have hI2 : Hid (WaI W gm gk w1.heap.size (.slice (some ⟨g, o, none⟩) n cap) n R ow pl K D i rest K1 wr) := by
          obtain ⟨a, b, c, d, f⟩ := hI.out
          exact ⟨a, b, c, d, by have := f.skip (u := u) (fun v h1 h2 => by simp only [pos, ← hu'.out] at h1; omega) hk1; exact this.gap (by rw [hu'.out]; exact gapL (hbt.out i) hp.out)⟩
        have cb := hI.out.box
        clear hI
        go_wp2_with fail
        refine (hNx.out _ _ hI2.out).mono ?_
        rintro e w3 ⟨rfl, hI3⟩
        go_wp2
        exact hend.out _ _ rfl _ hI3.out
      · have hk0 : K1 u = false := by simpa using hk1
        rw [hk0] at ck
        have hDu : ¬ D u := fun h => hk1 (hI.out.now.grow u (hD'.out u h))
        have hbu : (R i).testBit u = true := by
          have : k ∈ nums (R i) := by rw [hp.out]; simp
          rw [hu'.out]; exact (mem_nums _ _).1 this
        have hne := hC'.out.nek
        go_upto_region 7 with fail
        have hMm : Hid (MAt (wr.setCell ⟨gk, u, none⟩ (.bool true)) gm (.slice (some ⟨g, o, none⟩) n cap) pl ow) := hI.out.mat.setOther hne _
        have hKm : Hid (KAt (wr.setCell ⟨gk, u, none⟩ (.bool true)) gk (upd K1 u true)) := hI.out.mks.set u true
        have hFm : Hid (Fr2 W (wr.setCell ⟨gk, u, none⟩ (.bool true)) gm gk) := hI.out.fr.trans (Fr2.setB ..)
        have hbm : Hid ((wr.setCell ⟨gk, u, none⟩ (.bool true)).cell? ⟨w1.heap.size, 0, none⟩ = some (.int .u64 (R i : Int))) := by
          rw [← hI.out.box]
          have := Below.heap_setCell wr ⟨gk, u, none⟩ (.bool true) w1.heap.size (by show w1.heap.size ≠ gk; omega)
          show _ = _
          simp only [World.cell?, this]
        generalize wr.setCell ⟨gk, u, none⟩ (.bool true) = wm at *
        have co := hMm.out.cellO hu64
        have fo := hMm.out.frz (13 + u)
        have fp := hMm.out.frz (1 + i)
        clear ck fk
        have hi12 : (i : Int) < 12 := by omega
        cases hw : ow u with
        | none =>
          rw [hw, show owZ none = -1 from rfl] at co
          have cp := hMm.out.cellP (r := i) (by omega)
          have hend2 : Hid (WayP W gm gk (.slice (some ⟨g, o, none⟩) n cap) n R ow pl K E D i (.returned (.bool true)) ((wm.setCell ⟨gm, 13 + u, none⟩ (.int .i64 (i : Int))).setCell ⟨gm, 1 + i, none⟩ (.int .i64 (u : Int))).drew) := by
            have hA := hMm.out.setO u (some i)
            have hB := hA.setP (r := i) (by omega) u
            have hF := (hFm.out.trans (Fr2.setA wm gm gk (13 + u) (.int .i64 (i : Int)))).trans (Fr2.setA _ gm gk (1 + i) (.int .i64 (u : Int)))
            refine ⟨⟨hF.os, hF.tape, hF.output, hF.size, hF.block⟩, .inl ⟨rfl, _, _, _, hB, (hKm.out.setOther hne.symm _).setOther hne.symm _, hS'.out.take hi hiE'.out hu64 hDu hbu hw, fun v hv => ?_, fun v hv => ?_⟩⟩
            · by_cases e : v = u
              · subst e
                exact absurd (hI.out.now.grow v hv) hk1
              · rw [upd_ne _ _ e]
            · by_cases e : v = u
              · subst e; exact upd_same ..
              · rw [upd_ne _ _ e]; exact hI.out.now.grow v hv
          have fp2 : ∀ x, (wm.drew.setCell ⟨gm, 13 + u, none⟩ x).frozen? ⟨gm, 1 + i, none⟩ = false := fun x => by rw [show wm.drew.setCell ⟨gm, 13 + u, none⟩ x = (wm.setCell ⟨gm, 13 + u, none⟩ x).drew from rfl]; exact (World.rowIs.set hMm.out (13 + u) x).frozen _
          clear hI hNx hend ih' hC' hMm hKm hFm hbm
          go_wp2
          go_region
          go_wp2
          go_ret
          exact hend2.out
        | some r =>
          rw [hw, show owZ (some r) = (r : Int) from rfl] at co
          have hrn : ((r : Int) == -1) = false := by simp <;> omega
          have hOw : Ow ow D u r := ⟨hDu, hw⟩
          obtain ⟨_, hr1, hr2, hr3, hr4⟩ := hS'.out.own u r hDu hw
          have hKr := hide' (ih'.out wm gm gk (.slice (some ⟨g, o, none⟩) n cap) n R ow pl (upd K1 u true) (fun s => E s ∧ s ≠ r) (fun v => D v ∨ v = u) r (Nat.lt_of_lt_of_le (unm_lt hu64 hk0) (by have := hm'.out; have := unm_grow hI.out.now.grow; omega)) (hC'.out.fr hFm.out) hMm.out hKm.out (hS'.out.leave hDu hw) (fun v hv => by
            by_cases e : v = u
            · subst e; exact upd_same ..
            · rw [upd_ne _ _ e]; exact hI.out.now.grow v (hD'.out v (hv.resolve_right e))) hr1 (fun x => x.2 rfl))
          clear hMm hKm
          go_wp2_with fail
          refine hKr.out.mono ?_
          rintro e w3 ⟨hF3, (⟨rfl, ow', pl', K', hM3, hK3, hW3⟩ | ⟨rfl, K', hM3, hK3, hN3⟩)⟩
          · have cp := hM3.cellP (r := i) (by omega)
            have co3 := hM3.cellO hu64
            have fo3 := hM3.frz (13 + u)
            have fp4 := hM3.frz (1 + i)
            have fp3 : ∀ x, (w3.drew.setCell ⟨gm, 13 + u, none⟩ x).frozen? ⟨gm, 1 + i, none⟩ = false := fun x => by rw [show w3.drew.setCell ⟨gm, 13 + u, none⟩ x = (w3.setCell ⟨gm, 13 + u, none⟩ x).drew from rfl]; exact (World.rowIs.set hM3 (13 + u) x).frozen _
            have hend2 : Hid (WayP W gm gk (.slice (some ⟨g, o, none⟩) n cap) n R ow pl K E D i (.returned (.bool true)) ((w3.setCell ⟨gm, 13 + u, none⟩ (.int .i64 (i : Int))).setCell ⟨gm, 1 + i, none⟩ (.int .i64 (u : Int))).drew) := by
              have hA := hM3.setO u (some i)
              have hB := hA.setP (r := i) (by omega) u
              have hF := ((hFm.out.trans hF3).trans (Fr2.setA w3 gm gk (13 + u) (.int .i64 (i : Int)))).trans (Fr2.setA _ gm gk (1 + i) (.int .i64 (u : Int)))
              refine ⟨⟨hF.os, hF.tape, hF.output, hF.size, hF.block⟩, .inl ⟨rfl, _, _, _, hB, (hK3.setOther hne.symm _).setOther hne.symm _, Wst.moved hW3.st hr2 hi hiE'.out hu64 hDu hbu, fun v hv => ?_, fun v hv => ?_⟩⟩
              · by_cases e : v = u
                · subst e
                  exact absurd (hI.out.now.grow v hv) hk1
                · rw [upd_ne _ _ e]
                  exact hW3.keep v (by rw [upd_ne _ _ e]; exact hI.out.now.grow v hv)
              · refine hW3.grow v ?_
                by_cases e : v = u
                · subst e; exact upd_same ..
                · rw [upd_ne _ _ e]; exact hI.out.now.grow v hv
            clear hI hNx hend ih' hC' hFm hbm hKr hM3 hK3 hW3 hF3 hOw
            go_wp2
            go_region
            go_wp2
            go_ret
            exact hend2.out
          · have hI2 : Hid (WaI W gm gk w1.heap.size (.slice (some ⟨g, o, none⟩) n cap) n R ow pl K D i rest K' w3) := by
              refine ⟨hM3, hK3, hFm.out.trans hF3, ?_, ?_⟩
              · rw [← hbm.out]
                have := hF3.block w1.heap.size (cell_lt hbm.out) (by omega) (by omega)
                simp only [World.cell?, this]
              · have h := hI.out.now.step (u := u) (r := r) (K2 := K') (O' := Ow ow (fun v => D v ∨ v = u)) (fun v h1 h2 => by simp only [pos, ← hu'.out] at h1; omega) hbt.out hOw hN3 (fun v s hv => ⟨fun x => hv.1 (.inl x), hv.2⟩)
                exact h.gap (by rw [hu'.out]; exact gapL (hbt.out i) hp.out)
            have cb := hI2.out.box
            clear hI hM3 hK3 hN3 hF3 hFm hbm hKr
            go_wp2_with fail
            refine (hNx.out _ _ hI2.out).mono ?_
            rintro e w4 ⟨rfl, hI3⟩
            go_wp2
            exact hend.out _ _ rfl _ hI3.out
end Go.Proofs.YtbbmjfjedonfaaaDoor.M

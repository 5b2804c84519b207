/- move: a row of a full matching goes to another place, if it can. -/
import Derived.Test.YtlijlelejobchaaGreatDoorJ03
import Derived.Test.YtlijlelejobchaaGreatDoorJ07
import Derived.Deep.CutRange
import Derived.Deep.CutBlock
import Derived.Deep.DeepCutAuto
namespace Go.Proofs.YtlijlelejobchaaGreatDoor.M
open Go.RowKit Go.Shelf
/-- Where the next place stands. -/
def pos : List (Fin 64) → Nat
  | [] => 64
  | k :: _ => k.val
theorem gap0 (x : Nat) (hb : ∀ v, x.testBit v = true → v < 64) : ∀ v, 0 ≤ v → v < pos (nums x) → x.testBit v = false := fun v _ hv => by
  cases e : x.testBit v
  · rfl
  · have hm := (mem_nums x ⟨v, hb v e⟩).2 e
    have hs := sorted_nums x
    cases hn : nums x with
    | nil => rw [hn] at hm; cases hm
    | cons k l =>
      rw [hn] at hm hv hs
      simp only [pos] at hv
      rcases List.mem_cons.1 hm with h | h
      · subst h; simp at hv
      · have := (List.pairwise_cons.1 hs).1 _ h
        have : k.val < v := this
        omega
theorem gapL {x : Nat} {pre rest : List (Fin 64)} {k : Fin 64} (hb : ∀ v, x.testBit v = true → v < 64) (h : nums x = pre ++ k :: rest) : ∀ v, k.val + 1 ≤ v → v < pos rest → x.testBit v = false := fun v h1 h2 => by
  cases e : x.testBit v
  · rfl
  · have hm := (mem_nums x ⟨v, hb v e⟩).2 e
    have hs := sorted_nums x
    rw [h] at hm hs
    rcases List.mem_append.1 hm with hp | hp
    · have : (⟨v, hb v e⟩ : Fin 64) < k := (List.pairwise_append.1 hs).2.2 _ hp k (List.mem_cons_self ..)
      have : v < k.val := this
      omega
    · rcases List.mem_cons.1 hp with hq | hq
      · have : v = k.val := congrArg Fin.val hq
        omega
      · cases rest with
        | nil => cases hq
        | cons j l =>
          simp only [pos] at h2
          rcases List.mem_cons.1 hq with hr | hr
          · have : v = j.val := congrArg Fin.val hr
            omega
          · have hs2 := (List.pairwise_cons.1 (List.pairwise_cons.1 (List.pairwise_append.1 hs).2.1).2).1 _ hr
            have : j.val < v := hs2
            omega
/-- What stands in the round of way. -/
structure WaI (W : World) (gm gk b0 : Nat) (rv : Value) (n : Nat) (R : Nat → Nat) (ow : Nat → Option Nat) (pl : Nat → Nat) (K : Nat → Bool) (D : Nat → Prop) (i : Nat) (rest : List (Fin 64)) (K1 : Nat → Bool) (wr : World) : Prop where
  mat : MAt wr gm rv pl ow
  mks : KAt wr gk K1
  fr : Fr2 W wr gm gk
  box : wr.cell? ⟨b0, 0, none⟩ = some (.int .u64 (R i : Int))
  now : NoW R (Ow ow D) K K1 i (pos rest)
set_option maxRecDepth 100000 in
set_option maxHeartbeats 2000000 in
theorem wayF (m : Nat) : ∀ (W : World) (gm gk : Nat) (rv : Value) (n : Nat) (R : Nat → Nat) (ow : Nat → Option Nat) (pl : Nat → Nat) (K : Nat → Bool) (E D : Nat → Prop) (i : Nat), unm K < m → Cxt W gm gk rv n R → MAt W gm rv pl ow → KAt W gk K → Wst n R ow pl E D → (∀ u, D u → K u = true) → i < n → ¬ E i →
    Calls Tryz.prog 107 #[.pointer (some ⟨gm, 0, none⟩), .int .i64 (i : Int), .pointer (some ⟨gk, 0, none⟩)] W (WayP W gm gk rv n R ow pl K E D i) := by
  induction m with
  | zero => exact fun _ _ _ _ _ _ _ _ _ _ _ _ h => absurd h (Nat.not_lt_zero _)
  | succ m ih =>
  intro W gm gk rv n R ow pl K E D i hm hC hM hK hS hD hi hiE
  obtain ⟨oa, cap, rfl, hrw⟩ := hC.rw
  obtain ⟨g, o, rfl, hg1, hg2, hcr⟩ := hrw i hi
  have c0 := hM.cell0
  have hx := hC.word i
  have hgm := hM.lt
  have hgk := hK.lt
  have hn12 := hC.few
  have hbt := hide' hC.bit
  have hC' := hide' hC
  have hS' := hide' hS
  have hD' := hide' hD
  have hM' := hide' hM
  have hK' := hide' hK
  have hm' := hide' hm
  have hiE' := hide' hiE
  have ih' := hide' ih
  have hin : (i : Int) < (n : Int) := by omega
  clear hC hS hD hM hK hrw hm hiE ih
  go_enter Tryz.func107, Tryz.ntmps107
  go_wp2_with (first | (go_at_call 100; refine (ofC _ _).mono ?_; rintro e w1 ⟨rfl, hb1⟩))
  have hB2 : Below W.heap.size W (w1.alloc (.cells #[.int .u64 (R i : Int)] 142)) := hb1.alloc hb1.size _
  have hbx : (w1.alloc (.cells #[.int .u64 (R i : Int)] 142)).cell? ⟨w1.heap.size, 0, none⟩ = some (.int .u64 (R i : Int)) := by simp
  have hsz : W.heap.size ≤ w1.heap.size := hb1.size
  refine (low64 (R i) hx _ (hC'.out.tab.over hB2)).mono ?_
  rintro e w2 ⟨rfl, hb2⟩
  have hI0 : Hid (WaI W gm gk w1.heap.size (.slice (some ⟨g, o, none⟩) n cap) n R ow pl K D i (nums (R i)) K w2) := by
    have hB := hB2.trans (hb2.mono (by have := hB2.size; omega))
    exact ⟨hM'.out.below hB, hK'.out.below hB, Fr2.below hB, cell_over hbx hb2, (NoW.start K).gap (gap0 _ (hbt.out i))⟩
  clear hb2 hB2 hbx hb1 c0 hcr
  go_wp2
  go_loopw [8] (fun p wr => ∃ (pre rest : List (Fin 64)) (z : Int) (K1 : Nat → Bool), p = .int .i64 z ∧ Hid (z = lowI rest) ∧ Hid (nums (R i) = pre ++ rest) ∧ Hid (WaI W gm gk w1.heap.size (.slice (some ⟨g, o, none⟩) n cap) n R ow pl K D i rest K1 wr)) (fun p _ => leftI p)
  case atStart => exact ⟨[], nums (R i), _, K, rfl, rfl, rfl, hI0⟩
  case round =>
    clear hI0
    obtain ⟨pre, rest, z, K1, rfl, hz, hp, hI⟩ := hrel
    cases rest with
    | nil =>
      have e1 : z < 0 := by rw [hz.out]; decide
      go_wp2
      go_ret
      exact ⟨hI.out.fr, .inr ⟨rfl, K1, hI.out.mat, hI.out.mks, hI.out.now⟩⟩
    | cons k rest =>
      obtain ⟨u, hu⟩ : ∃ u, u = k.val := ⟨_, rfl⟩
      have hu64 : u < 64 := by omega
      obtain rfl : z = (u : Int) := by rw [hz.out, hu]; rfl
      have e2 : (u : Int) < 64 := by omega
      have hu' := hide' hu
      clear hu
      have ck := hI.out.mks.cell hu64
      have fk := hI.out.mks.frz u
      have hNx : Hid (∀ V K2, WaI W gm gk w1.heap.size (.slice (some ⟨g, o, none⟩) n cap) n R ow pl K D i rest K2 V → Calls Tryz.prog 111 #[.agg #[.int .u64 (R i : Int)], .int .i64 ((u : Int) + 1)] V fun e w' => e = .returned (.int .i64 (lowI rest)) ∧ Hid (WaI W gm gk w1.heap.size (.slice (some ⟨g, o, none⟩) n cap) n R ow pl K D i rest K2 w')) := fun V K2 hV => by
        refine (next64 (R i) hx _ _ (hC'.out.fr hV.fr).tab).mono ?_
        rintro e w' ⟨rfl, hb⟩
        refine ⟨by rw [hu'.out, from_snoc (j := k) (sorted_nums (R i)) hp.out], hV.mat.below hb, hV.mks.below hb, hV.fr.trans (Fr2.below hb), cell_over hV.box hb, hV.now⟩
      have hwr : IntKind.i64.wrap ((u : Int) + 1) = (u : Int) + 1 := by simp only [IntKind.wrap, IntKind.bits, IntKind.signed]; simp; omega
      have hend : Hid (∀ V z2, z2 = lowI rest → ∀ K2, WaI W gm gk w1.heap.size (.slice (some ⟨g, o, none⟩) n cap) n R ow pl K D i rest K2 V → (∃ (pre rest : List (Fin 64)) (z : Int) (K1 : Nat → Bool), Value.int .i64 z2 = .int .i64 z ∧ Hid (z = lowI rest) ∧ Hid (nums (R i) = pre ++ rest) ∧ Hid (WaI W gm gk w1.heap.size (.slice (some ⟨g, o, none⟩) n cap) n R ow pl K D i rest K1 V)) ∧ leftI (.int .i64 z2) < leftI (.int .i64 (u : Int))) := fun V z2 e K2 hV => by
        subst e
        refine ⟨⟨pre ++ [k], rest, _, K2, rfl, rfl, by show nums (R i) = _; rw [hp.out]; simp, hV⟩, ?_⟩
        rw [hu'.out]
        exact leftI_lt (sorted_nums (R i)) hp.out
      by_cases hk1 : K1 u = true
      · rw [hk1] at ck
        have hI2 : Hid (WaI W gm gk w1.heap.size (.slice (some ⟨g, o, none⟩) n cap) n R ow pl K D i rest K1 wr) := by
          obtain ⟨a, b, c, d, f⟩ := hI.out
          exact ⟨a, b, c, d, by have := f.skip (u := u) (fun v h1 h2 => by simp only [pos, ← hu'.out] at h1; omega) hk1; exact this.gap (by rw [hu'.out]; exact gapL (hbt.out i) hp.out)⟩
        have cb := hI.out.box
        clear hI
        go_wp2_with fail
        refine (hNx.out _ _ hI2.out).mono ?_
        rintro e w3 ⟨rfl, hI3⟩
        go_wp2
        exact hend.out _ _ rfl _ hI3.out
      · have hk0 : K1 u = false := by simpa using hk1
        rw [hk0] at ck
        have hDu : ¬ D u := fun h => hk1 (hI.out.now.grow u (hD'.out u h))
        have hbu : (R i).testBit u = true := by
          have : k ∈ nums (R i) := by rw [hp.out]; simp
          rw [hu'.out]; exact (mem_nums _ _).1 this
        have hne := hC'.out.nek
        go_upto_region 7 with fail
        have hMm : Hid (MAt (wr.setCell ⟨gk, u, none⟩ (.bool true)) gm (.slice (some ⟨g, o, none⟩) n cap) pl ow) := hI.out.mat.setOther hne _
        have hKm : Hid (KAt (wr.setCell ⟨gk, u, none⟩ (.bool true)) gk (upd K1 u true)) := hI.out.mks.set u true
        have hFm : Hid (Fr2 W (wr.setCell ⟨gk, u, none⟩ (.bool true)) gm gk) := hI.out.fr.trans (Fr2.setB ..)
        have hbm : Hid ((wr.setCell ⟨gk, u, none⟩ (.bool true)).cell? ⟨w1.heap.size, 0, none⟩ = some (.int .u64 (R i : Int))) := by
          rw [← hI.out.box]
          have := Below.heap_setCell wr ⟨gk, u, none⟩ (.bool true) w1.heap.size (by show w1.heap.size ≠ gk; omega)
          show _ = _
          simp only [World.cell?, this]
        generalize wr.setCell ⟨gk, u, none⟩ (.bool true) = wm at *
        have co := hMm.out.cellO hu64
        have fo := hMm.out.frz (13 + u)
        have fp := hMm.out.frz (1 + i)
        clear ck fk
        have hi12 : (i : Int) < 12 := by omega
        cases hw : ow u with
        | none =>
          rw [hw, show owZ none = -1 from rfl] at co
          have cp := hMm.out.cellP (r := i) (by omega)
          have hend2 : Hid (WayP W gm gk (.slice (some ⟨g, o, none⟩) n cap) n R ow pl K E D i (.returned (.bool true)) ((wm.setCell ⟨gm, 13 + u, none⟩ (.int .i64 (i : Int))).setCell ⟨gm, 1 + i, none⟩ (.int .i64 (u : Int))).drew) := by
            have hA := hMm.out.setO u (some i)
            have hB := hA.setP (r := i) (by omega) u
            have hF := (hFm.out.trans (Fr2.setA wm gm gk (13 + u) (.int .i64 (i : Int)))).trans (Fr2.setA _ gm gk (1 + i) (.int .i64 (u : Int)))
            refine ⟨⟨hF.os, hF.tape, hF.output, hF.size, hF.block⟩, .inl ⟨rfl, _, _, _, hB, (hKm.out.setOther hne.symm _).setOther hne.symm _, hS'.out.take hi hiE'.out hu64 hDu hbu hw, fun v hv => ?_, fun v hv => ?_⟩⟩
            · by_cases e : v = u
              · subst e
                exact absurd (hI.out.now.grow v hv) hk1
              · rw [upd_ne _ _ e]
            · by_cases e : v = u
              · subst e; exact upd_same ..
              · rw [upd_ne _ _ e]; exact hI.out.now.grow v hv
          have fp2 : ∀ x, (wm.drew.setCell ⟨gm, 13 + u, none⟩ x).frozen? ⟨gm, 1 + i, none⟩ = false := fun x => by rw [show wm.drew.setCell ⟨gm, 13 + u, none⟩ x = (wm.setCell ⟨gm, 13 + u, none⟩ x).drew from rfl]; exact (World.rowIs.set hMm.out (13 + u) x).frozen _
          clear hI hNx hend ih' hC' hMm hKm hFm hbm
          go_wp2
          go_region
          go_wp2
          go_ret
          exact hend2.out
        | some r =>
          rw [hw, show owZ (some r) = (r : Int) from rfl] at co
          have hrn : ((r : Int) == -1) = false := by simp <;> omega
          have hOw : Ow ow D u r := ⟨hDu, hw⟩
          obtain ⟨_, hr1, hr2, hr3, hr4⟩ := hS'.out.own u r hDu hw
          have hKr := hide' (ih'.out wm gm gk (.slice (some ⟨g, o, none⟩) n cap) n R ow pl (upd K1 u true) (fun s => E s ∧ s ≠ r) (fun v => D v ∨ v = u) r (Nat.lt_of_lt_of_le (unm_lt hu64 hk0) (by have := hm'.out; have := unm_grow hI.out.now.grow; omega)) (hC'.out.fr hFm.out) hMm.out hKm.out (hS'.out.leave hDu hw) (fun v hv => by
            by_cases e : v = u
            · subst e; exact upd_same ..
            · rw [upd_ne _ _ e]; exact hI.out.now.grow v (hD'.out v (hv.resolve_right e))) hr1 (fun x => x.2 rfl))
          clear hMm hKm
          go_wp2_with fail
          refine hKr.out.mono ?_
          rintro e w3 ⟨hF3, (⟨rfl, ow', pl', K', hM3, hK3, hW3⟩ | ⟨rfl, K', hM3, hK3, hN3⟩)⟩
          · have cp := hM3.cellP (r := i) (by omega)
            have co3 := hM3.cellO hu64
            have fo3 := hM3.frz (13 + u)
            have fp4 := hM3.frz (1 + i)
            have fp3 : ∀ x, (w3.drew.setCell ⟨gm, 13 + u, none⟩ x).frozen? ⟨gm, 1 + i, none⟩ = false := fun x => by rw [show w3.drew.setCell ⟨gm, 13 + u, none⟩ x = (w3.setCell ⟨gm, 13 + u, none⟩ x).drew from rfl]; exact (World.rowIs.set hM3 (13 + u) x).frozen _
            have hend2 : Hid (WayP W gm gk (.slice (some ⟨g, o, none⟩) n cap) n R ow pl K E D i (.returned (.bool true)) ((w3.setCell ⟨gm, 13 + u, none⟩ (.int .i64 (i : Int))).setCell ⟨gm, 1 + i, none⟩ (.int .i64 (u : Int))).drew) := by
              have hA := hM3.setO u (some i)
              have hB := hA.setP (r := i) (by omega) u
              have hF := ((hFm.out.trans hF3).trans (Fr2.setA w3 gm gk (13 + u) (.int .i64 (i : Int)))).trans (Fr2.setA _ gm gk (1 + i) (.int .i64 (u : Int)))
              refine ⟨⟨hF.os, hF.tape, hF.output, hF.size, hF.block⟩, .inl ⟨rfl, _, _, _, hB, (hK3.setOther hne.symm _).setOther hne.symm _, Wst.moved hW3.st hr2 hi hiE'.out hu64 hDu hbu, fun v hv => ?_, fun v hv => ?_⟩⟩
              · by_cases e : v = u
                · subst e
                  exact absurd (hI.out.now.grow v hv) hk1
                · rw [upd_ne _ _ e]
                  exact hW3.keep v (by rw [upd_ne _ _ e]; exact hI.out.now.grow v hv)
              · refine hW3.grow v ?_
                by_cases e : v = u
                · subst e; exact upd_same ..
                · rw [upd_ne _ _ e]; exact hI.out.now.grow v hv
            clear hI hNx hend ih' hC' hFm hbm hKr hM3 hK3 hW3 hF3 hOw
            go_wp2
            go_region
            go_wp2
            go_ret
            exact hend2.out
          · have hI2 : Hid (WaI W gm gk w1.heap.size (.slice (some ⟨g, o, none⟩) n cap) n R ow pl K D i rest K' w3) := by
              refine ⟨hM3, hK3, hFm.out.trans hF3, ?_, ?_⟩
              · rw [← hbm.out]
                have := hF3.block w1.heap.size (cell_lt hbm.out) (by omega) (by omega)
                simp only [World.cell?, this]
              · have h := hI.out.now.step (u := u) (r := r) (K2 := K') (O' := Ow ow (fun v => D v ∨ v = u)) (fun v h1 h2 => by simp only [pos, ← hu'.out] at h1; omega) hbt.out hOw hN3 (fun v s hv => ⟨fun x => hv.1 (.inl x), hv.2⟩)
                exact h.gap (by rw [hu'.out]; exact gapL (hbt.out i) hp.out)
            have cb := hI2.out.box
            clear hI hM3 hK3 hN3 hF3 hFm hbm hKr
            go_wp2_with fail
            refine (hNx.out _ _ hI2.out).mono ?_
            rintro e w4 ⟨rfl, hI3⟩
            go_wp2
            exact hend.out _ _ rfl _ hI3.out
end Go.Proofs.YtlijlelejobchaaGreatDoor.M
namespace Go.Proofs.YtlijlelejobchaaGreatDoor.M
open Go.RowKit Go.Shelf
/-- A new matching whose places are being told to be nobody's. -/
def eval0 (rv : Value) (c : Nat) : Nat → Value := fun i => if i = 0 then rv else if i < 13 then .int .i64 0 else if i < 13 + c then .int .i64 (-1) else .int .i64 0
theorem eval0_start (rv : Value) : ∀ i, i < 77 → (rv :: List.replicate 76 (Value.int .i64 0)).toArray[i]? = some (eval0 rv 0 i) := fun i hi => by
  unfold eval0
  cases i with
  | zero => rfl
  | succ i =>
    rw [if_neg (by omega)]
    simp only [List.getElem?_toArray, List.getElem?_cons_succ]
    rw [List.getElem?_replicate, if_pos (by omega)]
    split
    · rfl
    · first | rfl | (rw [if_neg (by omega)])
def zcM : Array Value := ((Value.slice none 0 0) :: List.replicate 76 (Value.int .i64 0)).toArray
theorem zcM_size : zcM.size = 77 := by kernel_rfl
theorem zcM_ne : ¬ zcM = #[] := fun e => by have := congrArg Array.size e; rw [zcM_size] at this; cases this
theorem zeroM (w : World) : (zeroValue 128).run Tryz.prog w = .ok (.agg zcM) w := by kernel_rfl
set_option maxRecDepth 100000 in
set_option maxHeartbeats 1000000 in
theorem emptyF (oa : Option Addr) (n cap : Nat) (w : World) : Calls Tryz.prog 98 #[.slice oa n cap] w fun e w' => ∃ gm, e = .returned (.pointer (some ⟨gm, 0, none⟩)) ∧ w.heap.size ≤ gm ∧ Hid (MAt w' gm (.slice oa n cap) (fun _ => 0) (fun _ => none)) ∧ Below w.heap.size w w' := by
  have z0 := zeroM
  have z1 := zcM_size
  have z2 := zcM_ne
  go_enter Tryz.func98, Tryz.ntmps98
  go_wp2
  go_loopw [8] (fun p wr => ∃ c : Nat, c ≤ 64 ∧ p = .int .i64 (c : Int) ∧ Hid (wr.rowIs w.heap.size 128 77 (eval0 (.slice oa n cap) c)) ∧ Below w.heap.size w wr) (fun p _ => (64 - intOf p).toNat)
  case atStart => exact ⟨0, by omega, rfl, World.rowIs_alloc w ((Value.slice oa n cap) :: List.replicate 76 (Value.int .i64 0)).toArray _ _ (eval0_start _), (Below.refl _ _).alloc (Nat.le_refl _) _⟩
  case round =>
    obtain ⟨c, hc, rfl, hR, hB⟩ := hrel
    by_cases hlt : c < 64
    · have h1 := hR.out.cell (i := 13 + c) (by omega)
      have h2 := hR.out.frozen (13 + c)
      have hlt' : (c : Int) < 64 := by omega
      go_wp2
      refine ⟨⟨c + 1, by omega, by go_num, (hR.out.set (13 + c) _).congr fun i hi => ?_, hB.setCell (Nat.le_refl _) _⟩, by simp [intOf]; omega⟩
      unfold eval0
      by_cases e : i = 13 + c
      · subst e
        rw [if_pos rfl, if_neg (by omega), if_neg (by omega), if_pos (by omega)]
      · rw [if_neg e]
        by_cases e0 : i = 0
        · rw [if_pos e0, if_pos e0]
        · rw [if_neg e0, if_neg e0]
          by_cases e1 : i < 13
          · rw [if_pos e1, if_pos e1]
          · rw [if_neg e1, if_neg e1]
            by_cases e2 : i < 13 + c
            · rw [if_pos e2, if_pos (by omega)]
            · rw [if_neg e2, if_neg (by omega)]
    · obtain rfl : c = 64 := by omega
      go_wp2
      go_ret
      refine ⟨w.heap.size, rfl, Nat.le_refl _, hR.out.congr fun i hi => ?_, hB⟩
      unfold eval0 mval
      by_cases e0 : i = 0
      · rw [if_pos e0, if_pos e0]
      · rw [if_neg e0, if_neg e0]
        by_cases e1 : i < 13
        · rw [if_pos e1, if_pos e1]; rfl
        · rw [if_neg e1, if_neg e1, if_pos (by omega)]; rfl
theorem mks0 (W : World) : KAt (W.alloc (.cells (List.replicate 64 (Value.bool false)).toArray 123)) W.heap.size (fun _ => false) :=
  World.rowIs_alloc W (List.replicate 64 (Value.bool false)).toArray _ _ (fun i hi => by
    have hi : i < 64 := by simpa using hi
    simp only [List.getElem?_toArray]
    rw [List.getElem?_replicate, if_pos hi])
/-- The rows as they lie, apart from new memory. -/
structure RwA (W : World) (rv : Value) (n : Nat) (R : Nat → Nat) : Prop where
  rw : ∃ oa cap, rv = .slice oa n cap ∧ ∀ r, r < n → ∃ g o, oa = some ⟨g, o, none⟩ ∧ W.cell? ⟨g, o + r, none⟩ = some (.int .u64 (R r : Int))
  tab : Tab W
  word : ∀ r, R r < 18446744073709551616
theorem RwA.over {W W' : World} {rv : Value} {n : Nat} {R : Nat → Nat} (h : RwA W rv n R) (hb : Below W.heap.size W W') : RwA W' rv n R := by
  obtain ⟨oa, cap, e, hc⟩ := h.rw
  refine ⟨⟨oa, cap, e, fun r hr => ?_⟩, h.tab.over hb, h.word⟩
  obtain ⟨g, o, e1, hcell⟩ := hc r hr
  exact ⟨g, o, e1, cell_over hcell hb⟩
theorem RwA.bit {W : World} {rv : Value} {n : Nat} {R : Nat → Nat} (h : RwA W rv n R) : ∀ r v, (R r).testBit v = true → v < 64 := fun r v hb => by
  rcases Nat.lt_or_ge v 64 with e | e
  · exact e
  · have := Nat.testBit_lt_two_pow (x := R r) (i := v) (Nat.lt_of_lt_of_le (h.word r) (Nat.pow_le_pow_right (n := 2) (by decide) e))
    rw [this] at hb
    cases hb
theorem RwA.cxt {W W' : World} {rv : Value} {n : Nat} {R : Nat → Nat} (h : RwA W rv n R) (hb : Below W.heap.size W W') {gm gk : Nat} (hm : W.heap.size ≤ gm) (hk : W.heap.size ≤ gk) (hne : gm ≠ gk) (hn : n ≤ 12) : Cxt W' gm gk rv n R := by
  obtain ⟨oa, cap, e, hc⟩ := h.rw
  have := h.tab.2
  refine ⟨⟨oa, cap, e, fun r hr => ?_⟩, h.tab.over hb, by omega, by omega, hne, h.word, hn⟩
  obtain ⟨g, o, e1, hcell⟩ := hc r hr
  have := cell_lt hcell
  exact ⟨g, o, e1, by omega, by omega, cell_over hcell hb⟩
/-- A matching of the rows E, in memory that is new since W0. -/
structure MSt (W0 W : World) (gm : Nat) (rv : Value) (n : Nat) (R : Nat → Nat) (ow : Nat → Option Nat) (pl : Nat → Nat) (E : Nat → Prop) : Prop where
  old : Below W0.heap.size W0 W
  new : W0.heap.size ≤ gm
  mat : MAt W gm rv pl ow
  st : Wst n R ow pl E No
theorem MSt.below {W0 W W' : World} {gm : Nat} {rv : Value} {n : Nat} {R : Nat → Nat} {ow : Nat → Option Nat} {pl : Nat → Nat} {E : Nat → Prop} (h : MSt W0 W gm rv n R ow pl E) (hb : Below W.heap.size W W') : MSt W0 W' gm rv n R ow pl E :=
  ⟨h.old.trans (hb.mono h.old.size), h.new, h.mat.below hb, h.st⟩
/-- What enter answers: just if these rows can have places of their own. -/
def EntP (W0 : World) (gm : Nat) (rv : Value) (n : Nat) (R : Nat → Nat) (ow : Nat → Option Nat) (pl : Nat → Nat) (E : Nat → Prop) (i : Nat) (e : Ending) (w' : World) : Prop :=
  (e = .returned (.bool true) ∧ ∃ ow' pl', Hid (MSt W0 w' gm rv n R ow' pl' (fun r => E r ∨ r = i))) ∨ (e = .returned (.bool false) ∧ Hid (MSt W0 w' gm rv n R ow pl E) ∧ Hid (¬ Ind R (fun r => E r ∨ r = i)))
set_option maxRecDepth 100000 in
set_option maxHeartbeats 1000000 in
theorem enterF (W0 W : World) (gm : Nat) (rv : Value) (n : Nat) (R : Nat → Nat) (ow : Nat → Option Nat) (pl : Nat → Nat) (E : Nat → Prop) (i : Nat) (hA : RwA W0 rv n R) (hM : MSt W0 W gm rv n R ow pl E) (hn : n ≤ 12) (hi : i < n) (hiE : ¬ E i) :
    Calls Tryz.prog 99 #[.pointer (some ⟨gm, 0, none⟩), .int .i64 (i : Int)] W (EntP W0 gm rv n R ow pl E i) := by
  have hlt := hM.mat.lt
  have hb : Below W.heap.size W (W.alloc (.cells (List.replicate 64 (Value.bool false)).toArray 123)) := (Below.refl _ _).alloc (Nat.le_refl _) _
  have hM1 := hM.below hb
  have hgk : W0.heap.size ≤ W.heap.size := hM.old.size
  have KW := hide' (wayF 65 _ gm W.heap.size rv n R ow pl (fun _ => false) E No i (Nat.lt_of_le_of_lt (unm_le _) (by decide)) (hA.cxt hM1.old hM.new hgk (by omega) hn) hM1.mat (mks0 W) hM.st (fun _ h => False.elim h) hi hiE)
  have hM' := hide' hM
  have hM1' := hide' hM1
  have hA' := hide' hA
  clear hM hM1 hA hb
  go_enter Tryz.func99, Tryz.ntmps99
  go_wp2_with fail
  refine KW.out.mono ?_
  rintro e w1 ⟨hF, (⟨rfl, ow', pl', K', hM2, hK2, hW2⟩ | ⟨rfl, K', hM2, hK2, hN2⟩)⟩
  · have hend : Hid (MSt W0 w1 gm rv n R ow' pl' (fun r => E r ∨ r = i)) := ⟨hF.new hM1'.out.old hM1'.out.new hgk hM1'.out.old.size, hM1'.out.new, hM2, hW2.st⟩
    clear KW hM2 hK2 hW2 hF
    go_wp2
    go_ret
    exact .inl ⟨rfl, _, _, hend⟩
  · have hend : Hid (MSt W0 w1 gm rv n R ow pl E) := ⟨hF.new hM1'.out.old hM1'.out.new hgk hM1'.out.old.size, hM1'.out.new, hM2, hM1'.out.st⟩
    have hno : Hid (¬ Ind R (fun r => E r ∨ r = i)) := enter_no hM'.out.st hA'.out.bit hiE hN2
    clear KW hM2 hK2 hN2 hF
    go_wp2
    go_ret
    exact .inr ⟨rfl, hend, hno⟩
end Go.Proofs.YtlijlelejobchaaGreatDoor.M
namespace Go.Proofs.YtlijlelejobchaaGreatDoor.M
open Go.RowKit Go.Shelf
theorem MSt.ext {W0 W : World} {gm : Nat} {rv : Value} {n : Nat} {R : Nat → Nat} {ow : Nat → Option Nat} {pl : Nat → Nat} {E E' : Nat → Prop} (h : MSt W0 W gm rv n R ow pl E) (he : ∀ r, E r ↔ E' r) : MSt W0 W gm rv n R ow pl E' :=
  ⟨h.old, h.new, h.mat, h.st.ext he⟩
theorem MSt.start {W0 W : World} {gm : Nat} {rv : Value} {n : Nat} {R : Nat → Nat} {E : Nat → Prop} (hm : MAt W gm rv (fun _ => 0) (fun _ => none)) (hb : Below W0.heap.size W0 W) (hg : W0.heap.size ≤ gm) (hE : ∀ r, ¬ E r) : MSt W0 W gm rv n R (fun _ => none) (fun _ => 0) E :=
  ⟨hb, hg, hm, (Wst.empty n R _).ext fun r => ⟨fun h => False.elim h, fun h => absurd h (hE r)⟩⟩
/-- What full answers. -/
def FulP (w : World) (rv : Value) (n : Nat) (R : Nat → Nat) (e : Ending) (w' : World) : Prop :=
  (n ≤ 12 ∧ ∃ gm ow pl, e = .returned (.tuple #[.pointer (some ⟨gm, 0, none⟩), .bool true]) ∧ Hid (MSt w w' gm rv n R ow pl (fun r => r < n))) ∨
  (e = .returned (.tuple #[.pointer none, .bool false]) ∧ Hid (Below w.heap.size w w') ∧ Hid (n ≤ 12 → ¬ Ind R (fun r => r < n)))
section
variable {n : Nat} {R : Nat → Nat} {w : World} {oa : Option Addr} {cap : Nat}
set_option maxRecDepth 100000 in
set_option maxHeartbeats 1000000 in
theorem fullF (hA : RwA w (.slice oa n cap) n R) : Calls Tryz.prog 85 #[.slice oa n cap] w (FulP w (.slice oa n cap) n R) := by
  have hA' := hide' hA
  clear hA
  by_cases hn : n ≤ 12
  · have hd : decide ((n : Int) ≤ 12) = true := by simp; omega
    go_enter Tryz.func85, Tryz.ntmps85
    go_wp2_with fail
    refine (fewC oa n cap w).mono ?_
    rintro e w1 ⟨rfl, rfl⟩
    rw [hd]
    go_wp2_with fail
    refine (emptyF oa n cap w1).mono ?_
    rintro e w2 ⟨gm, rfl, hg, hM, hb⟩
    have h0 : Hid (MSt w1 w2 gm (.slice oa n cap) n R (fun _ => none) (fun _ => 0) (fun r => r < 0)) := MSt.start hM.out hb hg (fun r => Nat.not_lt_zero r)
    clear hM hb
    go_wp2
    go_loopw [5, 13] (fun _ p wr => ∃ (c : Nat) (ow : Nat → Option Nat) (pl : Nat → Nat), c ≤ n ∧ p = .int .i64 (c : Int) ∧ Hid (MSt w1 wr gm (.slice oa n cap) n R ow pl (fun r => r < c))) (fun _ p _ => ((n : Int) - intOf p).toNat)
    case atStart => exact ⟨0, _, _, Nat.zero_le _, rfl, h0⟩
    case round =>
      clear h0
      obtain ⟨c, ow, pl, hc, rfl, hS⟩ := hrel
      by_cases hlt : c < n
      · have hlt' : (c : Int) < (n : Int) := by omega
        have KE := hide' (enterF w1 wr gm (.slice oa n cap) n R ow pl _ c hA'.out hS.out hn hlt (Nat.lt_irrefl c))
        go_wp2_with fail
        refine KE.out.mono ?_
        rintro e w3 (⟨rfl, ow', pl', hS'⟩ | ⟨rfl, hS', hno⟩)
        · have hS2 : Hid (MSt w1 w3 gm (.slice oa n cap) n R ow' pl' (fun r => r < c + 1)) := hS'.out.ext fun r => by constructor <;> intro h <;> omega
          clear KE hS hS'
          go_wp2
          exact ⟨⟨c + 1, _, _, by omega, by go_num, hS2⟩, by simp [intOf]; omega⟩
        · have hb : Hid (Below w1.heap.size w1 w3) := hS'.out.old
          have hno' : Hid (n ≤ 12 → ¬ Ind R (fun r => r < n)) := fun _ h => hno.out (h.sub fun r hr => by omega)
          clear KE hS hS' hno
          go_wp2
          go_ret2
          exact .inr ⟨rfl, hb, hno'⟩
      · obtain rfl : c = n := by omega
        go_wp2
        go_ret2
        exact .inl ⟨hn, gm, ow, pl, rfl, hS⟩
  · have hd : decide ((n : Int) ≤ 12) = false := by simp; omega
    go_enter Tryz.func85, Tryz.ntmps85
    go_wp2_with fail
    refine (fewC oa n cap w).mono ?_
    rintro e w1 ⟨rfl, rfl⟩
    rw [hd]
    go_wp2
    go_ret2
    exact .inr ⟨rfl, Below.refl _ _, fun h => absurd h hn⟩
open Classical in
noncomputable def sizeN (R : Nat → Nat) (n : Nat) : Nat := if n ≤ 12 then grN R n else 0
set_option maxRecDepth 100000 in
set_option maxHeartbeats 1000000 in
theorem sizeF (hA : RwA w (.slice oa n cap) n R) : Calls Tryz.prog 96 #[.slice oa n cap] w fun e w' => e = .returned (.int .i64 (sizeN R n : Int)) ∧ Below w.heap.size w w' := by
  have hA' := hide' hA
  clear hA
  unfold sizeN
  by_cases hn : n ≤ 12
  · have hd : decide ((n : Int) ≤ 12) = true := by simp; omega
    rw [if_pos hn]
    go_enter Tryz.func96, Tryz.ntmps96
    go_wp2_with fail
    refine (fewC oa n cap w).mono ?_
    rintro e w1 ⟨rfl, rfl⟩
    rw [hd]
    go_wp2_with fail
    refine (emptyF oa n cap w1).mono ?_
    rintro e w2 ⟨gm, rfl, hg, hM, hb⟩
    have h0 : Hid (MSt w1 w2 gm (.slice oa n cap) n R (fun _ => none) (fun _ => 0) (grE R 0)) := MSt.start hM.out hb hg (fun r h => h)
    clear hM hb
    go_wp2
    go_loopw [3, 5, 13] (fun s _ p wr => ∃ (c : Nat) (ow : Nat → Option Nat) (pl : Nat → Nat) (z : Nat), c ≤ n ∧ p = .int .i64 (c : Int) ∧ s = .int .i64 (z : Int) ∧ z ≤ c ∧ Hid (z = grN R c) ∧ Hid (MSt w1 wr gm (.slice oa n cap) n R ow pl (grE R c))) (fun _ _ p _ => ((n : Int) - intOf p).toNat)
    case atStart => exact ⟨0, _, _, 0, Nat.zero_le _, rfl, rfl, Nat.le_refl _, rfl, h0⟩
    case round =>
      clear h0
      obtain ⟨c, ow, pl, z, hc, rfl, rfl, hzc, hz, hS⟩ := hrel
      by_cases hlt : c < n
      · have hlt' : (c : Int) < (n : Int) := by omega
        have KE := hide' (enterF w1 wr gm (.slice oa n cap) n R ow pl _ c hA'.out hS.out hn hlt (fun h => Nat.lt_irrefl c (grE_lt h)))
        go_wp2_with fail
        refine KE.out.mono ?_
        rintro e w3 (⟨rfl, ow', pl', hS'⟩ | ⟨rfl, hS', hno⟩)
        · have hy := grE_yes hS'.out.st.ind
          have hS2 : Hid (MSt w1 w3 gm (.slice oa n cap) n R ow' pl' (grE R (c + 1))) := hS'.out.ext hy.1
          have hz2 : Hid (z + 1 = grN R (c + 1)) := by show _ = _; rw [hy.2, hz.out]
          clear KE hS hS' hy hz
          go_wp2
          exact ⟨⟨c + 1, _, _, z + 1, by omega, by go_num, by go_num, by omega, hz2, hS2⟩, by simp [intOf]; omega⟩
        · have hy := grE_no hno.out
          have hS2 : Hid (MSt w1 w3 gm (.slice oa n cap) n R ow pl (grE R (c + 1))) := hS'.out.ext hy.1
          have hz2 : Hid (z = grN R (c + 1)) := by show _ = _; rw [hy.2, hz.out]
          clear KE hS hS' hy hz hno
          go_wp2
          exact ⟨⟨c + 1, _, _, z, by omega, by go_num, rfl, by omega, hz2, hS2⟩, by simp [intOf]; omega⟩
      · obtain rfl : c = n := by omega
        go_wp2
        go_ret
        exact ⟨by rw [hz.out]; rfl, hS.out.old⟩
  · have hd : decide ((n : Int) ≤ 12) = false := by simp; omega
    rw [if_neg hn]
    go_enter Tryz.func96, Tryz.ntmps96
    go_wp2_with fail
    refine (fewC oa n cap w).mono ?_
    rintro e w1 ⟨rfl, rfl⟩
    rw [hd]
    go_wp2
    go_ret
    exact ⟨rfl, Below.refl _ _⟩
end
end Go.Proofs.YtlijlelejobchaaGreatDoor.M
namespace Go.Proofs.YtlijlelejobchaaGreatDoor.M
open Go.RowKit Go.Shelf
/-- Marks handed over as a value. -/
def MkV (A : Array Value) (S : Nat → Bool) : Prop := A.size = 64 ∧ ∀ i, i < 64 → A[i]? = some (.bool (S i))
theorem MkV.at {A : Array Value} {S : Nat → Bool} (h : MkV A S) (W : World) : KAt (W.alloc (.cells A 123)) W.heap.size S := by
  have := World.rowIs_alloc W A 123 (fun u => .bool (S u)) (fun i hi => h.2 i (by rw [h.1] at hi; exact hi))
  rw [h.1] at this
  exact this
/-- What move answers. -/
def MovP (W0 W : World) (gm : Nat) (rv : Value) (n : Nat) (R : Nat → Nat) (ow : Nat → Option Nat) (pl : Nat → Nat) (S : Nat → Bool) (row u : Nat) (e : Ending) (w' : World) : Prop :=
  Hid (Fr2 W w' gm gm) ∧ ((e = .returned (.bool true) ∧ ∃ ow' pl', Hid (MSt W0 w' gm rv n R ow' pl' (fun r => r < n)) ∧ Hid (pl' row = u ∧ ∀ v, S v = true → ow' v = ow v)) ∨
  (e = .returned (.bool false) ∧ Hid (MSt W0 w' gm rv n R ow pl (fun r => r < n)) ∧ Hid (NoM n R S pl row u)))
theorem Fr2.drop {W X : World} {o : Obj} {gm : Nat} (h : Fr2 (W.alloc o) X gm W.heap.size) : Fr2 W X gm gm :=
  ⟨h.os, h.tape, h.output, Nat.le_trans (by simp) h.size, fun k hk h1 _ => (h.block k (by simp; omega) h1 (by omega)).trans (Below.heap_alloc _ _ _ hk)⟩
set_option maxRecDepth 100000 in
set_option maxHeartbeats 2000000 in
theorem moveF (W0 W : World) (gm : Nat) (rv : Value) (n : Nat) (R : Nat → Nat) (ow : Nat → Option Nat) (pl : Nat → Nat) (S : Nat → Bool) (row u : Nat) (A : Array Value) (hV : MkV A S) (hA : RwA W0 rv n R) (hM : MSt W0 W gm rv n R ow pl (fun r => r < n)) (hn : n ≤ 12) (hr : row < n) (hu : u < 64) (hb : (R row).testBit u = true)
    (hS : ∀ v, S v = true → ∃ j, j < n ∧ pl j = v) (hSr : S (pl row) = false) :
    Calls Tryz.prog 102 #[.pointer (some ⟨gm, 0, none⟩), .int .i64 (row : Int), .int .i64 (u : Int), .agg A] W (MovP W0 W gm rv n R ow pl S row u) := by
  have hlt := hM.mat.lt
  have hb1 : Below W.heap.size W (W.alloc (.cells A 123)) := (Below.refl _ _).alloc (Nat.le_refl _) _
  have hM1 := hM.below hb1
  have hgk : W0.heap.size ≤ W.heap.size := hM.old.size
  have hK1 := hV.at W
  have hC1 : Cxt (W.alloc (.cells A 123)) gm W.heap.size rv n R := hA.cxt hM1.old hM.new hgk (by omega) hn
  have hpl64 : pl row < 64 := (hM.st.own _ row id (hM.st.has row hr).2).1
  have co := hM1.mat.cellO hu
  have cp := hM1.mat.cellP (r := row) (by omega)
  have ck := hK1.cell hu
  have fk := hK1.frz u
  have hr12 : (row : Int) < 12 := by omega
  have hu64 : (u : Int) < 64 := by omega
  have hp64 : ((pl row : Nat) : Int) < 64 := by omega
  have hM1' := hide' hM1
  have hK1' := hide' hK1
  have hC1' := hide' hC1
  have hM' := hide' hM
  have hA' := hide' hA
  have hS' := hide' hS
  clear hM1 hK1 hC1 hb1 hM hA hS
  generalize hW1 : W.alloc (.cells A 123) = W1 at *
  have hne : gm ≠ W.heap.size := by omega
  have hD : Hid (∀ V, Below W1.heap.size W1 V → MSt W0 V gm rv n R ow pl (fun r => r < n)) := fun V h => hM1'.out.below h
  have hdr : Hid (Below W1.heap.size W1 W1.drew) := (Below.refl _ _).drew
  have hFd : Hid (Fr2 W W1.drew gm gm) := by
    rw [← hW1]
    exact Fr2.below ((Below.refl _ _).alloc (Nat.le_refl _) _).drew
  have hFr : Hid (∀ X, Fr2 W1 X gm W.heap.size → Fr2 W X gm gm) := fun X h => by
    rw [← hW1] at h
    exact h.drop
  by_cases hSu : S u = true
  · rw [hSu] at ck
    have hor : (owZ (ow u) == (row : Int)) = false := by
      cases e : ow u with
      | none => simp only [owZ]; simp <;> omega
      | some o =>
        have : o ≠ row := fun e2 => by
          subst e2
          have := (hM'.out.st.own u o id e).2.2.2.1
          rw [this, hSu] at hSr
          cases hSr
        simp only [owZ]; simp <;> omega
    have hend : Hid (MovP W0 W gm rv n R ow pl S row u (.returned (.bool false)) W1.drew) := ⟨hFd.out, .inr ⟨rfl, hD.out _ hdr.out, move_marked hr hS'.out hSr hSu⟩⟩
    clear hM1' hK1' hC1' hM' hA' hS' hD hdr
    go_enter Tryz.func102, Tryz.ntmps102
    go_wp2
    go_region
    go_wp2
    go_ret
    exact hend.out
  · have hSu0 : S u = false := by simpa using hSu
    rw [hSu0] at ck
    cases hw : ow u with
    | none =>
      rw [hw, show owZ none = -1 from rfl] at co
      have hor : ((-1 : Int) == (row : Int)) = false := by simp <;> omega
      have fo := hM1'.out.mat.frz (13 + pl row)
      have co2 := hM1'.out.mat.cellO hpl64
      go_enter Tryz.func102, Tryz.ntmps102
      go_wp2
      go_region
      go_upto_region 6 with fail
      have hMm : Hid (MAt ((W1.setCell ⟨W.heap.size, u, none⟩ (.bool true)).setCell ⟨gm, 13 + pl row, none⟩ (.int .i64 (-1))).drew gm rv pl (upd ow (pl row) none)) := World.rowIs.drew (MAt.setO (MAt.setOther hM1'.out.mat hne _) (pl row) none)
      have hKm : Hid (KAt ((W1.setCell ⟨W.heap.size, u, none⟩ (.bool true)).setCell ⟨gm, 13 + pl row, none⟩ (.int .i64 (-1))).drew W.heap.size (upd S u true)) := World.rowIs.drew (KAt.setOther (KAt.set hK1'.out u true) hne.symm _)
      have hFm : Hid (Fr2 W1 ((W1.setCell ⟨W.heap.size, u, none⟩ (.bool true)).setCell ⟨gm, 13 + pl row, none⟩ (.int .i64 (-1))).drew gm W.heap.size) := (Fr2.setB W1 gm W.heap.size u (.bool true)).trans ((Fr2.setA _ gm W.heap.size (13 + pl row) (.int .i64 (-1))).trans (Fr2.below (Below.refl _ _).drew))
      clear co cp ck fk fo co2 hD hdr
      generalize ((W1.setCell ⟨W.heap.size, u, none⟩ (.bool true)).setCell ⟨gm, 13 + pl row, none⟩ (.int .i64 (-1))).drew = Wm at *
      have co3 := hMm.out.cellO hu
      have fo3 := hMm.out.frz (13 + u)
      have cp3 := hMm.out.cellP (r := row) (by omega)
      have fp3 := hMm.out.frz (1 + row)
      have hend : Hid (MovP W0 W gm rv n R ow pl S row u (.returned (.bool true)) ((Wm.setCell ⟨gm, 13 + u, none⟩ (.int .i64 (row : Int))).setCell ⟨gm, 1 + row, none⟩ (.int .i64 (u : Int))).drew) := by
        have hF := hFm.out.trans ((Fr2.setA Wm gm W.heap.size (13 + u) (.int .i64 (row : Int))).trans ((Fr2.setA _ gm W.heap.size (1 + row) (.int .i64 (u : Int))).trans (Fr2.below (Below.refl _ _).drew)))
        have hm := move_free (S := S) hM'.out.st hr hb hu hw hSu0 hSr
        exact ⟨hFr.out _ hF, .inl ⟨rfl, _, _, ⟨hF.new hM1'.out.old hM1'.out.new hgk hM1'.out.old.size, hM1'.out.new, World.rowIs.drew ((hMm.out.setO u (some row)).setP (r := row) (by omega) u), hm.st⟩, hm.at_, hm.keep⟩⟩
      clear hM1' hK1' hC1' hM' hA' hS' hMm hKm hFm
      go_wp2
      go_region
      go_wp2
      go_ret
      exact hend.out
    | some o =>
      rw [hw, show owZ (some o) = (o : Int) from rfl] at co
      by_cases hor : o = row
      · subst hor
        have hend : Hid (MovP W0 W gm rv n R ow pl S o u (.returned (.bool true)) W1.drew) := ⟨hFd.out, .inl ⟨rfl, ow, pl, hD.out _ hdr.out, (hM'.out.st.own u o id hw).2.2.2.1, fun _ _ => rfl⟩⟩
        clear hM1' hK1' hC1' hM' hA' hS' hD hdr
        go_enter Tryz.func102, Tryz.ntmps102
        go_wp2
        go_region
        go_wp2
        go_ret
        exact hend.out
      · have hor1 : ((o : Int) == (row : Int)) = false := by simp <;> omega
        have fo := hM1'.out.mat.frz (13 + pl row)
        have co2 := hM1'.out.mat.cellO hpl64
        go_enter Tryz.func102, Tryz.ntmps102
        go_wp2
        go_region
        go_upto_region 6 with fail
        have hMm : Hid (MAt ((W1.setCell ⟨W.heap.size, u, none⟩ (.bool true)).setCell ⟨gm, 13 + pl row, none⟩ (.int .i64 (-1))).drew gm rv pl (upd ow (pl row) none)) := World.rowIs.drew (MAt.setO (MAt.setOther hM1'.out.mat hne _) (pl row) none)
        have hKm : Hid (KAt ((W1.setCell ⟨W.heap.size, u, none⟩ (.bool true)).setCell ⟨gm, 13 + pl row, none⟩ (.int .i64 (-1))).drew W.heap.size (upd S u true)) := World.rowIs.drew (KAt.setOther (KAt.set hK1'.out u true) hne.symm _)
        have hFm : Hid (Fr2 W1 ((W1.setCell ⟨W.heap.size, u, none⟩ (.bool true)).setCell ⟨gm, 13 + pl row, none⟩ (.int .i64 (-1))).drew gm W.heap.size) := (Fr2.setB W1 gm W.heap.size u (.bool true)).trans ((Fr2.setA _ gm W.heap.size (13 + pl row) (.int .i64 (-1))).trans (Fr2.below (Below.refl _ _).drew))
        clear co cp ck fk fo co2 hD hdr
        generalize ((W1.setCell ⟨W.heap.size, u, none⟩ (.bool true)).setCell ⟨gm, 13 + pl row, none⟩ (.int .i64 (-1))).drew = Wm at *
        have hrn : ((o : Int) != -1) = true := by simp <;> omega
        have hpre := move_pre hM'.out.st hr hw hor
        have KW := hide' (wayF 65 Wm gm W.heap.size rv n R _ pl (upd S u true) _ (fun v => No v ∨ v = u) o (Nat.lt_of_le_of_lt (unm_le _) (by decide)) (hC1'.out.fr hFm.out) hMm.out hKm.out hpre.2.2 (fun v hv => by
          have : v = u := hv.resolve_left id
          subst this; exact upd_same ..) hpre.2.1 (fun x => x.2 rfl))
        clear hMm hKm
        go_wp2_with fail
        refine KW.out.mono ?_
        rintro e w3 ⟨hF3, (⟨rfl, ow', pl', K', hM3, hK3, hW3⟩ | ⟨rfl, K', hM3, hK3, hN3⟩)⟩
        · have co3 := hM3.cellO hu
          have fo3 := hM3.frz (13 + u)
          have cp3 := hM3.cellP (r := row) (by omega)
          have fp3 := hM3.frz (1 + row)
          have hend : Hid (MovP W0 W gm rv n R ow pl S row u (.returned (.bool true)) ((w3.setCell ⟨gm, 13 + u, none⟩ (.int .i64 (row : Int))).setCell ⟨gm, 1 + row, none⟩ (.int .i64 (u : Int))).drew) := by
            have hF := (hFm.out.trans hF3).trans ((Fr2.setA w3 gm W.heap.size (13 + u) (.int .i64 (row : Int))).trans ((Fr2.setA _ gm W.heap.size (1 + row) (.int .i64 (u : Int))).trans (Fr2.below (Below.refl _ _).drew)))
            have hm := move_way (S := S) hM'.out.st hr hb hu hw hor hSu0 hSr hW3
            exact ⟨hFr.out _ hF, .inl ⟨rfl, _, _, ⟨hF.new hM1'.out.old hM1'.out.new hgk hM1'.out.old.size, hM1'.out.new, World.rowIs.drew ((hM3.setO u (some row)).setP (r := row) (by omega) u), hm.st⟩, hm.at_, hm.keep⟩⟩
          clear hM1' hK1' hC1' hM' hA' hS' hM3 hK3 hW3 hFm hF3 KW hpre
          go_wp2
          go_region
          go_wp2
          go_ret
          exact hend.out
        · have co3 := hM3.cellO hpl64
          have fo3 := hM3.frz (13 + pl row)
          have hend : Hid (MovP W0 W gm rv n R ow pl S row u (.returned (.bool false)) (w3.setCell ⟨gm, 13 + pl row, none⟩ (.int .i64 (row : Int)))) := by
            have hF := (hFm.out.trans hF3).trans (Fr2.setA w3 gm W.heap.size (13 + pl row) (.int .i64 (row : Int)))
            have hm := hM3.setO (pl row) (some row)
            rw [hM'.out.st.back hr] at hm
            exact ⟨hFr.out _ hF, .inr ⟨rfl, ⟨hF.new hM1'.out.old hM1'.out.new hgk hM1'.out.old.size, hM1'.out.new, hm, hM'.out.st⟩, move_stuck hM'.out.st hA'.out.bit hr hw hor hS'.out hSu0 hN3⟩⟩
          clear hM1' hK1' hC1' hM' hA' hS' hM3 hK3 hN3 hFm hF3 KW hpre
          go_wp2
          go_ret
          exact hend.out
end Go.Proofs.YtlijlelejobchaaGreatDoor.M

/- The document's Size and Full. -/
import Derived.Test.YtbbmjfjedonfaaaDoorMTurn
namespace Go.Proofs.YtbbmjfjedonfaaaDoor.M
open Go.RowKit Go.Shelf
theorem makeM (m : Nat) (hm : m ≤ 200) (W : World) : (Instr.makeSlice 40 (.int .i64 (m : Int)) (.int .i64 (m : Int))).run Tryd.prog W = .ok (.slice (some ⟨W.heap.size, 0, none⟩) m m) (W.alloc (.cells (madeCells #[.int .i64 0] m) 3)) := by
  obtain ⟨i, hi, hz, hs, hb⟩ := info_parts I.info3
  have hr := run_make (P := Tryd.prog) W 40 3 i _ Tryd.underlying40 hi hz .i64 .i64 m m (by omega) (Int.le_refl _) (by rw [hb]; omega) (by omega)
  simp only [Int.toNat_natCast, hs, Nat.mul_one] at hr
  exact hr
/-- So many rows have been told that they have none. -/
def neg1 (c : Nat) : Nat → Int := fun r => if r < c then -1 else 0
theorem neg1_set (c r : Nat) : upd (neg1 c) c (-1) r = neg1 (c + 1) r := by
  unfold neg1
  by_cases e : r = c
  · subst e; rw [upd_same, if_pos (by omega)]
  · rw [upd_ne _ _ e]
    by_cases e2 : r < c
    · rw [if_pos e2, if_pos (by omega)]
    · rw [if_neg e2, if_neg (by omega)]
theorem Hst.empty (n : Nat) (R : Nat → Nat) : Hst n R (fun _ => -1) No No :=
  ⟨fun r u _ h => by have h : (-1 : Int) = (u : Int) := h; omega, fun _ h => False.elim h, fun _ _ h => False.elim h⟩
/-- What stands between the rows. -/
structure RzI (w : World) (gh n : Nat) (R : Nat → Nat) (k : Nat) (hs : Nat → Int) (V : World) : Prop where
  old : Below w.heap.size w V
  new : w.heap.size ≤ gh
  hat : HAt V gh n hs
  st : Hst n R hs (grE R k) No
section
variable {n : Nat} {R : Nat → Nat} {w : World} {oa : Option Addr} {cap : Nat}
set_option maxRecDepth 100000 in
set_option maxHeartbeats 1000000 in
theorem rSizeF (hA : RwA w (.slice oa n cap) n R) : Calls Tryd.prog 28 #[.slice oa n cap] w fun e w' => e = .returned (.int .i64 (sizeN R n : Int)) ∧ Below w.heap.size w w' := by
  have hA' := hide' hA
  clear hA
  unfold sizeN
  by_cases hn : n ≤ 12
  · have hn' : ¬ (12 : Int) < (n : Int) := by omega
    rw [if_pos hn]
    go_enter Tryd.func28, Tryd.ntmps28
    have hmk := makeM n (by omega) w
    have hb1 : Below w.heap.size w (w.alloc (.cells (madeCells #[.int .i64 0] n) 3)) := (Below.refl _ _).alloc (Nat.le_refl _) _
    have hr1 : HAt (w.alloc (.cells (madeCells #[.int .i64 0] n) 3)) w.heap.size n (fun _ => 0) := World.rowIs_made w _ n _
    go_wp2
    obtain ⟨gh, hgh⟩ : ∃ g, g = w.heap.size := ⟨_, rfl⟩
    have hgh' := hide' hgh
    rw [← hgh] at hr1
    rw [← hgh]
    clear hgh hmk
    generalize w.alloc (.cells (madeCells #[.int .i64 0] n) 3) = W1 at *
    have hb1' := hide' hb1
    have hr1' := hide' hr1
    clear hb1 hr1
    go_loopw [4] (fun p wr => ∃ c : Nat, c ≤ n ∧ p = .int .i64 (c : Int) ∧ Hid (HAt wr gh n (neg1 c)) ∧ Hid (Below w.heap.size w wr)) (fun p _ => ((n : Int) - intOf p).toNat)
    case atStart => exact ⟨0, Nat.zero_le _, rfl, World.rowIs.congr hr1'.out fun r hr => by simp [neg1], hb1'⟩
    case round =>
      clear hb1' hr1'
      obtain ⟨c, hc, rfl, hH, hB⟩ := hrel
      by_cases hlt : c < n
      · have hlt' : (c : Int) < (n : Int) := by omega
        have ci := hH.out.cell hlt
        have fi := hH.out.frz c
        have hH2 : Hid (HAt (wr.setCell ⟨gh, c, none⟩ (.int .i64 (-1))) gh n (neg1 (c + 1))) := World.rowIs.congr (hH.out.set c (-1)) fun r hr => by rw [neg1_set]
        have hB2 : Hid (Below w.heap.size w (wr.setCell ⟨gh, c, none⟩ (.int .i64 (-1)))) := hB.out.setCell (p := ⟨gh, c, none⟩) (by show w.heap.size ≤ gh; rw [hgh'.out]; exact Nat.le_refl _) _
        clear hH hB
        go_wp2
        exact ⟨⟨c + 1, by omega, by go_num, hH2, hB2⟩, by simp [intOf]; omega⟩
      · obtain rfl : c = n := by omega
        have h0 : Hid (RzI w gh c R 0 (fun _ => -1) wr) := ⟨hB.out, by rw [hgh'.out]; exact Nat.le_refl _, World.rowIs.congr hH.out fun r hr => by simp [neg1, hr], Hst.empty c R⟩
        clear hH hB
        as_aux_lemma =>
        go_wp2
        go_loopw [5, 6, 7] (fun s p _ wr => ∃ (k z : Nat) (hs : Nat → Int), k ≤ c ∧ p = .int .i64 (k : Int) ∧ s = .int .i64 (z : Int) ∧ z ≤ k ∧ Hid (z = grN R k) ∧ Hid (RzI w gh c R k hs wr)) (fun _ p _ _ => ((c : Int) - intOf p).toNat)
        case atStart => exact ⟨0, 0, _, Nat.zero_le _, rfl, rfl, Nat.le_refl _, rfl, h0⟩
        case round =>
          clear h0
          obtain ⟨k, z, hs, hk, rfl, rfl, hzk, hz, hI⟩ := hrel
          by_cases hlt2 : k < c
          · have hlt2' : (k : Int) < (c : Int) := by omega
            have hbx : Below wr.heap.size wr (wr.alloc (.cells #[.int .u64 0] 23)) := (Below.refl _ _).alloc (Nat.le_refl _) _
            have hws := hI.out.old.size
            have hgl := hI.out.hat.lt
            have KT := hide' (turnF 65 (wr.alloc (.cells #[.int .u64 0] 23)) gh wr.heap.size oa cap c R hs 0 (grE R k) No k (Nat.lt_of_le_of_lt (unm_le _) (by decide)) (hA'.out.cxt (hI.out.old.trans (hbx.mono hws)) hI.out.new hws (by omega) hn) (hI.out.hat.below hbx) (Boxed.new wr 23 (.int .u64 0)) (by decide) hI.out.st (fun _ h => False.elim h) hlt2 (fun h => Nat.lt_irrefl k (grE_lt h)))
            have hbx' := hide' hbx
            clear hbx
            go_wp2_with fail
            refine KT.out.mono ?_
            rintro e w3 ⟨hF3, (⟨rfl, hs', mt', hH3, hB3, hl3, hT3⟩ | ⟨rfl, mt', hH3, hB3, hl3, hN3⟩)⟩
            · have hold := hF3.new (hI.out.old.trans (hbx'.out.mono hws)) hI.out.new hws (Nat.le_trans hws hbx'.out.size)
              have hy := grE_yes hT3.st.ind
              have hI2 : Hid (RzI w gh c R (k + 1) hs' w3) := ⟨hold, hI.out.new, hH3, hT3.st.ext hy.1⟩
              have hz2 : Hid (z + 1 = grN R (k + 1)) := by show _ = _; rw [hy.2, hz.out]
              clear KT hH3 hB3 hT3 hF3 hI hold hy hz
              go_wp2
              exact ⟨⟨k + 1, z + 1, _, by omega, by go_num, by go_num, by omega, hz2, hI2⟩, by simp [intOf]; omega⟩
            · have hold := hF3.new (hI.out.old.trans (hbx'.out.mono hws)) hI.out.new hws (Nat.le_trans hws hbx'.out.size)
              have hno := turn_no hA'.out.bit (fun h => Nat.lt_irrefl k (grE_lt h)) (by rw [show (0 : Nat).testBit = fun _ => false from funext Nat.zero_testBit] at hN3; exact hN3)
              have hy := grE_no hno
              have hI2 : Hid (RzI w gh c R (k + 1) hs w3) := ⟨hold, hI.out.new, hH3, hI.out.st.ext hy.1⟩
              have hz2 : Hid (z = grN R (k + 1)) := by show _ = _; rw [hy.2, hz.out]
              clear KT hH3 hB3 hN3 hF3 hI hold hy hz hno
              go_wp2
              exact ⟨⟨k + 1, z, _, by omega, by go_num, rfl, by omega, hz2, hI2⟩, by simp [intOf]; omega⟩
          · obtain rfl : k = c := by omega
            go_wp2
            go_ret
            exact ⟨by rw [hz.out]; rfl, hI.out.old⟩
  · have hn' : (12 : Int) < (n : Int) := by omega
    rw [if_neg hn]
    go_enter Tryd.func28, Tryd.ntmps28
    go_wp2
    go_ret
    exact ⟨rfl, Below.refl _ _⟩
open Classical in
/-- Is there a full matching? -/
noncomputable def fulB (n : Nat) (R : Nat → Nat) : Bool := decide (n ≤ 12 ∧ ∃ g, FullM n R g)
theorem fulB_iff (n : Nat) (R : Nat → Nat) : fulB n R = true ↔ n ≤ 12 ∧ ∃ g, FullM n R g := by simp [fulB]
set_option maxRecDepth 100000 in
set_option maxHeartbeats 1000000 in
theorem rFullF (hA : RwA w (.slice oa n cap) n R) : Calls Tryd.prog 11 #[.slice oa n cap] w fun e w' => e = .returned (.bool (fulB n R)) ∧ Below w.heap.size w w' := by
  have KS := hide' (rSizeF hA)
  clear hA
  by_cases hn : n ≤ 12
  · have hn' : (n : Int) ≤ 12 := by omega
    have hs : sizeN R n = grN R n := by unfold sizeN; rw [if_pos hn]
    rw [hs] at KS
    have hq : Hid (((grN R n : Int) == (n : Int)) = fulB n R) := by
      show _ = _
      apply Bool.eq_iff_iff.2
      rw [fulB_iff, full_iff, ← grN_iff]
      constructor
      · intro h
        exact ⟨hn, by have := eq_of_beq h; omega⟩
      · rintro ⟨_, h⟩
        rw [h]
        simp
    generalize grN R n = z at *
    clear hs
    go_enter Tryd.func11, Tryd.ntmps11
    go_wp2_with fail
    refine KS.out.mono ?_
    rintro e w1 ⟨rfl, hb⟩
    go_wp2
    go_ret
    exact ⟨ret_bool (by rw [← hq.out]), hb⟩
  · have hn' : ¬ (n : Int) ≤ 12 := by omega
    have hq : fulB n R = false := by
      cases e : fulB n R
      · rfl
      · exact absurd ((fulB_iff n R).1 e).1 hn
    rw [hq]
    go_enter Tryd.func11, Tryd.ntmps11
    go_wp2
    go_ret
    exact ⟨rfl, Below.refl _ _⟩
end
end Go.Proofs.YtbbmjfjedonfaaaDoor.M

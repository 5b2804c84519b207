/- The document's number: so many bytes of it. -/
import Derived.Test.YtgopaoecmefnkaaZpC
import Derived.Laws.MakeOwn
namespace Go.Proofs.Ytgopaoecmefnkaa.S
open Go.RowKit Go.Shelf
theorem makeB (m : Nat) (hm : m ≤ 200) (W : World) : (Instr.makeSlice 38 (.int .i64 (m : Int)) (.int .i64 (m : Int))).run Try.prog W = .ok (.slice (some ⟨W.heap.size, 0, none⟩) m m) (W.alloc (.cells (madeCells #[.int .u8 0] m) 5)) := by
  obtain ⟨i, hi, hz, hs, hb⟩ := info_parts infoU8
  have hr := run_make (P := Try.prog) W 38 5 i _ Try.underlying38 hi hz .i64 .i64 m m (by omega) (Int.le_refl _) (by rw [hb]; omega) (by omega)
  simp only [Int.toNat_natCast, hs, Nat.mul_one] at hr
  exact hr
/-- The bytes from a place on. -/
def nbF (wd n k : Nat) : Nat → Value := fun t => if t < k then .int .u8 0 else .int .u8 ((n / 256 ^ (wd - 1 - t) % 256 : Nat) : Int)
theorem div_pow (n wd k : Nat) (h : k < wd) : n / 256 ^ (wd - (k + 1)) / 256 = n / 256 ^ (wd - k) := by
  rw [Nat.div_div_eq_div_mul, show wd - k = wd - (k + 1) + 1 by omega, Nat.pow_succ]
set_option maxRecDepth 100000 in
set_option maxHeartbeats 2000000 in
theorem numberF (n wd : Nat) (wi : Int) (hwi : wi = (wd : Int)) (w : World) (hw : wd ≤ 8) (hn : n < 18446744073709551616) :
    Calls Try.prog 45 #[.int .u64 (n : Int), .int .i64 wi] w fun e w' => ∃ oa cap, e = .returned (.slice oa wd cap) ∧ Hid (RowB w' (.slice oa wd cap) (be wd n)) ∧ Hid (Below w.heap.size w w') := by
  subst hwi
  have hmk := makeB wd (by omega) w
  have hr1 : Hid ((w.alloc (.cells (madeCells #[.int .u8 0] wd) 5)).rowIs w.heap.size 5 wd (nbF wd n wd)) := World.rowIs.congr (World.rowIs_made w _ wd _) fun i hi => by
    unfold nbF
    rw [if_pos hi]
  have hB1 : Hid (Below w.heap.size w (w.alloc (.cells (madeCells #[.int .u8 0] wd) 5))) := (Below.refl _ w).alloc (Nat.le_refl _) _
  go_enter Try.func45, Try.ntmps45
  go_wp2
  clear hmk
  go_loopw [0, 6] (fun v p wr => ∃ k : Nat, k ≤ wd ∧ p = .int .i64 ((k : Int) - 1) ∧ v = .int .u64 ((n / 256 ^ (wd - k) : Nat) : Int) ∧ Hid (wr.rowIs w.heap.size 5 wd (nbF wd n k)) ∧ Hid (Below w.heap.size w wr)) (fun _ p _ => (intOf p + 1).toNat)
  case atStart => exact ⟨wd, Nat.le_refl _, rfl, by simp, hr1, hB1⟩
  case round =>
    clear hr1 hB1
    obtain ⟨k, hk, rfl, rfl, hR, hB⟩ := hrel
    cases k with
    | zero =>
      go_wp2
      go_ret
      refine ⟨_, _, rfl, ⟨_, _, by rw [be_len], fun i z hz => ⟨_, _, rfl, ?_⟩⟩, hB⟩
      have hi := (List.getElem?_eq_some_iff.1 hz).1
      rw [be_len] at hi
      rw [be_at hi] at hz
      cases hz
      have := World.rowIs.cell hR.out (i := i) hi
      rw [Nat.zero_add, this]
      unfold nbF
      rw [if_neg (by omega)]
    | succ k =>
      have hk' : k < wd := by omega
      have hki : (k : Int) < (wd : Int) := by omega
      have hp : (((k + 1 : Nat) : Int) - 1) = (k : Int) := by omega
      have hfz := World.rowIs.frozen hR.out k
      have hlt := World.rowIs.lt hR.out
      have hR2 : Hid ((wr.setCell ⟨w.heap.size, k, none⟩ (.int .u8 ((n / 256 ^ (wd - (k + 1)) % 256 : Nat) : Int))).rowIs w.heap.size 5 wd (nbF wd n k)) := World.rowIs.congr (World.rowIs.set hR.out k _) fun i hi => by
        unfold nbF
        by_cases e : i = k
        · subst e
          rw [if_pos rfl, if_neg (by omega), show wd - 1 - i = wd - (i + 1) by omega]
        · rw [if_neg e]
          by_cases e2 : i < k
          · rw [if_pos (by omega), if_pos e2]
          · rw [if_neg (by omega), if_neg e2]
      have hB2 : Hid (Below w.heap.size w (wr.setCell ⟨w.heap.size, k, none⟩ (.int .u8 ((n / 256 ^ (wd - (k + 1)) % 256 : Nat) : Int)))) := hB.out.setCell (p := ⟨w.heap.size, k, none⟩) (Nat.le_refl _) _
      have hD := hide' (div_pow n wd k hk')
      have hc := World.rowIs.cell hR.out (i := k) hk'
      have hm : Hid ((((n / 256 ^ (wd - (k + 1)) : Nat) : Int)) % 256 = ((n / 256 ^ (wd - (k + 1)) % 256 : Nat) : Int)) := by unfold Hid; simp
      have hm2 : Hid ((((n / 256 ^ (wd - (k + 1)) : Nat) : Int)) / 256 = ((n / 256 ^ (wd - (k + 1)) / 256 : Nat) : Int)) := by unfold Hid; simp
      have hnb : n / 256 ^ (wd - (k + 1)) < 18446744073709551616 := Nat.lt_of_le_of_lt (Nat.div_le_self _ _) hn
      rw [hp]
      generalize n / 256 ^ (wd - (k + 1)) = q at *
      clear hR hB
      go_wp2
      exact ⟨⟨k, by omega, by go_num, by rw [hm2.out, hD.out], hR2, hB2⟩, by simp [intOf]⟩
end Go.Proofs.Ytgopaoecmefnkaa.S

/- The document's Count. -/
import Derived.Test.YtbbmjfjedonfaaaDoorMLexM
import Derived.Test.YtbbmjfjedonfaaaDoorMCntL
import Derived.Test.YtbbmjfjedonfaaaDoorMShr
namespace Go.Proofs.YtbbmjfjedonfaaaDoor.M
open Go.RowKit Go.Shelf
theorem bits_giv {L : List Nat} {u : Nat} (hu : u < 64) (hw : ∀ z ∈ L, z < 18446744073709551616) : bitsOf (givL L u) = (bitsOf (L.drop 1)).map (clr u) := by
  unfold bitsOf givL
  rw [List.map_map, List.map_map]
  refine List.map_congr_left fun z hz => funext fun v => ?_
  have h := mask_bit hu (hw z (List.mem_of_mem_drop hz)) v
  simp only [Function.comp]
  apply Bool.eq_iff_iff.2
  rw [h]
  unfold clr
  simp
/-- The first row's places below k. -/
def psu (L : List Nat) (k : Nat) : Nat := sumN (fun u => if (fn L 0).testBit u = true then wy 64 (bitsOf (givL L u)) else 0) (List.range k)
theorem psu_all {L : List Nat} (h0 : 0 < L.length) (hw : ∀ z ∈ L, z < 18446744073709551616) : psu L 64 = wy 64 (bitsOf L) := by
  cases L with
  | nil => cases h0
  | cons z l =>
    show _ = wy 64 (z.testBit :: bitsOf l)
    rw [wy_head]
    unfold psu
    refine sumN_congr fun u hu => ?_
    rw [bits_giv (List.mem_range.1 hu) hw]
    rfl
theorem psu_succ (L : List Nat) (k : Nat) : psu L (k + 1) = psu L k + if (fn L 0).testBit k = true then wy 64 (bitsOf (givL L k)) else 0 := by
  unfold psu
  rw [range_snoc, sumN_app, sumN, sumN, Nat.add_zero]
theorem psu_mono (L : List Nat) {i j : Nat} (h : i ≤ j) : psu L i ≤ psu L j := by
  induction j with
  | zero => rw [Nat.le_zero.1 h]; exact Nat.le_refl _
  | succ j ih =>
    rcases Nat.lt_or_ge i (j + 1) with h1 | h1
    · have := ih (by omega)
      rw [psu_succ]; omega
    · rw [Nat.le_antisymm h h1]; exact Nat.le_refl _
set_option maxRecDepth 100000 in
set_option maxHeartbeats 8000000 in
theorem rCountN (n : Nat) : ∀ (L : List Nat) (v : Value) (m : Nat) (w : World), L.length = n → RowU w v L → (∀ z ∈ L, z < 18446744073709551616) → Tab w → L.length ≤ 1000 → m ≤ 65536 →
    Calls Tryd.prog 6 #[v, .int .u64 (m : Int)] w fun e w' => e = .returned (.int .u64 (cntL L m : Int)) ∧ Below w.heap.size w w' := by
  induction n with
  | zero =>
    intro L v m w hl hr hw ht _ hm
    obtain ⟨oa, cap, rfl⟩ := hr.shape
    have KF := hide' (rFullF (hr.rwa ht hw))
    have hL := List.eq_nil_of_length_eq_zero hl
    subst hL
    have hfu : fulB ([] : List Nat).length (fn []) = true := (fulB_iff _ _).2 ⟨by simp, fun _ => 0, fun i hi => absurd hi (Nat.not_lt_zero _), fun i _ hi => absurd hi (Nat.not_lt_zero _)⟩
    rw [hfu] at KF
    have hc : Hid (cntL [] m = min 1 m) := rfl
    clear hr hw ht hfu
    rw [hc.out]
    by_cases h0 : m = 0
    · subst h0
      go_enter Tryd.func6, Tryd.ntmps6
      go_wp2
      go_ret
      exact ⟨rfl, Below.refl _ _⟩
    · have h0' : ((m : Int) == 0) = false := by rw [beq_eq_false_iff_ne]; omega
      have h1 : min 1 m = 1 := by omega
      rw [h1]
      go_enter Tryd.func6, Tryd.ntmps6
      go_wp2_with fail
      refine KF.out.mono ?_
      rintro e w1 ⟨rfl, hb⟩
      go_wp2
      go_ret
      exact ⟨rfl, hb⟩
  | succ n ih =>
    intro L v m w hl hr hw ht hL hm
    obtain ⟨oa, cap, rfl⟩ := hr.shape
    have KF := hide' (rFullF (hr.rwa ht hw))
    have ih' := hide' ih
    have ht' := hide' ht
    have hr' := hide' hr
    have hw' := hide' hw
    have hlp : 0 < L.length := by omega
    replace hl := hide' hl
    clear hr hw ht ih
    by_cases h0 : m = 0
    · subst h0
      have hc : Hid (cntL L 0 = 0) := by show _ = _; unfold cntL; split <;> omega
      rw [hc.out]
      go_enter Tryd.func6, Tryd.ntmps6
      go_wp2
      go_ret
      exact ⟨rfl, Below.refl _ _⟩
    · have h0' : ((m : Int) == 0) = false := by rw [beq_eq_false_iff_ne]; omega
      cases hfu : fulB L.length (fn L) with
      | false =>
        rw [hfu] at KF
        have hc : Hid (cntL L m = 0) := by
          show _ = _
          unfold cntL
          split
          · rename_i h12
            rw [wy_none fun h => by rw [(fulB_iff _ _).2 ⟨h12, h⟩] at hfu; cases hfu]
            omega
          · rfl
        rw [hc.out]
        go_enter Tryd.func6, Tryd.ntmps6
        go_wp2_with fail
        refine KF.out.mono ?_
        rintro e w1 ⟨rfl, hb⟩
        go_wp2
        go_ret
        exact ⟨rfl, hb⟩
      | true =>
        rw [hfu] at KF
        have h12 := ((fulB_iff _ _).1 hfu).1
        have hc : Hid (cntL L m = min (psu L 64) m) := by
          show _ = _
          unfold cntL
          rw [if_pos h12, psu_all (by omega) hw'.out]
        have hmono : Hid (∀ u, u ≤ 64 → psu L u ≤ psu L 64) := fun u hu => psu_mono L hu
        have hsuc : Hid (∀ k, psu L (k + 1) = psu L k + if (fn L 0).testBit k = true then wy 64 (bitsOf (givL L k)) else 0) := psu_succ L
        have hz : Hid (psu L 0 = 0) := rfl
        have hl0 : (((L.length : Nat) : Int) == 0) = false := by rw [beq_eq_false_iff_ne]; omega
        obtain ⟨_, _, e9, _, hcel⟩ := id hr'.out
        cases e9
        obtain ⟨g, o, rfl, hc0⟩ := hcel 0 _ (fn_get (by omega))
        have hx := hide' (fn_lt hw'.out 0)
        rw [Nat.add_zero] at hc0
        have hc0' := hide' hc0
        clear hcel hfu hc0
        have hpos : (0 : Int) < (L.length : Int) := by omega
        rw [hc.out]
        clear hc
        generalize hpsu : psu L = ps at *
        clear hpsu
        go_enter Tryd.func6, Tryd.ntmps6
        go_wp2_with fail
        refine KF.out.mono ?_
        rintro e w1 ⟨rfl, hb⟩
        have hB1 := hide' hb
        clear hb KF
        go_wp2
        go_loopw [5, 6] (fun s p wr => ∃ (u z : Nat), u ≤ 64 ∧ p = .int .i64 (u : Int) ∧ s = .int .u64 (z : Int) ∧ Hid (z = min (ps u) m) ∧ Hid (Below w.heap.size w wr)) (fun _ p _ => (64 - intOf p).toNat)
        case atStart => exact ⟨0, 0, by omega, rfl, rfl, by show _ = _; rw [hz.out]; omega, hB1⟩
        case round =>
          clear hB1 hz
          obtain ⟨u, z, hu, rfl, rfl, hzz, hB⟩ := hrel
          by_cases hu64 : u < 64
          · have hu' : (u : Int) < 64 := by omega
            by_cases hzm : z < m
            · have hzm' : (z : Int) < (m : Int) := by omega
              have cx := cell_over hc0'.out hB.out
              cases hbu : (fn L 0).testBit u with
              | false =>
                have hsb := shr_bitF hx.out hbu
                have hz2 : Hid (z = min (ps (u + 1)) m) := by show _ = _; rw [hsuc.out, if_neg (by rw [hbu]; decide), Nat.add_zero]; exact hzz.out
                clear hzz hbu
                generalize fn L 0 = x at *
                go_wp2
                exact ⟨⟨u + 1, z, by omega, by go_num, rfl, hz2, hB⟩, by simp [intOf]; omega⟩
              | true =>
                have hsb := shr_bitT hx.out hbu
                have hrw := hide' (hr'.out.below hB.out (Nat.le_refl _))
                have KG := hide' (givenF L _ u hu64 wr hrw.out hw'.out hL)
                have hz2 : Hid (z + min (wy 64 (bitsOf (givL L u))) (m - z) = min (ps (u + 1)) m) := by
                  show _ = _
                  have := hzz.out
                  rw [hsuc.out, if_pos hbu]
                  omega
                have hgl : (givL L u).length = n := by have := hl.out; rw [givL_len]; omega
                have hg12 : (givL L u).length ≤ 12 := by rw [givL_len]; omega
                have hcg : Hid (cntL (givL L u) (m - z) = min (wy 64 (bitsOf (givL L u))) (m - z)) := by show _ = _; unfold cntL; rw [if_pos hg12]
                have hgw := hide' (givL_word (u := u) hw'.out)
                clear hzz hbu hrw
                generalize fn L 0 = x at *
                go_wp2_with fail
                refine KG.out.mono ?_
                rintro e w2 ⟨v', rfl, hO, hb2⟩
                have hB2 : Hid (Below w.heap.size w w2) := hB.out.trans (hb2.out.mono hB.out.size)
                have KC := hide' (ih'.out (givL L u) v' (m - z) w2 hgl (RowU.of_owns hO.out) hgw.out (ht'.out.over hB2.out) (by omega) (by omega))
                rw [hcg.out] at KC
                have hmz : (m : Int) - (z : Int) = ((m - z : Nat) : Int) := by omega
                have hwz : IntKind.u64.wrap ((m : Int) - (z : Int)) = ((m - z : Nat) : Int) := by rw [IntKind.wrap_u64]; omega
                have hwa : IntKind.u64.wrap ((z : Int) + ((min (wy 64 (bitsOf (givL L u))) (m - z) : Nat) : Int)) = ((z + min (wy 64 (bitsOf (givL L u))) (m - z) : Nat) : Int) := by rw [IntKind.wrap_u64]; omega
                clear KG hO hb2 hB hcg hgw hgl hmz hg12
                generalize min (wy 64 (bitsOf (givL L u))) (m - z) = q at *
                generalize m - z = mz at *
                go_wp2_with fail
                refine KC.out.mono ?_
                rintro e w3 ⟨rfl, hb3⟩
                have hB3 : Hid (Below w.heap.size w w3) := hB2.out.trans (hb3.mono hB2.out.size)
                clear hb3 hB2 KC
                go_wp2
                exact ⟨⟨u + 1, z + q, by omega, by go_num, by go_num, hz2, hB3⟩, by simp [intOf]; omega⟩
            · have hzm' : ¬ (z : Int) < (m : Int) := by omega
              have hend : Hid (z = min (ps 64) m) := by have := hmono.out u hu; have := hzz.out; show _ = _; omega
              clear hzz
              go_wp2
              go_ret
              exact ⟨by rw [hend.out]; rfl, hB.out⟩
          · obtain rfl : u = 64 := by omega
            go_wp2
            go_ret
            exact ⟨by rw [hzz.out]; rfl, hB.out⟩
theorem rCountF (L : List Nat) (v : Value) (m : Nat) (w : World) (hr : RowU w v L) (hw : ∀ z ∈ L, z < 18446744073709551616) (ht : Tab w) (hL : L.length ≤ 1000) (hm : m ≤ 65536) :
    Calls Tryd.prog 6 #[v, .int .u64 (m : Int)] w fun e w' => e = .returned (.int .u64 (cntL L m : Int)) ∧ Below w.heap.size w w' := rCountN L.length L v m w rfl hr hw ht hL hm
end Go.Proofs.YtbbmjfjedonfaaaDoor.M

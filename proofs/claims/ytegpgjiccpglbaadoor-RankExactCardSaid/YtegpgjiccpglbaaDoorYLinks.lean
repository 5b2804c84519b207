/- Links: the links in order. -/
import Derived.Test.YtegpgjiccpglbaaDoorYPair
namespace Go.Proofs.YtegpgjiccpglbaaDoor
open Go.RowKit
theorem info48 : (Tryd.prog.info? 48).map (·.size) = some 64 := by kernel_rfl
theorem under48 : Tryd.prog.underlying 48 = some (.array 64 33) := by kernel_rfl
theorem index_row (c : Array Value) (k : Nat) (v : Value) (hk : k < 64) (hc : c[k]? = some v) (w : World) : (Instr.index 48 (.agg c) (.int .i64 (k : Int))).run Tryd.prog w = .ok v w := by
  simp [Instr.index, run_underlying under48, asIntOf, hk, hc, go_sem]
section
variable {w : World} {b : Nat} {J : Nat → Nat}
set_option maxRecDepth 100000 in
set_option maxHeartbeats 1000000 in
theorem linksR (h : RkAt w b J) :
    Calls Tryd.prog 13 #[.pointer (some ⟨b, 0, none⟩)] w fun e w' => ∃ v, e = .returned v ∧ w'.ownsRow w.heap.size 42 2 v (lks J).length (cellsP (lks J)) ∧ Below w.heap.size w w' := by
  obtain ⟨i0, hi, hz0, hz1, hz2⟩ := info_q infoP
  obtain ⟨c, hb, hn, hc⟩ := h.row
  have hR := hide' h
  have hc' := hide' hc
  have hx := hide' (fun k v (hk : k < 64) (hc : c[k]? = some v) => index_row c k v hk hc)
  have hinf : (Tryd.prog.info? 48).map (·.size) = some c.size := by rw [hn]; exact info48
  clear h hc
  go_enter Tryd.func13, Tryd.ntmps13
  go_wp2_with (refine wpList_load_row rfl 48 _ rfl b rfl _ c _ _ hb under48 rfl hinf ?_)
  go_loopw [3, 10] (fun v k wr => ∃ n : Nat, n ≤ 64 ∧ k = .int .i64 n ∧ Hid (wr.ownsRow w.heap.size 42 2 v (lksN J n).length (cellsP (lksN J n))) ∧ Below w.heap.size w wr) (fun _ k _ => (64 - intOf k).toNat)
  case atStart => exact ⟨0, by omega, rfl, World.ownsRow_nil _ _ _ _, Below.refl _ _⟩
  case round =>
    clear hb hinf hn
    obtain ⟨n, hn, rfl, hrow, hB⟩ := hrel
    by_cases hlt : n < 64
    · have hidx := hx.out n _ hlt (hc'.out n hlt)
      have hd : decide ((n : Int) < 64) = true := by simp; omega
      go_wp2
      go_loopw [3, 5] (fun v s wv => ∃ (y : Nat) (pre : List (Fin 64)), y < 18446744073709551616 ∧ Hid (nums (J n) = pre ++ nums y) ∧ s = .int .u64 y ∧ Hid (wv.ownsRow w.heap.size 42 2 v (lksN J n ++ lkRow n pre).length (cellsP (lksN J n ++ lkRow n pre))) ∧ Below w.heap.size w wv) (fun _ s _ => (intOf s).toNat)
      case atStart => exact ⟨J n, [], hR.out.wf n hlt, rfl, rfl, by simpa [lkRow] using hrow, hB⟩
      case round =>
        clear hidx hrow hB
        obtain ⟨y, pre, hy, hp, rfl, hrow, hB⟩ := hrel
        by_cases h0 : y = 0
        · subst h0
          have hrow2 : Hid (wr.ownsRow w.heap.size 42 2 u3 (lksN J (n + 1)).length (cellsP (lksN J (n + 1)))) := by
            show World.ownsRow _ _ _ _ _ _ _
            rw [lksN_snoc, hp.out, nums_zero, List.append_nil]
            exact hrow.out
          clear hrow
          go_wp2
          go_roundw
          case rel => exact ⟨n + 1, by omega, by go_num, hrow2, hB⟩
          case measure => simp [intOf]; omega
        · obtain ⟨j, l, hnn⟩ := nums_cons hy h0
          have KT := hide' (tz64m y hy j l hnn)
          have ht := hide' (hR.out.over hB).tab
          have hne : ((y : Int) != 0) = true := by rw [ne_cast]; simpa using h0
          have hand := pred_word y hy h0
          have hand2 : bits .and .u64 (y : Int) ((y : Int) - 1) = ((y &&& (y - 1) : Nat) : Int) := by rw [show ((y : Int) - 1) = ((y - 1 : Nat) : Int) by omega, u64_and_nat y _ hy (by omega)]
          have hlt2 : y &&& (y - 1) < y := Nat.lt_of_le_of_lt Nat.and_le_right (by omega)
          have hnp : Hid (nums (J n) = (pre ++ [j]) ++ nums (y &&& (y - 1))) := by show _ = _; rw [nums_pred hnn, hp.out, hnn]; simp
          have hsn : Hid (lksN J n ++ lkRow n (pre ++ [j]) = (lksN J n ++ lkRow n pre) ++ [((n : Int), (j.val : Int))]) := by show _ = _; rw [lkRow_snoc, List.append_assoc]
          have hlen : (lksN J n ++ lkRow n pre).length ≤ 8192 := by
            have h1 := lksN_len J n
            have h2 := nums_len64 (J n)
            rw [hp.out, List.length_append] at h2
            rw [List.length_append, show (lkRow n pre).length = pre.length by simp [lkRow]]
            omega
          have hsz := hB.size
          have hj := j.isLt
          clear hp h0 hnn
          generalize y &&& (y - 1) = z at *
          generalize hM : lksN J n ++ lkRow n pre = M at *
          have hM' := hide' hM
          clear hM
          obtain ⟨oa, cap, hv⟩ := owns_shape hrow.out
          subst hv
          generalize hm : M.length = m at *
          have hm' := hide' hm
          clear hm
          generalize hjj : j.val = jj at *
          have hjj' := hide' hjj
          clear hjj
          go_wp2_with (first | (go_at_call 33; refine (KT.out _ ht.out).mono ?_; rintro e w1 ⟨rfl, hw1⟩; have hw2 := hw1.symm; subst hw2; clear hw1) | (at_builtin; go_loud (refine wpList_append_lies _ rfl _ _ 29 rfl w.heap.size 42 i0 (.agg #[.int .i64 0, .int .i64 0]) 2 16 Tryd.underlying29 hi hz0 hz1 hz2 rfl (by decide) (.slice oa m cap) m (cellsP M) rfl (hrow.out.alloc _) ⟨wr.heap.size, 0, none⟩ 1 1 [.int .i64 (n : Int), .int .i64 (jj : Int)] rfl rfl (cell_two_new _ _ _ _) (by simp [Value.oneCell']) (by decide) (by unfold maxLen; omega) (by omega) (by simp; omega) _ rfl ?_); intro g4 cap4 w4 hown4 hgrow4 hat4 hlt4))
          have hge := owns_ge hrow.out
          have hB4 : Below w.heap.size w w4 := (hB.alloc hsz _).grown hgrow4 (by simp; omega) hge
          have hown5 : Hid (w4.ownsRow w.heap.size 42 2 (.slice (some ⟨g4, 0, none⟩) (m + 1) cap4) (lksN J n ++ lkRow n (pre ++ [j])).length (cellsP (lksN J n ++ lkRow n (pre ++ [j])))) := by
            show World.ownsRow _ _ _ _ _ _ _
            rw [hsn.out, cellsP_snoc, List.length_append, hm'.out]; exact hown4
          clear hown4 hgrow4 hat4 hrow
          go_wp2
          go_roundw
          case rel => exact ⟨z, pre ++ [j], by omega, hnp, rfl, hown5, hB4⟩
          case measure => simp [intOf]; omega
    · obtain rfl : n = 64 := by omega
      obtain ⟨oa, cap, hv⟩ := owns_shape hrow.out
      subst hv
      go_wp2
      go_ret
      exact ⟨_, rfl, hrow.out, hB⟩
end
end Go.Proofs.YtegpgjiccpglbaaDoor

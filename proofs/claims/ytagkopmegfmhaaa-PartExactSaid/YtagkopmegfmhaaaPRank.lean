/- Rank and At: how many patterns stand ahead, and back. -/
import Derived.Test.YtagkopmegfmhaaaPEnds
namespace Go.Proofs.Ytagkopmegfmhaaa
open Go.RowKit
set_option maxRecDepth 100000 in
set_option maxHeartbeats 1000000 in
theorem rankP (l : List Nat) (v : Value) (w : World) (hr : RowI w v (ints l)) (hn : l.length ≤ 25) (hl : Leg 0 l) :
    Calls Try.prog 22 #[v] w fun e w' => e = .returned (.tuple #[.int .u64 ((rk 0 l : Nat) : Int), .int .i64 0]) ∧ Below w.heap.size w w' := by
  have KL := hide' (legalT l v w hr hn hl)
  obtain ⟨oa, cap, rfl, _, hc⟩ := hr
  have hc' := hide' hc
  have hl' := hide' hl
  have hmax : Hid (rk 0 l < ways l.length 0 ∧ ways l.length 0 ≤ 4638590332229999353) := ⟨rk_lt hl, ways_small (by omega)⟩
  clear hc hl
  rw [ints_len] at KL ⊢
  go_enter Try.func22, Try.ntmps22
  go_wp2_with (first | (go_at_call 23; refine (KL.out).mono ?_; rintro e w1 ⟨rfl, rfl⟩) | (go_at_call 40; refine (countEnds _).mono ?_; rintro e w2 ⟨rfl, hT, hB⟩))
  go_loop [5, 6, 15] (fun rv bv k => ∃ c r b : Nat, c ≤ l.length ∧ k = .int .i64 c ∧ rv = .int .u64 r ∧ bv = .int .i64 b ∧ Hid (b = blks 0 (l.take c)) ∧ b ≤ c ∧ Hid (r + rk b (l.drop c) = rk 0 l)) (fun _ _ k => ((l.length : Int) - intOf k).toNat)
  case atStart => exact ⟨0, 0, 0, Nat.zero_le _, rfl, rfl, rfl, rfl, Nat.le_refl _, by show _ = _; simp⟩
  case round =>
    obtain ⟨c, r, b, hc, rfl, rfl, rfl, hb, hbc, hr⟩ := hrel
    by_cases hlt : c < l.length
    · obtain ⟨x, hx⟩ : ∃ x, l[c]? = some x := ⟨_, List.getElem?_eq_getElem hlt⟩
      obtain ⟨g, o, rfl, cx0⟩ := hc'.out c x (ints_at hx)
      have cx := (hB.cell (p := ⟨g, o + c, none⟩) (cell_lt cx0)).trans cx0
      have hxl := leg_at hl'.out hx
      rw [← hb.out] at hxl
      have hN := blks_take hx
      rw [← hb.out] at hN
      have hN' : Hid ((if (b : Int) < (x : Int) + 1 then (x : Int) + 1 else (b : Int)) = ((blks 0 (l.take (c + 1)) : Nat) : Int)) := by show _ = _; rw [hN]; split <;> omega
      have hb2 : Hid (blks 0 (l.take (c + 1)) ≤ c + 1) := by show _ ≤ _; rw [hN]; omega
      obtain ⟨m, hm⟩ : ∃ m, l.length = c + 1 + m := ⟨l.length - (c + 1), by omega⟩
      have hD := drop_at hx
      have hdl : (l.drop (c + 1)).length = m := by rw [List.length_drop]; omega
      have hr2 := hr.out
      rw [hD, rk, hdl, ← hN] at hr2
      obtain ⟨h1, h2⟩ := hmax.out
      have hcell := hT.cell (i := m * 26 + b) (by omega)
      rw [tab_at (by omega) (by omega)] at hcell
      have hix : (l.length : Int) - 1 - (c : Int) = (m : Int) := by omega
      generalize hW : ways m b = W at *
      have hwx : r + x * W ≤ 4638590332229999353 := by omega
      have hm1 : IntKind.u64.wrap ((x : Int) * (W : Int)) = ((x * W : Nat) : Int) := by
        rw [show (x : Int) * (W : Int) = ((x * W : Nat) : Int) by simp]
        generalize x * W = p at hwx
        simp only [IntKind.wrap, IntKind.bits, IntKind.signed]; simp; omega
      have hm2 : IntKind.u64.wrap ((r : Int) + ((x * W : Nat) : Int)) = ((r + x * W : Nat) : Int) := by
        generalize x * W = p at hwx
        simp only [IntKind.wrap, IntKind.bits, IntKind.signed]; simp; omega
      have hR : Hid ((r + x * W) + rk (blks 0 (l.take (c + 1))) (l.drop (c + 1)) = rk 0 l) := by show _ = _; omega
      generalize hq : blks 0 (l.take (c + 1)) = q at *
      have hq' := hide' hq
      clear hr2 hN hD hdl hx cx0 h1 h2 hq hm hr
      generalize hrs : r + x * W = s at *
      generalize x * W = p at *
      generalize hn' : l.length = n at *
      go_wp2
      go_round
      case rel => exact ⟨c + 1, s, q, by omega, by go_num, rfl, by rw [hN'.out], hq'.out.symm, hb2.out, hR⟩
      case measure => simp [intOf]; omega
    · obtain rfl : c = l.length := by omega
      have e : Hid (r = rk 0 l) := by
        show _ = _
        have := hr.out
        rwa [List.drop_length, rk, Nat.add_zero] at this
      go_wp2
      exact bodyPost_ret (v := .tuple #[.int .u64 (r : Int), .int .i64 0]) (by simp [results, Try.results22, go_sem]) rfl ⟨by rw [e.out], hB⟩
set_option maxRecDepth 100000 in
set_option maxHeartbeats 1000000 in
theorem atP (n r0 : Nat) (hn : n ≤ 25) (hr0 : r0 < ways n 0) (w : World) :
    Calls Try.prog 16 #[.int .i64 n, .int .u64 r0] w fun e w' => ∃ g, e = .returned (.tuple #[.slice (some ⟨g, 0, none⟩) n n, .int .i64 0]) ∧ w'.ownsRow w.heap.size 3 1 (.slice (some ⟨g, 0, none⟩) n n) n (cellsI (ints (rowAt n 0 r0))) ∧ Below w.heap.size w w' := by
  obtain ⟨i0, hi, hz0, hz1, hz2⟩ := info_parts info3
  have KB := hide' (bellP n hn)
  have hmax := ways_small (l := n) (b := 0) (by omega)
  have Hr := hide' hr0
  generalize hb0 : ways n 0 = bell at *
  go_enter Try.func16, Try.ntmps16
  go_wp2_with (first | (go_at_call 13; refine (KB.out _).mono ?_; rintro e w1 ⟨rfl, hB1⟩) | (go_at_call 40; refine (countEnds _).mono ?_; rintro e w2 ⟨rfl, hT, hB⟩) | (at_make; refine wpList_make_full _ rfl _ _ 22 rfl w.heap.size 3 i0 (.int .i64 0) 1 Try.underlying22 hi hz0 hz1 .i64 .i64 _ _ n rfl rfl rfl rfl (by rw [hz2]; omega) (by unfold maxLen; omega) (by have := hB1.size; have := hB.size; omega) ?_; intro w3 hrow hgrow))
  have s12 := hB.size
  have s01 := hB1.size
  have htb := hT.lt
  have hr1 : w3.ownsRow w.heap.size 3 1 (.slice (some ⟨w2.heap.size, 0, none⟩) n n) n (cellsI (ints []) ++ List.replicate (n - 0) (.int .i64 0)) := by
    have h := hrow
    rw [show (Value.int .i64 0).cells = #[.int .i64 0] from rfl, toList_madeCells_one, Nat.mul_one] at h
    simpa [cellsI, ints] using h
  have hT3 : w3.rowIs w1.heap.size 67 676 (tabV 26 0) := hT.of_block (hgrow.block _ htb (by simp))
  have hB3 : Below w.heap.size w w3 := (hB1.trans (hB.mono s01)).grown hgrow (by omega) (fun j ej => by cases ej)
  clear hrow hgrow hT
  go_loopw [1, 10, 31] (fun rv bv k wr => ∃ (c r b : Nat) (dn : List Nat), c ≤ n ∧ k = .int .i64 c ∧ rv = .int .u64 r ∧ bv = .int .i64 b ∧ b ≤ c ∧ r ≤ r0 ∧ dn.length = c ∧ Hid (rowAt n 0 r0 = dn ++ rowAt (n - c) b r) ∧ wr.rowIs w1.heap.size 67 676 (tabV 26 0) ∧ wr.ownsRow w.heap.size 3 1 (.slice (some ⟨w2.heap.size, 0, none⟩) n n) n (cellsI (ints dn) ++ List.replicate (n - c) (.int .i64 0)) ∧ Below w.heap.size w wr) (fun _ _ k _ => ((n : Int) - intOf k).toNat)
  case atStart => exact ⟨0, r0, 0, [], Nat.zero_le _, rfl, rfl, rfl, Nat.le_refl _, Nat.le_refl _, rfl, rfl, hT3, hr1, hB3⟩
  case round =>
    clear hT3 hr1 hB3
    obtain ⟨c, r, b, dn, hc, rfl, rfl, rfl, hbc, hrr, hdn, hE, hT, hrow, hW⟩ := hrel
    by_cases hlt : c < n
    · obtain ⟨m, hm⟩ : ∃ m, n = c + 1 + m := ⟨n - (c + 1), by omega⟩
      have hE2 := hE.out
      rw [show n - c = m + 1 by omega, rowAt] at hE2
      have hcell := hT.cell (i := m * 26 + b) (by omega)
      rw [tab_at (by omega) (by omega)] at hcell
      have hWp := ways_pos m b
      have hpl : (cellsI (ints dn)).length = c := by simp [cellsI, ints, hdn]
      have hS := fun u => set_mid (cellsI (ints dn)) c n u (.int .i64 0) hpl hlt
      have cz : wr.cell? ⟨w2.heap.size, c, none⟩ = some (.int .i64 0) := by
        rw [hrow.cellAt c (by omega), List.getElem?_append_right (by omega), hpl, Nat.sub_self, List.getElem?_replicate, if_pos (by omega)]
      have fz := hrow.frozenAt c
      have hix : (n : Int) - 1 - (c : Int) = (m : Int) := by omega
      generalize hWe : ways m b = W at *
      obtain ⟨q, hq⟩ : ∃ q, r / W = q := ⟨_, rfl⟩
      have hqi : (r : Int) / (W : Int) = (q : Int) := by rw [← hq]; simp
      have hql : q ≤ r := by rw [← hq]; exact Nat.div_le_self r W
      have hW0 : ((W : Int) == 0) = false := by simp; omega
      obtain ⟨x, hx⟩ : ∃ x, min q b = x := ⟨_, rfl⟩
      rw [hq, hx] at hE2
      have hxW : x * W ≤ r := by
        have h1 : x * W ≤ q * W := Nat.mul_le_mul_right W (by omega)
        have h2 : q * W ≤ r := by rw [← hq]; exact Nat.div_mul_le_self r W
        omega
      have hrl : r ≤ 4638590332229999353 := by have := Hr.out; omega
      have hm1 : IntKind.u64.wrap ((x : Int) * (W : Int)) = ((x * W : Nat) : Int) := by
        rw [show (x : Int) * (W : Int) = ((x * W : Nat) : Int) by simp]
        generalize x * W = p at hxW
        simp only [IntKind.wrap, IntKind.bits, IntKind.signed]; simp; omega
      have hm2 : IntKind.u64.wrap ((r : Int) - ((x * W : Nat) : Int)) = ((r - x * W : Nat) : Int) := by
        generalize x * W = p at hxW
        simp only [IntKind.wrap, IntKind.bits, IntKind.signed]; simp; omega
      have hr' : r - x * W ≤ r0 := by omega
      have hNb : Hid ((if (b : Int) < (x : Int) + 1 then (x : Int) + 1 else (b : Int)) = ((max b (x + 1) : Nat) : Int)) := by show _ = _; split <;> omega
      have hE3 : Hid (rowAt n 0 r0 = (dn ++ [x]) ++ rowAt (n - (c + 1)) (max b (x + 1)) (r - x * W)) := by
        show _ = _
        rw [hE2, show n - (c + 1) = m by omega]; simp
      have hrs := hide' (fun z : Int => (hrow.stored c (.int .i64 z)).1)
      have hcs := cellsI_snoc dn x
      clear hE2 hE hm hWe hq
      generalize r - x * W = r' at *
      generalize x * W = p at *
      by_cases hqb : q < b
      · have hxq : x = q := by omega
        subst hxq
        clear hx
        have hmx : max b (x + 1) = b := by omega
        rw [hmx] at hE3
        clear hNb hmx
        go_wp2
        refine ⟨⟨c + 1, r', b, dn ++ [x], by omega, by go_num, rfl, rfl, by omega, by omega, by simp [hdn], hE3, hT.setOther (by show w1.heap.size ≠ w2.heap.size; omega) _, ?_, hW.setCell (by show w.heap.size ≤ w2.heap.size; omega) _⟩, by simp [intOf]; omega⟩
        have h4 := hrs.out (x : Int)
        rw [hS] at h4
        rw [hcs]; exact h4
      · have hxq : x = b := by omega
        subst hxq
        clear hx
        have hmx : max x (x + 1) = x + 1 := by omega
        have hwq : IntKind.u64.wrap (q : Int) = (q : Int) := by
          simp only [IntKind.wrap, IntKind.bits, IntKind.signed]; simp; omega
        have hmin : (if x < q then (x : Int) else (q : Int)) = (x : Int) := by split <;> omega
        rw [hmx] at hE3
        clear hNb hmx
        go_wp2
        refine ⟨⟨c + 1, r', x + 1, dn ++ [x], by omega, by go_num, rfl, by go_num, by omega, by omega, by simp [hdn], hE3, hT.setOther (by show w1.heap.size ≠ w2.heap.size; omega) _, ?_, hW.setCell (by show w.heap.size ≤ w2.heap.size; omega) _⟩, by simp [intOf]; omega⟩
        have h4 := hrs.out (x : Int)
        rw [hS] at h4
        rw [hcs]; exact h4
    · obtain rfl : c = n := by omega
      have e : Hid (rowAt c 0 r0 = dn) := by
        show _ = _
        have := hE.out
        rwa [Nat.sub_self, rowAt, List.append_nil] at this
      rw [Nat.sub_self, List.replicate_zero, List.append_nil] at hrow
      clear hE
      go_wp2
      exact bodyPost_ret (v := .tuple #[.slice (some ⟨w2.heap.size, 0, none⟩) c c, .int .i64 0]) (by simp [results, Try.results16, go_sem]) rfl ⟨_, rfl, by rw [e.out]; exact hrow, hW⟩
end Go.Proofs.Ytagkopmegfmhaaa

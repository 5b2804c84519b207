/- All of a set of eight bits: the body is told which number comes. -/
import Derived.Test.YthjgbnehoiafhaaDoorNestL
namespace Go.Proofs.YthjgbnehoiafhaaDoor
open Go.RowKit Go.Shelf
attribute [local go_sem] Oper.semAt_some
set_option maxRecDepth 100000 in
set_option maxHeartbeats 1000000 in
theorem all_seqL (n Bn x : Nat) (hx : x < 18446744073709551616) (w : World) (hBn : Bn < w.heap.size) (ht : Tab w) (hc : w.cell? ⟨Bn, 0, none⟩ = some (.int .u64 x)) :
    SeqL n Tryd.prog 54 #[.pointer (some ⟨Bn, 0, none⟩)] (fun k : Fin 64 => #[.int .i64 (k.val : Int)]) (KpB Bn) (nums x) w := fun l J Jx W hW hJ _ hY h0 => by
  replace hc := (hW.cell (p := ⟨Bn, 0, none⟩) hBn).trans hc
  replace hBn := Nat.lt_of_lt_of_le hBn hW.size
  replace ht := ht.over hW
  refine callsIn_of_wp Tryd.func54 rfl trivial ?_ rfl
  simp only [Tryd.ntmps54, List.size_toArray, List.length_cons, List.length_nil, Nat.reduceAdd, Nat.reduceSub, Array.replicate_succ, Array.replicate_zero, List.push_toArray, List.append_toArray, List.nil_append, List.cons_append]
  gi_wp2_with (refine ⟨trivial, fun h => absurd h (by decide), ?_⟩; gi_at_call 55; refine (callsIn_wide.2 (low64 x hx _ ht)).mono ?_; rintro e w1 ⟨rfl, hb⟩)
  have ht1 : Tab w1 := ht.over hb
  have hc1 : w1.cell? ⟨Bn, 0, none⟩ = some (.int .u64 x) := (hb.cell (p := ⟨Bn, 0, none⟩) hBn).trans hc
  have h01 : J [] w1 := hJ _ _ _ none h0 (grown_none hb) (fun r e => by cases e)
  gi_loopw [3] (fun p wr => ∃ (pre rest : List (Fin 64)) (z : Int), p = .int .i64 z ∧ Hid (z = lowI rest) ∧ Hid (nums x = pre ++ rest) ∧ Tab wr ∧ Bn < wr.heap.size ∧ wr.cell? ⟨Bn, 0, none⟩ = some (.int .u64 x) ∧ J pre wr) (fun p _ => leftI p)
  case atStart =>
    exact ⟨[], nums x, _, rfl, rfl, rfl, ht1, Nat.lt_of_lt_of_le hBn hb.size, hc1, h01⟩
  case round =>
    obtain ⟨pre, rest, z, rfl, hz, hp, htr, hBr, hcr, hJs⟩ := hrel
    cases rest with
    | nil =>
      have e1 : z < 0 := by rw [hz.out]; decide
      gi_wp2
      go_end0
      exact ⟨⟨_, rfl⟩, .inl (by rw [hp.out]; simpa using hJs)⟩
    | cons k rest =>
      have e1 : 0 ≤ z := by rw [hz.out]; exact Int.natCast_nonneg _
      have e2 : z < 64 := by rw [hz.out]; show (k.val : Int) < 64; omega
      obtain ⟨fn, tmps, assign, body, hy, hR⟩ := hY pre k wr hJs ⟨rest, by rw [hp.out]; simp⟩
      rw [show (k.val : Int) = z from hz.out.symm] at hy
      gi_wp2
      refine ⟨fun h => absurd h (by decide), hR.mono ?_⟩
      rintro e W3 (⟨rfl, hJ3, hk3, _⟩ | ⟨rfl, hJx3, _⟩)
      · have ht3 : Tab W3 := hk3.2 htr
        have hc3 : W3.cell? ⟨Bn, 0, none⟩ = some (.int .u64 x) := hk3.1.trans hcr
        have hB3 : Bn < W3.heap.size := cell_lt hc3
        gi_wp2_with (refine ⟨trivial, fun h => absurd h (by decide), ?_⟩; gi_at_call 56; refine (callsIn_wide.2 (next64 x hx _ _ ht3)).mono ?_; rintro e w4 ⟨rfl, hb4⟩)
        go_roundw
        case rel => exact ⟨pre ++ [k], rest, _, rfl, by rw [hz.out]; exact congrArg lowI (from_snoc (sorted_nums x) hp.out), by show nums x = _; rw [hp.out]; simp, ht3.over hb4, Nat.lt_of_lt_of_le hB3 hb4.size, (hb4.cell (p := ⟨Bn, 0, none⟩) hB3).trans hc3, hJ _ _ _ none hJ3 (grown_none hb4) (fun r e => by cases e)⟩
        case measure =>
          rw [hz.out, show lowI (k :: rest) = (k.val : Int) from rfl, from_snoc (j := k) (sorted_nums x) hp.out]
          exact leftI_lt (sorted_nums x) hp.out
      · gi_wp2
        refine bodyPost_ret (results_none rfl _ _ _) rfl ?_
        exact ⟨⟨_, rfl⟩, .inr ⟨pre ++ [k], ⟨rest, by rw [hp.out]; simp⟩, hJx3⟩⟩
end Go.Proofs.YthjgbnehoiafhaaDoor

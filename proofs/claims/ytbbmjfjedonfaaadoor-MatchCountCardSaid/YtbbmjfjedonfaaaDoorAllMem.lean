/- All, where the body is told that the number is one of the set's. -/
import Derived.Test.YtbbmjfjedonfaaaDoorAll
namespace Go.Proofs.YtbbmjfjedonfaaaDoor
open Go.RowKit Go.Shelf
attribute [local go_sem] Oper.semAt_some
set_option maxRecDepth 100000 in
set_option maxHeartbeats 1000000 in
theorem all1M_64 (n l Bn : Nat) (x : Nat) (hx : x < 18446744073709551616) (J Jx : List (Fin 64) → World → Prop)
    (hY : ∀ pre (k : Fin 64) W, J pre W → pre.length < (nums x).length → k ∈ nums x → YieldAt Fence.wide (n - 1) Tryd.prog l #[.int .i64 (k.val : Int)] W fun e W' =>
      (e = .returned (.bool true) ∧ J (pre ++ [k]) W' ∧ KpB Bn W W') ∨ (e = .returned (.bool false) ∧ Jx (pre ++ [k]) W'))
    (W : World) (hBn : Bn < W.heap.size) (hJ : AbidesFrom W.heap.size J) (ht : Tab W) (hc : W.cell? ⟨Bn, 0, none⟩ = some (.int .u64 x)) (h0 : J [] W) :
    CallsIn Fence.wide n Tryd.prog 43 #[.func (.yield l) #[] #[], .pointer (some ⟨Bn, 0, none⟩)] W fun e W' => (∃ v, e = .returned v) ∧
      ((∃ ys, ys = nums x ∧ J ys W') ∨ (∃ pre, pre <+: nums x ∧ Jx pre W')) := by
  refine callsIn_of_wp Tryd.func43 rfl trivial ?_ rfl
  simp only [Tryd.ntmps43, List.size_toArray, List.length_cons, List.length_nil, Nat.reduceAdd, Nat.reduceSub, Array.replicate_succ, Array.replicate_zero, List.push_toArray, List.append_toArray, List.nil_append, List.cons_append]
  gi_wp2_with (refine ⟨trivial, fun h => absurd h (by decide), ?_⟩; gi_at_call 24; refine (callsIn_wide.2 (low64 x hx _ ht)).mono ?_; rintro e w1 ⟨rfl, hb⟩)
  have ht1 : Tab w1 := ht.over hb
  have hc1 : w1.cell? ⟨Bn, 0, none⟩ = some (.int .u64 x) := (hb.cell (p := ⟨Bn, 0, none⟩) hBn).trans hc
  have h01 : J [] w1 := hJ _ _ _ none h0 (grown_none hb) (fun r e => by cases e)
  gi_loopw [3] (fun p wr => ∃ (pre rest : List (Fin 64)) (z : Int), p = .int .i64 z ∧ Hid (z = lowI rest) ∧ Hid (nums x = pre ++ rest) ∧ Tab wr ∧ Bn < wr.heap.size ∧ wr.cell? ⟨Bn, 0, none⟩ = some (.int .u64 x) ∧ J pre wr) (fun p _ => leftI p)
  case atStart =>
    exact ⟨[], nums x, _, rfl, rfl, rfl, ht1, Nat.lt_of_lt_of_le hBn hb.size, hc1, h01⟩
  case round =>
    obtain ⟨pre, rest, z, rfl, hz, hp, htr, hBr, hcr, hJs⟩ := hrel
    cases rest with
    | nil =>
      have e1 : z < 0 := by rw [hz.out]; decide
      gi_wp2
      go_end0
      exact ⟨⟨_, rfl⟩, .inl ⟨pre, by rw [hp.out]; simp, hJs⟩⟩
    | cons k rest =>
      have e1 : 0 ≤ z := by rw [hz.out]; exact Int.natCast_nonneg _
      have e2 : z < 64 := by rw [hz.out]; show (k.val : Int) < 64; omega
      obtain ⟨fn, tmps, assign, body, hy, hR⟩ := hY pre k wr hJs (by rw [hp.out]; simp) (by rw [hp.out]; simp)
      rw [show (k.val : Int) = z from hz.out.symm] at hy
      gi_wp2
      refine ⟨fun h => absurd h (by decide), hR.mono ?_⟩
      rintro e W3 (⟨rfl, hJ3, hk3⟩ | ⟨rfl, hJx3⟩)
      · have ht3 : Tab W3 := hk3.2 htr
        have hc3 : W3.cell? ⟨Bn, 0, none⟩ = some (.int .u64 x) := hk3.1.trans hcr
        have hB3 : Bn < W3.heap.size := cell_lt hc3
        gi_wp2_with (refine ⟨trivial, fun h => absurd h (by decide), ?_⟩; gi_at_call 44; refine (callsIn_wide.2 (next64 x hx _ _ ht3)).mono ?_; rintro e w4 ⟨rfl, hb4⟩)
        go_roundw
        case rel => exact ⟨pre ++ [k], rest, _, rfl, by rw [hz.out]; exact congrArg lowI (from_snoc (sorted_nums x) hp.out), by show nums x = _; rw [hp.out]; simp, ht3.over hb4, Nat.lt_of_lt_of_le hB3 hb4.size, (hb4.cell (p := ⟨Bn, 0, none⟩) hB3).trans hc3, hJ _ _ _ none hJ3 (grown_none hb4) (fun r e => by cases e)⟩
        case measure =>
          rw [hz.out, show lowI (k :: rest) = (k.val : Int) from rfl, from_snoc (j := k) (sorted_nums x) hp.out]
          exact leftI_lt (sorted_nums x) hp.out
      · gi_wp2
        refine bodyPost_ret (results_none rfl _ _ _) rfl ?_
        exact ⟨⟨_, rfl⟩, .inr ⟨pre ++ [k], ⟨rest, by rw [hp.out]; simp⟩, hJx3⟩⟩
/-- The numbers of a set. -/
abbrev In (x : Nat) := { k : Fin 64 // k ∈ nums x }
/-- The plain row of them. -/
def plain {x : Nat} (l : List (In x)) : List (Fin 64) := l.map (·.val)
theorem plain_snoc {x : Nat} (l : List (In x)) (k : In x) : plain (l ++ [k]) = plain l ++ [k.val] := by simp [plain]
theorem all_mem (n Bn x : Nat) (hx : x < 18446744073709551616) (w : World) (hBn : Bn < w.heap.size) (ht : Tab w) (hc : w.cell? ⟨Bn, 0, none⟩ = some (.int .u64 x)) :
    SeqStopsK Fence.wide n Tryd.prog 43 #[.pointer (some ⟨Bn, 0, none⟩)] (fun k : In x => #[.int .i64 (k.val.val : Int)]) (KpB Bn) (fun ys => plain ys = nums x) (fun pre => plain pre <+: nums x) (nums x).length w := fun l J Jx W hW hJ _ hY h0 => by
  refine (all1M_64 n l Bn x hx (fun pre V => ∃ p : List (In x), plain p = pre ∧ J p V) (fun pre V => ∃ p : List (In x), plain p = pre ∧ Jx p V) ?_ W (Nat.lt_of_lt_of_le hBn hW.size) ?_ (ht.over hW) ((hW.cell (p := ⟨Bn, 0, none⟩) hBn).trans hc) ⟨[], rfl, h0⟩).mono ?_
  · rintro pre k V ⟨p, rfl, hj⟩ hlt hk
    obtain ⟨fn, tmps, assign, body, hy, hR⟩ := hY p ⟨k, hk⟩ V hj (by simpa [plain] using hlt)
    refine ⟨fn, tmps, assign, body, hy, hR.mono ?_⟩
    rintro e V' (⟨he, h1, h2⟩ | ⟨he, h1⟩)
    · exact .inl ⟨he, ⟨_, plain_snoc p ⟨k, hk⟩, h1⟩, h2⟩
    · exact .inr ⟨he, ⟨_, plain_snoc p ⟨k, hk⟩, h1⟩⟩
  · rintro s X Y row ⟨p, hp, hj⟩ hg hr
    exact ⟨p, hp, hJ p X Y row hj hg hr⟩
  · rintro e V ⟨hv, (⟨ys, hys, p, hp, hj⟩ | ⟨pre, hpre, p, hp, hj⟩)⟩
    · exact ⟨hv, .inl ⟨p, hp.trans hys, hj⟩⟩
    · exact ⟨hv, .inr ⟨p, by show plain p <+: nums x; rw [hp]; exact hpre, hj⟩⟩
end Go.Proofs.YtbbmjfjedonfaaaDoor

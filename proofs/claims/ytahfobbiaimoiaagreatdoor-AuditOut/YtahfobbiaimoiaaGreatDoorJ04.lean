/- Down: what it answers. -/
import Derived.Test.YtahfobbiaimoiaaGreatDoorJ01
import Derived.Test.YtahfobbiaimoiaaGreatDoorJ03
import Derived.RangeFuncNested
import Derived.RangeFuncBound
import Derived.RangeFuncCalls
import Derived.RangeFuncLeaves
import Derived.RangeFuncBox
import Derived.Shelf.Abstract
import Derived.Shelf.RegionOpen
import Derived.OwnWalkIn
import Derived.TacticsInMore
import Derived.LoopNIn
import Derived.LoopIn
import Derived.Maps.AppendAt
import Derived.Deep.RegionHeld3
namespace Go.Proofs.YtahfobbiaimoiaaGreatDoor.O
open Go.RowKit Go.Shelf
attribute [local go_sem] Oper.semAt_some

theorem grown_none {W w1 : World} (h : Below W.heap.size W w1) : W.grownBy w1 none := ⟨h.os, h.tape, h.output, h.size, fun k hk _ => h.block k hk⟩
/-- What a round that goes on keeps: the set's box, and the library's table. -/
def KpB (Bn : Nat) (W W' : World) : Prop := W'.cell? ⟨Bn, 0, none⟩ = W.cell? ⟨Bn, 0, none⟩ ∧ (Tab W → Tab W')
theorem KpB.t {Bn : Nat} {A B C : World} (h : KpB Bn A B) (k : KpB Bn B C) : KpB Bn A C := ⟨k.1.trans h.1, fun a => k.2 (h.2 a)⟩
theorem KpB.of_below {Bn n : Nat} {A B : World} (h : Below n A B) (h1 : Bn < n) (h2 : 1 ≤ n) : KpB Bn A B := ⟨h.cell (p := ⟨Bn, 0, none⟩) h1, fun a => a.below h2 h⟩
theorem KpB.b {Bn : Nat} {w : World} (h1 : Bn < w.heap.size) (h2 : 1 ≤ w.heap.size) (W : World) (l : Nat) (o o' : Obj) (hl : w.heap.size ≤ l) (h : W.heap[l]? = some o) (a : o.isCells = false) (b : o.isWalk = false) : KpB Bn W (W.putObj l o') :=
  KpB.of_below (belowK_b (n₀ := w.heap.size) (Nat.le_refl _) W l o o' hl h a b) h1 h2

theorem cell_lt {W : World} {b o : Nat} {v : Value} (h : W.cell? ⟨b, o, none⟩ = some v) : b < W.heap.size := by
  rcases Nat.lt_or_ge b W.heap.size with h1 | h1
  · exact h1
  · have : W.heap[b]? = none := Array.getElem?_eq_none h1
    simp [World.cell?, this] at h
/-- How far a loop over numbers still can go. -/
def leftZ (i : Int) : Nat := if i < 0 then 0 else 64 - i.toNat
def leftI (p : Value) : Nat := leftZ (intOf p)
theorem leftI_int (i : Int) : leftI (.int .i64 i) = leftZ i := rfl
theorem leftI_lt {pre rest : List (Fin 64)} {j : Fin 64} {l : List (Fin 64)} (hs : l.Pairwise (· < ·)) (h : l = pre ++ j :: rest) : leftI (.int .i64 (lowI rest)) < leftI (.int .i64 (j.val : Int)) := by
  rw [leftI_int, leftI_int]
  have hj : leftZ (j.val : Int) = 64 - j.val := by unfold leftZ; rw [if_neg (by omega)]; omega
  rw [hj]
  cases rest with
  | nil => show 0 < _; omega
  | cons k r =>
    subst h
    rw [List.pairwise_append] at hs
    have : j.val < k.val := (List.pairwise_cons.1 hs.2.1).1 k (by simp)
    have hk : leftZ (lowI (k :: r)) = 64 - k.val := by show leftZ (k.val : Int) = _; unfold leftZ; rw [if_neg (by omega)]; omega
    rw [hk]; omega
set_option maxRecDepth 100000 in
set_option maxHeartbeats 1000000 in
theorem all1_64 (n l Bn : Nat) (x : Nat) (hx : x < 18446744073709551616) (J Jx : List (Fin 64) → World → Prop)
    (hY : ∀ pre (k : Fin 64) W, J pre W → pre.length < (nums x).length → YieldAt Fence.wide (n - 1) Tryz.prog l #[.int .i64 (k.val : Int)] W fun e W' =>
      (e = .returned (.bool true) ∧ J (pre ++ [k]) W' ∧ KpB Bn W W') ∨ (e = .returned (.bool false) ∧ Jx (pre ++ [k]) W'))
    (W : World) (hBn : Bn < W.heap.size) (hJ : AbidesFrom W.heap.size J) (ht : Tab W) (hc : W.cell? ⟨Bn, 0, none⟩ = some (.int .u64 x)) (h0 : J [] W) :
    CallsIn Fence.wide n Tryz.prog 124 #[.func (.yield l) #[] #[], .pointer (some ⟨Bn, 0, none⟩)] W fun e W' => (∃ v, e = .returned v) ∧
      ((∃ ys, ys = nums x ∧ J ys W') ∨ (∃ pre, pre <+: nums x ∧ Jx pre W')) := by
  refine callsIn_of_wp Tryz.func124 rfl trivial ?_ rfl
  simp only [Tryz.ntmps124, List.size_toArray, List.length_cons, List.length_nil, Nat.reduceAdd, Nat.reduceSub, Array.replicate_succ, Array.replicate_zero, List.push_toArray, List.append_toArray, List.nil_append, List.cons_append]
  gi_wp2_with (refine ⟨trivial, fun h => absurd h (by decide), ?_⟩; gi_at_call 125; refine (callsIn_wide.2 (low64 x hx _ ht)).mono ?_; rintro e w1 ⟨rfl, hb⟩)
  have ht1 : Tab w1 := ht.over hb
  have hc1 : w1.cell? ⟨Bn, 0, none⟩ = some (.int .u64 x) := (hb.cell (p := ⟨Bn, 0, none⟩) hBn).trans hc
  have h01 : J [] w1 := hJ _ _ _ none h0 (grown_none hb) (fun r e => by cases e)
  gi_loopw [3] (fun p wr => ∃ (pre rest : List (Fin 64)) (z : Int), p = .int .i64 z ∧ Hid (z = lowI rest) ∧ Hid (nums x = pre ++ rest) ∧ Tab wr ∧ Bn < wr.heap.size ∧ wr.cell? ⟨Bn, 0, none⟩ = some (.int .u64 x) ∧ J pre wr) (fun p _ => leftI p)
  case atStart =>
    exact ⟨[], nums x, _, rfl, rfl, rfl, ht1, Nat.lt_of_lt_of_le hBn hb.size, hc1, h01⟩
  case round =>
    obtain ⟨pre, rest, z, rfl, hz, hp, htr, hBr, hcr, hJs⟩ := hrel
    cases rest with
    | nil =>
      have e1 : z < 0 := by rw [hz.out]; decide
      gi_wp2
      go_end0
      exact ⟨⟨_, rfl⟩, .inl ⟨pre, by rw [hp.out]; simp, hJs⟩⟩
    | cons k rest =>
      have e1 : 0 ≤ z := by rw [hz.out]; exact Int.natCast_nonneg _
      have e2 : z < 64 := by rw [hz.out]; show (k.val : Int) < 64; omega
      obtain ⟨fn, tmps, assign, body, hy, hR⟩ := hY pre k wr hJs (by rw [hp.out]; simp)
      rw [show (k.val : Int) = z from hz.out.symm] at hy
      gi_wp2
      refine ⟨fun h => absurd h (by decide), hR.mono ?_⟩
      rintro e W3 (⟨rfl, hJ3, hk3⟩ | ⟨rfl, hJx3⟩)
      · have ht3 : Tab W3 := hk3.2 htr
        have hc3 : W3.cell? ⟨Bn, 0, none⟩ = some (.int .u64 x) := hk3.1.trans hcr
        have hB3 : Bn < W3.heap.size := cell_lt hc3
        gi_wp2_with (refine ⟨trivial, fun h => absurd h (by decide), ?_⟩; gi_at_call 126; refine (callsIn_wide.2 (next64 x hx _ _ ht3)).mono ?_; rintro e w4 ⟨rfl, hb4⟩)
        go_roundw
        case rel => exact ⟨pre ++ [k], rest, _, rfl, by rw [hz.out]; exact congrArg lowI (from_snoc (sorted_nums x) hp.out), by show nums x = _; rw [hp.out]; simp, ht3.over hb4, Nat.lt_of_lt_of_le hB3 hb4.size, (hb4.cell (p := ⟨Bn, 0, none⟩) hB3).trans hc3, hJ _ _ _ none hJ3 (grown_none hb4) (fun r e => by cases e)⟩
        case measure =>
          rw [hz.out, show lowI (k :: rest) = (k.val : Int) from rfl, from_snoc (j := k) (sorted_nums x) hp.out]
          exact leftI_lt (sorted_nums x) hp.out
      · gi_wp2
        refine bodyPost_ret (results_none rfl _ _ _) rfl ?_
        exact ⟨⟨_, rfl⟩, .inr ⟨pre ++ [k], ⟨rest, by rw [hp.out]; simp⟩, hJx3⟩⟩
set_option maxHeartbeats 1000000 in
theorem all64 (x : Int) (w : World) :
    Calls Tryz.prog 93 #[.agg #[.int .u64 x]] w fun e w' => e = .returned (.func (.func 124) #[] #[.pointer (some ⟨w.heap.size, 0, none⟩)]) ∧ w' = w.alloc (.cells #[.int .u64 x] 136) := by
  go_enter Tryz.func93, Tryz.ntmps93
  go_wp2
  go_ret
  exact ⟨rfl, rfl⟩
theorem all_stops64 (n Bn x : Nat) (hx : x < 18446744073709551616) (w : World) (hBn : Bn < w.heap.size) (ht : Tab w) (hc : w.cell? ⟨Bn, 0, none⟩ = some (.int .u64 x)) :
    SeqStopsK Fence.wide n Tryz.prog 124 #[.pointer (some ⟨Bn, 0, none⟩)] (fun k : Fin 64 => #[.int .i64 (k.val : Int)]) (KpB Bn) (fun ys => ys = nums x) (fun pre => pre <+: nums x) (nums x).length w := fun l J Jx W hW hJ _ hY h0 =>
  all1_64 n l Bn x hx J Jx hY W (Nat.lt_of_lt_of_le hBn hW.size) hJ (ht.over hW) ((hW.cell (p := ⟨Bn, 0, none⟩) hBn).trans hc) h0
end Go.Proofs.YtahfobbiaimoiaaGreatDoor.O
namespace Go.Proofs.YtahfobbiaimoiaaGreatDoor.O
open Go.RowKit Go.Shelf
/-- An order as it lies. -/
structure OrdAt (W : World) (go gp gs n : Nat) (Pf Sf : Nat → Nat) : Prop where
  o0 : W.cell? ⟨go, 0, none⟩ = some (.slice (some ⟨gp, 0, none⟩) n n)
  o1 : W.cell? ⟨go, 1, none⟩ = some (.slice (some ⟨gs, 0, none⟩) n n)
  pc : ∀ i : Nat, i < n → W.cell? ⟨gp, i, none⟩ = some (.int .u64 (Pf i : Int))
  sc : ∀ i : Nat, i < n → W.cell? ⟨gs, i, none⟩ = some (.int .u64 (Sf i : Int))
theorem cell_over {W W' : World} {b i : Nat} {v : Value} (h : W.cell? ⟨b, i, none⟩ = some v) (hb : Below W.heap.size W W') : W'.cell? ⟨b, i, none⟩ = some v := (hb.cell (p := ⟨b, i, none⟩) (cell_lt h)).trans h
theorem OrdAt.over {W W' : World} {go gp gs n : Nat} {Pf Sf : Nat → Nat} (h : OrdAt W go gp gs n Pf Sf) (hb : Below W.heap.size W W') : OrdAt W' go gp gs n Pf Sf :=
  ⟨cell_over h.o0 hb, cell_over h.o1 hb, fun i hi => cell_over (h.pc i hi) hb, fun i hi => cell_over (h.sc i hi) hb⟩
theorem hide' {p : Prop} (h : p) : Hid p := h
theorem shlc (i : Nat) (hi : i < 64) : IntKind.u64.wrap (2 ^ i) = ((2 ^ i : Nat) : Int) := by
  have h := shl64 i hi
  rwa [show IntKind.u64.wrap 1 = 1 by decide, Int.one_mul] at h
set_option maxHeartbeats 400000 in
theorem within (a n : Int) (w : World) :
    Calls Tryz.prog 108 #[.int .i64 a, .int .i64 n] w fun e w' => e = .returned (.bool (decide (0 ≤ a ∧ a < n))) ∧ w' = w := by
  by_cases h0 : 0 ≤ a
  · go_enter Tryz.func108, Tryz.ntmps108
    go_wp2
    go_ret
    exact ⟨ret_bool (by simp [h0]), rfl⟩
  · have hd : decide (0 ≤ a) = false := by simpa using h0
    go_enter Tryz.func108, Tryz.ntmps108
    go_wp2
    go_ret
    exact ⟨ret_bool (by simp), rfl⟩
theorem withinT {a n : Int} (h : 0 ≤ a ∧ a < n) (w : World) :
    Calls Tryz.prog 108 #[.int .i64 a, .int .i64 n] w fun e w' => e = .returned (.bool true) ∧ w' = w := (within a n w).mono fun _ _ h' => by rw [decide_eq_true h] at h'; exact h'
theorem withinF {a n : Int} (h : ¬ (0 ≤ a ∧ a < n)) (w : World) :
    Calls Tryz.prog 108 #[.int .i64 a, .int .i64 n] w fun e w' => e = .returned (.bool false) ∧ w' = w := (within a n w).mono fun _ _ h' => by rw [decide_eq_false h] at h'; exact h'
set_option maxHeartbeats 400000 in
theorem ofO (x : Int) (w : World) :
    Calls Tryz.prog 92 #[.int .u64 x] w fun e w' => e = .returned (.agg #[.int .u64 x]) ∧ Below w.heap.size w w' := by
  go_enter Tryz.func92, Tryz.ntmps92
  go_wp2_with (go_at_call 123; refine (of64 _ _ _).mono ?_; rintro e w1 ⟨rfl, hb⟩; obtain ⟨hc, hf⟩ := bcell hb)
  exact bodyPost_ret (v := .agg #[.int .u64 x]) (by simp [results, Tryz.results92, go_sem, hc]) rfl ⟨rfl, (((Below.refl _ w).alloc (Nat.le_refl _) _).trans (hb.mono (by simp))).setCell (by simp) _⟩
set_option maxHeartbeats 400000 in
theorem onlyO (i : Nat) (hi : i < 64) (w : World) :
    Calls Tryz.prog 96 #[.int .i64 i] w fun e w' => e = .returned (.agg #[.int .u64 ((2 ^ i : Nat) : Int)]) ∧ Below w.heap.size w w' := by
  have hsh := shlc i hi
  generalize hq : (2 ^ i : Nat) = p at hsh
  clear hq
  go_enter Tryz.func96, Tryz.ntmps96
  go_wp2_with (go_at_call 92; refine (ofO _ _).mono ?_; rintro e w1 ⟨rfl, hb⟩; obtain ⟨hc, hf⟩ := bcell hb)
  exact bodyPost_ret (v := .agg #[.int .u64 p]) (by simp [results, Tryz.results96, go_sem, hc]) rfl ⟨rfl, (((Below.refl _ w).alloc (Nat.le_refl _) _).trans (hb.mono (by simp))).setCell (by simp) _⟩
section
variable {go gp gs n : Nat} {Pf Sf : Nat → Nat} {w : World}
set_option maxHeartbeats 400000 in
theorem lenO (ho : OrdAt w go gp gs n Pf Sf) :
    Calls Tryz.prog 109 #[.pointer (some ⟨go, 0, none⟩)] w fun e w' => e = .returned (.int .i64 n) ∧ w' = w := by
  have c0 := ho.o0
  go_enter Tryz.func109, Tryz.ntmps109
  go_wp2
  go_ret
  exact ⟨rfl, rfl⟩
theorem all_word (h : n ≤ 64) : IntKind.u64.wrap (IntKind.u64.wrap (2 ^ n) - 1) = ((2 ^ n - 1 : Nat) : Int) := by
  by_cases e : n = 64
  · subst e; decide
  · rw [shlc n (by omega)]
    have h1 : (2 ^ n : Nat) < 18446744073709551616 := Nat.lt_of_lt_of_le (Nat.pow_lt_pow_right (by decide) (show n < 64 by omega)) (by decide)
    have h2 : 0 < (2 ^ n : Nat) := Nat.two_pow_pos n
    generalize (2 ^ n : Nat) = q at *
    simp only [IntKind.wrap, IntKind.bits, IntKind.signed]
    simp
    omega
set_option maxHeartbeats 400000 in
theorem allO (ho : OrdAt w go gp gs n Pf Sf) (hn : n ≤ 64) :
    Calls Tryz.prog 90 #[.pointer (some ⟨go, 0, none⟩)] w fun e w' => e = .returned (.agg #[.int .u64 ((2 ^ n - 1 : Nat) : Int)]) ∧ Below w.heap.size w w' := by
  have hw := all_word hn
  have KL := hide' (lenO (ho.over ((Below.refl _ w).alloc (Nat.le_refl _) (.cells #[.int .u64 0] 136))))
  generalize hq : (2 ^ n - 1 : Nat) = p at *
  clear hq ho
  go_enter Tryz.func90, Tryz.ntmps90
  go_wp2_with fail
  refine KL.out.mono ?_
  rintro e w1 ⟨rfl, rfl⟩
  go_wp2_with (go_at_call 92; refine (ofO _ _).mono ?_; rintro e w1 ⟨rfl, hb⟩; obtain ⟨hc, hf⟩ := bcell hb)
  exact bodyPost_ret (v := .agg #[.int .u64 p]) (by simp [results, Tryz.results90, go_sem, hc]) rfl ⟨rfl, (((Below.refl _ w).alloc (Nat.le_refl _) _).trans (hb.mono (by simp))).setCell (by simp) _⟩
set_option maxHeartbeats 400000 in
theorem predsT (ho : OrdAt w go gp gs n Pf Sf) {a : Nat} (ha : a < n) :
    Calls Tryz.prog 67 #[.pointer (some ⟨go, 0, none⟩), .int .i64 a] w fun e w' => e = .returned (.int .u64 (Pf a : Int)) ∧ Below w.heap.size w w' := by
  have c0 := ho.o0
  have c1 := ho.pc a ha
  have KL := hide' (lenO ho)
  have KW := hide' (withinT (a := a) (n := n) (by omega) w)
  go_enter Tryz.func67, Tryz.ntmps67
  go_wp2_with (first | (go_at_call 109; refine KL.out.mono ?_; rintro e w1 ⟨rfl, rfl⟩) | (go_at_call 108; refine KW.out.mono ?_; rintro e w1 ⟨rfl, rfl⟩) | (go_at_call 97; refine (word64 _ _).mono ?_; rintro e w1 ⟨rfl, hb⟩))
  go_ret
  exact ⟨rfl, hb⟩
set_option maxHeartbeats 400000 in
theorem predsF (ho : OrdAt w go gp gs n Pf Sf) {a : Int} (ha : ¬ (0 ≤ a ∧ a < n)) :
    Calls Tryz.prog 67 #[.pointer (some ⟨go, 0, none⟩), .int .i64 a] w fun e w' => e = .returned (.int .u64 0) ∧ w' = w := by
  have KL := hide' (lenO ho)
  have KW := hide' (withinF ha w)
  clear ha
  go_enter Tryz.func67, Tryz.ntmps67
  go_wp2_with (first | (go_at_call 109; refine KL.out.mono ?_; rintro e w1 ⟨rfl, rfl⟩) | (go_at_call 108; refine KW.out.mono ?_; rintro e w1 ⟨rfl, rfl⟩))
  go_ret
  exact ⟨rfl, rfl⟩
/-- What Succs tells of any number. -/
def sucI (n : Nat) (Sf : Nat → Nat) (a : Int) : Nat := if 0 ≤ a ∧ a < n then Sf a.toNat else 0
def preI (n : Nat) (Pf : Nat → Nat) (a : Int) : Nat := if 0 ≤ a ∧ a < n then Pf a.toNat else 0
theorem predsO (ho : OrdAt w go gp gs n Pf Sf) (a : Int) :
    Calls Tryz.prog 67 #[.pointer (some ⟨go, 0, none⟩), .int .i64 a] w fun e w' => e = .returned (.int .u64 (preI n Pf a : Int)) ∧ Below w.heap.size w w' := by
  by_cases h : 0 ≤ a ∧ a < n
  · obtain ⟨k, rfl⟩ := Int.eq_ofNat_of_zero_le h.1
    unfold preI
    rw [if_pos h, Int.toNat_natCast]
    exact predsT ho (by omega)
  · unfold preI
    rw [if_neg h]
    exact (predsF ho h).mono fun _ _ ⟨h1, h2⟩ => ⟨h1, h2 ▸ Below.refl _ _⟩
end
end Go.Proofs.YtahfobbiaimoiaaGreatDoor.O
namespace Go.Proofs.YtahfobbiaimoiaaGreatDoor.O
open Go.RowKit Go.Shelf
attribute [local go_sem] Oper.semAt_some
set_option maxRecDepth 100000 in
set_option maxHeartbeats 1000000 in
theorem all1M_64 (n l Bn : Nat) (x : Nat) (hx : x < 18446744073709551616) (J Jx : List (Fin 64) → World → Prop)
    (hY : ∀ pre (k : Fin 64) W, J pre W → pre.length < (nums x).length → k ∈ nums x → YieldAt Fence.wide (n - 1) Tryz.prog l #[.int .i64 (k.val : Int)] W fun e W' =>
      (e = .returned (.bool true) ∧ J (pre ++ [k]) W' ∧ KpB Bn W W') ∨ (e = .returned (.bool false) ∧ Jx (pre ++ [k]) W'))
    (W : World) (hBn : Bn < W.heap.size) (hJ : AbidesFrom W.heap.size J) (ht : Tab W) (hc : W.cell? ⟨Bn, 0, none⟩ = some (.int .u64 x)) (h0 : J [] W) :
    CallsIn Fence.wide n Tryz.prog 124 #[.func (.yield l) #[] #[], .pointer (some ⟨Bn, 0, none⟩)] W fun e W' => (∃ v, e = .returned v) ∧
      ((∃ ys, ys = nums x ∧ J ys W') ∨ (∃ pre, pre <+: nums x ∧ Jx pre W')) := by
  refine callsIn_of_wp Tryz.func124 rfl trivial ?_ rfl
  simp only [Tryz.ntmps124, List.size_toArray, List.length_cons, List.length_nil, Nat.reduceAdd, Nat.reduceSub, Array.replicate_succ, Array.replicate_zero, List.push_toArray, List.append_toArray, List.nil_append, List.cons_append]
  gi_wp2_with (refine ⟨trivial, fun h => absurd h (by decide), ?_⟩; gi_at_call 125; refine (callsIn_wide.2 (low64 x hx _ ht)).mono ?_; rintro e w1 ⟨rfl, hb⟩)
  have ht1 : Tab w1 := ht.over hb
  have hc1 : w1.cell? ⟨Bn, 0, none⟩ = some (.int .u64 x) := (hb.cell (p := ⟨Bn, 0, none⟩) hBn).trans hc
  have h01 : J [] w1 := hJ _ _ _ none h0 (grown_none hb) (fun r e => by cases e)
  gi_loopw [3] (fun p wr => ∃ (pre rest : List (Fin 64)) (z : Int), p = .int .i64 z ∧ Hid (z = lowI rest) ∧ Hid (nums x = pre ++ rest) ∧ Tab wr ∧ Bn < wr.heap.size ∧ wr.cell? ⟨Bn, 0, none⟩ = some (.int .u64 x) ∧ J pre wr) (fun p _ => leftI p)
  case atStart =>
    exact ⟨[], nums x, _, rfl, rfl, rfl, ht1, Nat.lt_of_lt_of_le hBn hb.size, hc1, h01⟩
  case round =>
    obtain ⟨pre, rest, z, rfl, hz, hp, htr, hBr, hcr, hJs⟩ := hrel
    cases rest with
    | nil =>
      have e1 : z < 0 := by rw [hz.out]; decide
      gi_wp2
      go_end0
      exact ⟨⟨_, rfl⟩, .inl ⟨pre, by rw [hp.out]; simp, hJs⟩⟩
    | cons k rest =>
      have e1 : 0 ≤ z := by rw [hz.out]; exact Int.natCast_nonneg _
      have e2 : z < 64 := by rw [hz.out]; show (k.val : Int) < 64; omega
      obtain ⟨fn, tmps, assign, body, hy, hR⟩ := hY pre k wr hJs (by rw [hp.out]; simp) (by rw [hp.out]; simp)
      rw [show (k.val : Int) = z from hz.out.symm] at hy
      gi_wp2
      refine ⟨fun h => absurd h (by decide), hR.mono ?_⟩
      rintro e W3 (⟨rfl, hJ3, hk3⟩ | ⟨rfl, hJx3⟩)
      · have ht3 : Tab W3 := hk3.2 htr
        have hc3 : W3.cell? ⟨Bn, 0, none⟩ = some (.int .u64 x) := hk3.1.trans hcr
        have hB3 : Bn < W3.heap.size := cell_lt hc3
        gi_wp2_with (refine ⟨trivial, fun h => absurd h (by decide), ?_⟩; gi_at_call 126; refine (callsIn_wide.2 (next64 x hx _ _ ht3)).mono ?_; rintro e w4 ⟨rfl, hb4⟩)
        go_roundw
        case rel => exact ⟨pre ++ [k], rest, _, rfl, by rw [hz.out]; exact congrArg lowI (from_snoc (sorted_nums x) hp.out), by show nums x = _; rw [hp.out]; simp, ht3.over hb4, Nat.lt_of_lt_of_le hB3 hb4.size, (hb4.cell (p := ⟨Bn, 0, none⟩) hB3).trans hc3, hJ _ _ _ none hJ3 (grown_none hb4) (fun r e => by cases e)⟩
        case measure =>
          rw [hz.out, show lowI (k :: rest) = (k.val : Int) from rfl, from_snoc (j := k) (sorted_nums x) hp.out]
          exact leftI_lt (sorted_nums x) hp.out
      · gi_wp2
        refine bodyPost_ret (results_none rfl _ _ _) rfl ?_
        exact ⟨⟨_, rfl⟩, .inr ⟨pre ++ [k], ⟨rest, by rw [hp.out]; simp⟩, hJx3⟩⟩
/-- The numbers of a set. -/
abbrev In (x : Nat) := { k : Fin 64 // k ∈ nums x }
/-- The plain row of them. -/
def plain {x : Nat} (l : List (In x)) : List (Fin 64) := l.map (·.val)
theorem plain_snoc {x : Nat} (l : List (In x)) (k : In x) : plain (l ++ [k]) = plain l ++ [k.val] := by simp [plain]
theorem all_mem (n Bn x : Nat) (hx : x < 18446744073709551616) (w : World) (hBn : Bn < w.heap.size) (ht : Tab w) (hc : w.cell? ⟨Bn, 0, none⟩ = some (.int .u64 x)) :
    SeqStopsK Fence.wide n Tryz.prog 124 #[.pointer (some ⟨Bn, 0, none⟩)] (fun k : In x => #[.int .i64 (k.val.val : Int)]) (KpB Bn) (fun ys => plain ys = nums x) (fun pre => plain pre <+: nums x) (nums x).length w := fun l J Jx W hW hJ _ hY h0 => by
  refine (all1M_64 n l Bn x hx (fun pre V => ∃ p : List (In x), plain p = pre ∧ J p V) (fun pre V => ∃ p : List (In x), plain p = pre ∧ Jx p V) ?_ W (Nat.lt_of_lt_of_le hBn hW.size) ?_ (ht.over hW) ((hW.cell (p := ⟨Bn, 0, none⟩) hBn).trans hc) ⟨[], rfl, h0⟩).mono ?_
  · rintro pre k V ⟨p, rfl, hj⟩ hlt hk
    obtain ⟨fn, tmps, assign, body, hy, hR⟩ := hY p ⟨k, hk⟩ V hj (by simpa [plain] using hlt)
    refine ⟨fn, tmps, assign, body, hy, hR.mono ?_⟩
    rintro e V' (⟨he, h1, h2⟩ | ⟨he, h1⟩)
    · exact .inl ⟨he, ⟨_, plain_snoc p ⟨k, hk⟩, h1⟩, h2⟩
    · exact .inr ⟨he, ⟨_, plain_snoc p ⟨k, hk⟩, h1⟩⟩
  · rintro s X Y row ⟨p, hp, hj⟩ hg hr
    exact ⟨p, hp, hJ p X Y row hj hg hr⟩
  · rintro e V ⟨hv, (⟨ys, hys, p, hp, hj⟩ | ⟨pre, hpre, p, hp, hj⟩)⟩
    · exact ⟨hv, .inl ⟨p, hp.trans hys, hj⟩⟩
    · exact ⟨hv, .inr ⟨p, by show plain p <+: nums x; rw [hp]; exact hpre, hj⟩⟩
end Go.Proofs.YtahfobbiaimoiaaGreatDoor.O
namespace Go.Proofs.YtahfobbiaimoiaaGreatDoor.O
open Go.RowKit Go.Shelf
attribute [local go_sem] Oper.semAt_some
/-- All of F over a row of numbers, or-ed. -/
def orAll (F : Nat → Nat) (l : List (Fin 64)) : Nat := l.foldl (fun acc k => acc ||| F k.val) 0
theorem orAll_snoc (F : Nat → Nat) (l : List (Fin 64)) (k : Fin 64) : orAll F (l ++ [k]) = orAll F l ||| F k.val := by simp [orAll]
theorem orAll_lt {F : Nat → Nat} : ∀ {l : List (Fin 64)}, (∀ k ∈ l, F k.val < 18446744073709551616) → orAll F l < 18446744073709551616 := by
  intro l
  unfold orAll
  suffices h : ∀ acc, acc < 18446744073709551616 → (∀ k ∈ l, F k.val < 18446744073709551616) → l.foldl (fun acc k => acc ||| F k.val) acc < 18446744073709551616 from h 0 (by decide)
  induction l with
  | nil => intro acc h _; exact h
  | cons a l ih => intro acc h h2; exact ih _ (Nat.or_lt_two_pow (n := 64) h (h2 a (by simp))) fun k hk => h2 k (by simp [hk])
theorem keepsO {W w1 : World} (h : Below W.heap.size W w1) : KeepsOthers W w1 :=
  ⟨h.size, fun k _ hk _ => (h.block k (Array.getElem?_eq_some_iff.1 hk).1).trans hk⟩
theorem bxb {W W' : World} {b n : Nat} {t : TypeId} {v : Value} (h : Boxed W b t v) (hb : Below n W W') (hn : b < n) : Boxed W' b t v := (hb.block b hn).trans h
section
variable {go gp gs n : Nat} {Pf Sf : Nat → Nat} {w : World}
end
end Go.Proofs.YtahfobbiaimoiaaGreatDoor.O
namespace Go.Proofs.YtahfobbiaimoiaaGreatDoor.O
/-- No operation of the region is a defer statement, none leaves for a row. -/
def noDefer (ops : Array Oper) : Prop := ∀ (i : Nat) (o : Oper), ops[i]? = some o → ∀ c, o.op ≠ .defer c
def noDeferB (ops : Array Oper) : Bool := ops.all fun o => match o.op with
  | .defer _ => false
  | _ => true
theorem noDefer_of {ops : Array Oper} (h : noDeferB ops = true) : noDefer ops := fun i o ho c e => by
  unfold noDeferB at h
  rw [Array.all_eq_true] at h
  obtain ⟨hi, rfl⟩ := Array.getElem?_eq_some_iff.1 ho
  have := h i hi
  rw [e] at this
  cases this
theorem rowsIn_wide {n : Nat} {P : Program} {row : String} {args : Array Value} {w : World} {R : Value → World → Prop} (l : Nat) (h : Rows P row args w R) : RowsIn (Fence.wide.inRound l) n P row args w R := fun c cs _ => by
  obtain ⟨v, w', r, s⟩ := h c cs
  exact ⟨v, w', r, stepsIn_wide.2 s⟩
theorem wpOp_round {P : Program} {ops : Array Oper} {Q : Exit → Act → World → Prop} {i n l : Nat} {K : Act → World → Prop} {a : Act} {w : World} (hn : noDefer ops) (hQ : ¬ LetsOut Q) (h : wpOp P ops Q i K a w) : wpOpIn (Fence.wide.inRound l) n P ops Q i K a w := by
  unfold wpOp at h
  unfold wpOpIn
  split
  · rename_i e; rw [e] at h; exact h
  · rename_i o e
    rw [e] at h
    simp only [] at h
    split
    · rename_i hw
      rw [if_pos hw] at h
      rcases h with h | h
      · refine ⟨fun _ _ => trivial, ?_⟩
        rw [Oper.semAt_eq _ _ _ (hn i o e)]
        unfold Oper.wp at h
        generalize (execOp a.eval o).run P w = r at *
        cases r with
        | ok x w' =>
          cases x <;> simp only [Oper.upon] at h <;> simp only [Oper.uponIn]
          all_goals first
            | exact h
            | exact ⟨(fun h => by cases h), CallsIn.inRound l (callsIn_wide.2 h)⟩
            | exact ⟨(fun h => by cases h), rowsIn_wide l h⟩
        | halt x w' => cases x <;> simp only [Oper.upon] at h <;> simp only [Oper.uponIn]; exact h
      · exact absurd h.2 hQ
    · rename_i hw
      rw [if_neg hw] at h
      exact ⟨fun _ _ => trivial, h⟩
theorem wpAny_round {P : Program} {md : Region.Mode} {ops : Array Oper} {Q : Exit → Act → World → Prop} {n l : Nat} (hn : noDefer ops) (hQ : ¬ LetsOut Q) :
    ∀ (fuel : Nat) (listed : Array Bool) (a : Act) (w : World), wpAny P md ops Q fuel listed a w → wpAnyIn (Fence.wide.inRound l) n P md ops Q fuel listed a w
  | 0, _, _, _, h => h
  | fuel + 1, _, _, _, h => ⟨h.1, fun i hi => wpOp_round hn hQ (wpOp_mono (fun a' w' h' => wpAny_round hn hQ fuel _ a' w' h') (h.2 i hi))⟩
/-- The post of a region that ends as it should alone. -/
def onlyNormal (R : Act → World → Prop) : Exit → Act → World → Prop
  | .normal, a, w => R a w
  | _, _, _ => False
theorem region_round {P : Program} {ops : Array Oper} {Q : Exit → Act → World → Prop} {id n l : Nat} {a : Act} {w : World} (S : World → Prop) (hm : P.follows .mixedOrders = true) (hn : noDefer ops) (hS : S w.drew)
    (h : S w.drew → wpAnyH P .any ops (onlyNormal (Q .normal)) S ops.size (Array.replicate ops.size false) a w.drew) : (Code.region id ops true).wpIn (Fence.wide.inRound l) n P Q a w := by
  refine wpIn_mono (Q := onlyNormal (Q .normal)) (wpIn_region_any hm (wpAny_round hn (fun ⟨_, _, h⟩ => h) _ _ _ _ (wpAny_of_held _ _ _ _ (h hS)))) fun e a' w' h => ?_
  cases e <;> first | exact h | exact h.elim
end Go.Proofs.YtahfobbiaimoiaaGreatDoor.O
namespace Go.Proofs.YtahfobbiaimoiaaGreatDoor.O
open Go.RowKit Go.Shelf
attribute [local go_sem] Oper.semAt_some
/-- What k adds to what is ready. -/
def rdF (Pf : Nat → Nat) (d k : Nat) : Nat := if (Pf k &&& (18446744073709551615 - d) == 0) = true then 2 ^ k else 0
def rdW (n : Nat) (Pf : Nat → Nat) (d : Nat) : Nat := orAll (rdF Pf d) (nums ((2 ^ n - 1) &&& (18446744073709551615 - d)))
theorem rdF_lt (Pf : Nat → Nat) (d k : Nat) (hk : k < 64) : rdF Pf d k < 18446744073709551616 := by
  unfold rdF
  split
  · exact Nat.lt_of_lt_of_le (Nat.pow_lt_pow_right (by decide) hk) (by decide)
  · decide
theorem allw_lt {n : Nat} (h : n ≤ 64) : 2 ^ n - 1 < 18446744073709551616 := by
  have : (2 ^ n : Nat) ≤ 2 ^ 64 := Nat.pow_le_pow_right (by decide) h
  omega
theorem in_all {n y : Nat} {k : Fin 64} (h : k ∈ nums ((2 ^ n - 1) &&& y)) : k.val < n := by
  rw [mem_nums, Nat.testBit_and, Nat.testBit_two_pow_sub_one] at h
  rw [Bool.and_eq_true] at h
  simpa using h.1
theorem allSeq (x : Nat) (w : World) :
    Calls Tryz.prog 93 #[.agg #[.int .u64 x]] w fun e w' => ∃ b, e = .returned (.func (.func 124) #[] #[.pointer (some ⟨b, 0, none⟩)]) ∧ Boxed w' b 136 (.int .u64 x) ∧ w.heap.size ≤ b ∧ Below w.heap.size w w' :=
  (all64 x w).mono fun _ _ ⟨h1, h2⟩ => ⟨_, h1, by subst h2; exact ⟨Boxed.new _ _ _, Nat.le_refl _, (Below.refl _ _).alloc (Nat.le_refl _) _⟩⟩
theorem keepR {W0 W w1 : World} {b b' : Nat} {u v : Value} (h : W.cell? ⟨b, 0, none⟩ = some u ∧ W.cell? ⟨b', 0, none⟩ = some v ∧ Below W0.heap.size W0 W) (hb : Below W.heap.size W w1) :
    w1.cell? ⟨b, 0, none⟩ = some u ∧ w1.cell? ⟨b', 0, none⟩ = some v ∧ Below W0.heap.size W0 w1 :=
  ⟨cell_over h.1 hb, cell_over h.2.1 hb, h.2.2.trans (hb.mono h.2.2.size)⟩
section
variable {go gp gs n : Nat} {Pf Sf : Nat → Nat} {w : World}
set_option maxRecDepth 100000 in
set_option maxHeartbeats 400000 in
theorem readyC (ho : OrdAt w go gp gs n Pf Sf) (hn : n ≤ 64) (hP : ∀ a, a < n → Pf a < 18446744073709551616) (d : Nat) (hd : d < 18446744073709551616) (ht : Tab w) :
    CallsIn Fence.wide 9 Tryz.prog 55 #[.pointer (some ⟨go, 0, none⟩), .int .u64 d] w fun e W' => e = .returned (.int .u64 (rdW n Pf d : Int)) ∧ Below w.heap.size w W' := by
  have h3 := ht.2
  have hmx : Tryz.prog.follows Departure.mixedOrders = true := by kernel_rfl
  have hal := allw_lt hn
  have hx : ((2 ^ n - 1) &&& (18446744073709551615 - d)) < 18446744073709551616 := Nat.lt_of_le_of_lt Nat.and_le_left hal
  have hin : Hid (∀ k ∈ nums ((2 ^ n - 1) &&& (18446744073709551615 - d)), k.val < n) := fun k => in_all
  have KA : Hid (∀ W, Below w.heap.size w W → Calls Tryz.prog 90 #[.pointer (some ⟨go, 0, none⟩)] W fun e w' => e = .returned (.agg #[.int .u64 ((2 ^ n - 1 : Nat) : Int)]) ∧ Below W.heap.size W w') := fun W hB => allO (ho.over hB) hn
  have KM : Hid _ := minus64 (2 ^ n - 1) d hal hd
  have Hrd : Hid (rdW n Pf d = orAll (rdF Pf d) (nums ((2 ^ n - 1) &&& (18446744073709551615 - d)))) := rfl
  generalize hxe : ((2 ^ n - 1) &&& (18446744073709551615 - d)) = x at *
  generalize hae : 2 ^ n - 1 = al at *
  clear hxe hae
  refine callsIn_of_wp_marks Tryz.func55 rfl trivial ?_ rfl
  refine wpIn_wide.2 ?_
  simp only [Tryz.ntmps55, List.size_toArray, List.length_cons, List.length_nil, Nat.reduceAdd, Nat.reduceSub, Array.replicate_succ, Array.replicate_zero, List.push_toArray, List.append_toArray, List.nil_append, List.cons_append]
  go_wp2
  have hB0 : Below w.heap.size w (((w.alloc (.cells #[.pointer (some ⟨go, 0, none⟩)] 104)).alloc (.cells #[.int .u64 d] 46)).alloc (.cells #[.int .u64 0] 136)) := (((Below.refl _ w).alloc (Nat.le_refl _) _).alloc (by simp) _).alloc (by simp; omega) _
  have bO := ((Boxed.new w 104 (.pointer (some ⟨go, 0, none⟩))).alloc (.cells #[.int .u64 d] 46)).alloc (.cells #[.int .u64 0] 136)
  have bD := (Boxed.new (w.alloc (.cells #[.pointer (some ⟨go, 0, none⟩)] 104)) 46 (.int .u64 d)).alloc (.cells #[.int .u64 0] 136)
  have bR := Boxed.new ((w.alloc (.cells #[.pointer (some ⟨go, 0, none⟩)] 104)).alloc (.cells #[.int .u64 d] 46)) 136 (.int .u64 0)
  simp only [World.size_alloc] at bD bR
  generalize hW0 : (((w.alloc (.cells #[.pointer (some ⟨go, 0, none⟩)] 104)).alloc (.cells #[.int .u64 d] 46)).alloc (.cells #[.int .u64 0] 136)) = W0 at *
  have hs0 : w.heap.size + 1 + 1 < W0.heap.size := by rw [← hW0]; simp
  clear hW0
  have hk0 : Hid (W0.cell? ⟨w.heap.size, 0, none⟩ = some (.pointer (some ⟨go, 0, none⟩)) ∧ W0.cell? ⟨w.heap.size + 1, 0, none⟩ = some (.int .u64 d) ∧ Below W0.heap.size W0 W0) := ⟨bO.cell, bD.cell, Below.refl _ _⟩
  have KA' : Hid (∀ W, Below W0.heap.size W0 W → Calls Tryz.prog 90 #[.pointer (some ⟨go, 0, none⟩)] W fun e w' => e = .returned (.agg #[.int .u64 (al : Int)]) ∧ Below W.heap.size W w') := fun W hB => KA.out W (hB0.trans (hB.mono hB0.size))
  go_region_held3 (fun W => W.cell? ⟨w.heap.size, 0, none⟩ = some (.pointer (some ⟨go, 0, none⟩)) ∧ W.cell? ⟨w.heap.size + 1, 0, none⟩ = some (.int .u64 d) ∧ Below W0.heap.size W0 W) (first | (exact keepR (by assumption) hb) | (exact keepR (keepR hk0.out (Below.refl _ _).drew) hb) | (exact keepR hk0.out (Below.refl _ _).drew) | (exact hk0.out)) (first | (go_at_call 90; refine (KA'.out _ (by first | exact ‹_ ∧ _ ∧ _›.2.2 | exact (Below.refl _ _).drew)).mono ?_; rintro e w1 ⟨rfl, hb⟩) | (go_at_call 92; refine (ofO _ _).mono ?_; rintro e w1 ⟨rfl, hb⟩) | (go_at_call 91; refine (KM.out _).mono ?_; rintro e w1 ⟨rfl, hb⟩) | (go_at_call 93; refine (allSeq x _).mono ?_; rintro e w1 ⟨bb, rfl, hbox, hbb, hb⟩; have hq : W0.heap.size ≤ bb := Nat.le_trans (Below.size ‹_ ∧ _ ∧ _›.2.2) hbb))
  all_goals go_wp2
  have hS := ‹w1.cell? ⟨w.heap.size, 0, none⟩ = some (.pointer (some ⟨go, 0, none⟩)) ∧ w1.cell? ⟨w.heap.size + 1, 0, none⟩ = some (.int .u64 d) ∧ Below W0.heap.size W0 w1›.2.2
  have hB1 : Below w.heap.size w w1 := hB0.trans (hS.mono hB0.size)
  have bO1 := bxb bO hS (by omega)
  have bD1 := bxb bD hS (by omega)
  have bR1 := bxb bR hS (by omega)
  have z1 := hbox.lt
  clear KA KA' KM hS bO bD bR hb hk0 hal hbb
  refine (wpIn_wide (n := 9)).1 ?_
  refine wpIn_rangeFunc_ownG rfl (by decide) (gf := 124) (lb := #[.pointer (some ⟨bb, 0, none⟩)]) rfl trivial (enters_of Tryz.func124 (by kernel_rfl) rfl)
    (all_mem 8 bb x hx w1 z1 (ht.over hB1) hbox.cell) KpB.t (KpB.b z1 (by omega)) (Below.refl _ _) (fun _ => rfl)
    (fun pre W => Boxed W w.heap.size 104 (.pointer (some ⟨go, 0, none⟩)) ∧ Boxed W (w.heap.size + 1) 46 (.int .u64 d) ∧ Boxed W (w.heap.size + 1 + 1) 136 (.int .u64 (orAll (rdF Pf d) (plain pre) : Int)) ∧ Boxed W bb 136 (.int .u64 x) ∧ Below w.heap.size w W)
    (fun _ _ _ => False)
    (OwnFrom.and (Own.from (boxed_own _ _ _) _) (OwnFrom.and (Own.from (boxed_own _ _ _) _) (OwnFrom.and (Own.from (boxed_own _ _ (fun pre => .int .u64 (orAll (rdF Pf d) (plain pre) : Int))) _) (OwnFrom.and (Own.from (boxed_own _ _ _) _) (ownFrom_below (Nat.le_refl _) (by omega))))))
    (fun _ _ _ _ _ hs _ _ => hs)
    ⟨bO1, bD1, bR1, hbox, hB1⟩
    (fun j => { tmps := #[.pointer (some ⟨go, 0, none⟩), .int .u64 d, .pointer (some ⟨w.heap.size, 0, none⟩), .pointer (some ⟨w.heap.size + 1, 0, none⟩), .int .u64 0, .pointer (some ⟨w.heap.size + 1 + 1, 0, none⟩), .int .i64 (j.val.val : Int), .pointer (some ⟨go, 0, none⟩), .agg #[.int .u64 al], .int .u64 d, .agg #[.int .u64 d], .agg #[.int .u64 x], .func (.func 124) #[] #[.pointer (some ⟨bb, 0, none⟩)], .int .i64 (j.val.val : Int), undef, undef, undef, undef, undef, undef, undef, undef, undef, undef, undef, undef, undef, undef, undef, undef], defers := [] }) ?assign ?body ?done ?stop
  case assign =>
    intro l j W K hK
    gi_wp2
    exact hK
  case body =>
    rintro l pre k W ⟨b0, b1, b2, b4, hB⟩ hlt
    have hkn := hin.out k.val k.property
    have hk64 := k.val.isLt
    have hWs := hB.size
    have z4 := b4.lt
    have c0 := b0.cell
    have c1 := cell_over ho.o0 hB
    have c2 := cell_over (ho.pc k.val.val hkn) hB
    have c3 := b1.cell
    have hacc : orAll (rdF Pf d) (plain pre) < 18446744073709551616 := orAll_lt fun j _ => rdF_lt Pf d j.val j.isLt
    have hsn : Hid (orAll (rdF Pf d) (plain (pre ++ [k])) = orAll (rdF Pf d) (plain pre) ||| rdF Pf d k.val.val) := by show _ = _; rw [plain_snoc, orAll_snoc]
    have hpk := hP k.val.val hkn
    have KS := sub64 (Pf k.val.val) d hpk hd
    have KY := hide' (onlyO k.val.val hk64)
    have hpw : (2 ^ k.val.val : Nat) < 18446744073709551616 := Nat.lt_of_lt_of_le (Nat.pow_lt_pow_right (by decide) hk64) (by decide)
    have KO := hide' (or64 (orAll (rdF Pf d) (plain pre)) (2 ^ k.val.val) hacc hpw)
    have hrd : Hid (rdF Pf d k.val.val = if (Pf k.val.val &&& (18446744073709551615 - d) == 0) = true then 2 ^ k.val.val else 0) := rfl
    generalize rdF Pf d k.val.val = rk at *
    generalize orAll (rdF Pf d) (plain pre) = acc at *
    generalize (Pf k.val.val &&& (18446744073709551615 - d) == 0) = t at *
    generalize Pf k.val.val = pk at *
    generalize 2 ^ k.val.val = pw at *
    generalize k.val.val = kk at *
    clear ho hP hin hlt bO1 bD1 bR1 hbox hx
    cases t with
    | false =>
      have KS' := hide' KS
      clear KS
      gi_wp2
      refine region_round (fun V => V.cell? ⟨w.heap.size, 0, none⟩ = some (.pointer (some ⟨go, 0, none⟩)) ∧ V.cell? ⟨go, 0, none⟩ = some (.slice (some ⟨gp, 0, none⟩) n n) ∧ V.cell? ⟨gp, kk, none⟩ = some (.int .u64 (pk : Int)) ∧ V.cell? ⟨w.heap.size + 1, 0, none⟩ = some (.int .u64 (d : Int)) ∧ Below W.heap.size W V) hmx (noDefer_of (by kernel_rfl)) ?_ (fun hHeld => ?_)
      · exact ⟨c0, c1, c2, c3, (Below.refl _ _).drew⟩
      refine wpAnyH_take (i := 0) (oi := { dst := some 14, op := Op.load 104 (Operand.tmp 2), type := 104, pos := "sets.go:9", after := #[], guard := none }) (v := ?_) rfl (by kernel_rfl) (by kernel_rfl) (by kernel_rfl) (fun _ _ _ h => h) (Or.inl ⟨by rfl, ?_⟩) (by assumption) ?_
      rotate_left
      · intro w hSw; (try dsimp only at hSw); go_simp <;> with_reducible rfl
      simp only [Act.put, List.setIfInBounds_toArray, List.set_cons_zero, List.set_cons_succ]
      refine wpAnyH_take (i := 1) (oi := { dst := some 15, op := Op.nilCheck (Operand.tmp 14), type := 0, pos := "sets.go:9", after := #[{ on := 0, ground := Ground.data }], guard := none }) (v := ?_) rfl (by kernel_rfl) (by kernel_rfl) (by kernel_rfl) (fun _ _ _ h => h) (Or.inl ⟨by rfl, ?_⟩) (by assumption) ?_
      rotate_left
      · intro w hSw; (try dsimp only at hSw); go_simp <;> with_reducible rfl
      simp only [Act.put, List.setIfInBounds_toArray, List.set_cons_zero, List.set_cons_succ]
      refine wpAnyH_take (i := 2) (oi := { dst := some 16, op := Op.fieldAddr 143 (Operand.tmp 15) 0, type := 0, pos := "sets.go:9", after := #[{ on := 1, ground := Ground.data }], guard := none }) (v := ?_) rfl (by kernel_rfl) (by kernel_rfl) (by kernel_rfl) (fun _ _ _ h => h) (Or.inl ⟨by rfl, ?_⟩) (by assumption) ?_
      rotate_left
      · intro w hSw; (try dsimp only at hSw); go_simp <;> with_reducible rfl
      simp only [Act.put, List.setIfInBounds_toArray, List.set_cons_zero, List.set_cons_succ]
      refine wpAnyH_take (i := 3) (oi := { dst := some 17, op := Op.load 141 (Operand.tmp 16), type := 141, pos := "sets.go:9", after := #[{ on := 2, ground := Ground.data }], guard := none }) (v := ?_) rfl (by kernel_rfl) (by kernel_rfl) (by kernel_rfl) (fun _ _ _ h => h) (Or.inl ⟨by rfl, ?_⟩) (by assumption) ?_
      rotate_left
      · intro w hSw; (try dsimp only at hSw); go_simp <;> with_reducible rfl
      simp only [Act.put, List.setIfInBounds_toArray, List.set_cons_zero, List.set_cons_succ]
      refine wpAnyH_take (i := 4) (oi := { dst := some 18, op := Op.move (Operand.tmp 6), type := 3, pos := "sets.go:9", after := #[], guard := none }) (v := ?_) rfl (by kernel_rfl) (by kernel_rfl) (by kernel_rfl) (fun _ _ _ h => h) (Or.inl ⟨by rfl, ?_⟩) (by assumption) ?_
      rotate_left
      · intro w hSw; (try dsimp only at hSw); go_simp <;> with_reducible rfl
      simp only [Act.put, List.setIfInBounds_toArray, List.set_cons_zero, List.set_cons_succ]
      refine wpAnyH_take (i := 5) (oi := { dst := some 19, op := Op.indexAddr 141 (Operand.tmp 17) (Operand.tmp 18), type := 0, pos := "sets.go:9", after := #[{ on := 3, ground := Ground.data }, { on := 4, ground := Ground.data }], guard := none }) (v := ?_) rfl (by kernel_rfl) (by kernel_rfl) (by kernel_rfl) (fun _ _ _ h => h) (Or.inl ⟨by rfl, ?_⟩) (by assumption) ?_
      rotate_left
      · intro w hSw; (try dsimp only at hSw); go_simp <;> with_reducible rfl
      simp only [Act.put, List.setIfInBounds_toArray, List.set_cons_zero, List.set_cons_succ]
      refine wpAnyH_take (i := 6) (oi := { dst := some 20, op := Op.load 136 (Operand.tmp 19), type := 136, pos := "sets.go:9", after := #[{ on := 5, ground := Ground.data }], guard := none }) (v := ?_) rfl (by kernel_rfl) (by kernel_rfl) (by kernel_rfl) (fun _ _ _ h => h) (Or.inl ⟨by rfl, ?_⟩) (by assumption) ?_
      rotate_left
      · intro w hSw; (try dsimp only at hSw); go_simp <;> with_reducible rfl
      simp only [Act.put, List.setIfInBounds_toArray, List.set_cons_zero, List.set_cons_succ]
      refine wpAnyH_take (i := 7) (oi := { dst := some 21, op := Op.load 46 (Operand.tmp 3), type := 46, pos := "sets.go:9", after := #[], guard := none }) (v := ?_) rfl (by kernel_rfl) (by kernel_rfl) (by kernel_rfl) (fun _ _ _ h => h) (Or.inl ⟨by rfl, ?_⟩) (by assumption) ?_
      rotate_left
      · intro w hSw; (try dsimp only at hSw); go_simp <;> with_reducible rfl
      simp only [Act.put, List.setIfInBounds_toArray, List.set_cons_zero, List.set_cons_succ]
      refine wpAnyH_ready (rs := [8]) (by kernel_rfl) (by simp) ?_
      refine AllReadyH.cons (o := { dst := some 22, op := Op.call { callee := Callee.value (Operand.func 92), args := #[Operand.tmp 21], argTypes := #[46] }, type := 136, pos := "sets.go:9", after := #[{ on := 7, ground := Ground.data }], guard := none }) rfl (fun K hK => ?_) AllReadyH.nil
      go_simp
      refine (ofO _ _).mono ?_; rintro e w2 ⟨rfl, hb⟩; (try dsimp only)
      refine hK.out _ _ ?_ (fun hHeld => ?_)
      · exact ⟨cell_over hHeld.1 hb, cell_over hHeld.2.1 hb, cell_over hHeld.2.2.1 hb, cell_over hHeld.2.2.2.1 hb, hHeld.2.2.2.2.trans (hb.mono hHeld.2.2.2.2.size)⟩
      clear hK K
      try simp only [Act.put, List.setIfInBounds_toArray, List.set_cons_zero, List.set_cons_succ]
      refine wpAnyH_ready (rs := [9]) (by kernel_rfl) (by simp) ?_
      refine AllReadyH.cons (o := { dst := some 23, op := Op.call { callee := Callee.value (Operand.func 94), args := #[Operand.tmp 20, Operand.tmp 22], argTypes := #[136, 136] }, type := 4, pos := "sets.go:9", after := #[{ on := 6, ground := Ground.data }, { on := 8, ground := Ground.data }, { on := 8, ground := Ground.chain }], guard := none }) rfl (fun K hK => ?_) AllReadyH.nil
      go_simp
      refine (KS'.out _).mono ?_; rintro e w3 ⟨rfl, hb⟩; (try dsimp only)
      refine hK.out _ _ ?_ (fun hHeld => ?_)
      · exact ⟨cell_over hHeld.1 hb, cell_over hHeld.2.1 hb, cell_over hHeld.2.2.1 hb, cell_over hHeld.2.2.2.1 hb, hHeld.2.2.2.2.trans (hb.mono hHeld.2.2.2.2.size)⟩
      clear hK K
      try simp only [Act.put, List.setIfInBounds_toArray, List.set_cons_zero, List.set_cons_succ]
      refine wpAnyH_done (by kernel_rfl) ?_ _
      unfold onlyNormal
      gi_wp2
      have hBV : Below W.heap.size W w3 := hHeld.2.2.2.2
      exact ⟨(keepsO hBV).from _, ⟨hBV.cell (p := ⟨bb, 0, none⟩) z4, fun h => h.over hBV⟩, bxb b0 hBV (by omega), bxb b1 hBV (by omega), by rw [hsn.out, hrd.out]; simp only [Bool.false_eq_true, if_false, Nat.or_zero]; exact bxb b2 hBV (by omega), bxb b4 hBV z4, hB.trans (hBV.mono hWs)⟩
    | true =>
      have KS' := hide' KS
      clear KS
      gi_wp2
      refine region_round (fun V => V.cell? ⟨w.heap.size, 0, none⟩ = some (.pointer (some ⟨go, 0, none⟩)) ∧ V.cell? ⟨go, 0, none⟩ = some (.slice (some ⟨gp, 0, none⟩) n n) ∧ V.cell? ⟨gp, kk, none⟩ = some (.int .u64 (pk : Int)) ∧ V.cell? ⟨w.heap.size + 1, 0, none⟩ = some (.int .u64 (d : Int)) ∧ Below W.heap.size W V) hmx (noDefer_of (by kernel_rfl)) ?_ (fun hHeld => ?_)
      · exact ⟨c0, c1, c2, c3, (Below.refl _ _).drew⟩
      refine wpAnyH_take (i := 0) (oi := { dst := some 14, op := Op.load 104 (Operand.tmp 2), type := 104, pos := "sets.go:9", after := #[], guard := none }) (v := ?_) rfl (by kernel_rfl) (by kernel_rfl) (by kernel_rfl) (fun _ _ _ h => h) (Or.inl ⟨by rfl, ?_⟩) (by assumption) ?_
      rotate_left
      · intro w hSw; (try dsimp only at hSw); go_simp <;> with_reducible rfl
      simp only [Act.put, List.setIfInBounds_toArray, List.set_cons_zero, List.set_cons_succ]
      refine wpAnyH_take (i := 1) (oi := { dst := some 15, op := Op.nilCheck (Operand.tmp 14), type := 0, pos := "sets.go:9", after := #[{ on := 0, ground := Ground.data }], guard := none }) (v := ?_) rfl (by kernel_rfl) (by kernel_rfl) (by kernel_rfl) (fun _ _ _ h => h) (Or.inl ⟨by rfl, ?_⟩) (by assumption) ?_
      rotate_left
      · intro w hSw; (try dsimp only at hSw); go_simp <;> with_reducible rfl
      simp only [Act.put, List.setIfInBounds_toArray, List.set_cons_zero, List.set_cons_succ]
      refine wpAnyH_take (i := 2) (oi := { dst := some 16, op := Op.fieldAddr 143 (Operand.tmp 15) 0, type := 0, pos := "sets.go:9", after := #[{ on := 1, ground := Ground.data }], guard := none }) (v := ?_) rfl (by kernel_rfl) (by kernel_rfl) (by kernel_rfl) (fun _ _ _ h => h) (Or.inl ⟨by rfl, ?_⟩) (by assumption) ?_
      rotate_left
      · intro w hSw; (try dsimp only at hSw); go_simp <;> with_reducible rfl
      simp only [Act.put, List.setIfInBounds_toArray, List.set_cons_zero, List.set_cons_succ]
      refine wpAnyH_take (i := 3) (oi := { dst := some 17, op := Op.load 141 (Operand.tmp 16), type := 141, pos := "sets.go:9", after := #[{ on := 2, ground := Ground.data }], guard := none }) (v := ?_) rfl (by kernel_rfl) (by kernel_rfl) (by kernel_rfl) (fun _ _ _ h => h) (Or.inl ⟨by rfl, ?_⟩) (by assumption) ?_
      rotate_left
      · intro w hSw; (try dsimp only at hSw); go_simp <;> with_reducible rfl
      simp only [Act.put, List.setIfInBounds_toArray, List.set_cons_zero, List.set_cons_succ]
      refine wpAnyH_take (i := 4) (oi := { dst := some 18, op := Op.move (Operand.tmp 6), type := 3, pos := "sets.go:9", after := #[], guard := none }) (v := ?_) rfl (by kernel_rfl) (by kernel_rfl) (by kernel_rfl) (fun _ _ _ h => h) (Or.inl ⟨by rfl, ?_⟩) (by assumption) ?_
      rotate_left
      · intro w hSw; (try dsimp only at hSw); go_simp <;> with_reducible rfl
      simp only [Act.put, List.setIfInBounds_toArray, List.set_cons_zero, List.set_cons_succ]
      refine wpAnyH_take (i := 5) (oi := { dst := some 19, op := Op.indexAddr 141 (Operand.tmp 17) (Operand.tmp 18), type := 0, pos := "sets.go:9", after := #[{ on := 3, ground := Ground.data }, { on := 4, ground := Ground.data }], guard := none }) (v := ?_) rfl (by kernel_rfl) (by kernel_rfl) (by kernel_rfl) (fun _ _ _ h => h) (Or.inl ⟨by rfl, ?_⟩) (by assumption) ?_
      rotate_left
      · intro w hSw; (try dsimp only at hSw); go_simp <;> with_reducible rfl
      simp only [Act.put, List.setIfInBounds_toArray, List.set_cons_zero, List.set_cons_succ]
      refine wpAnyH_take (i := 6) (oi := { dst := some 20, op := Op.load 136 (Operand.tmp 19), type := 136, pos := "sets.go:9", after := #[{ on := 5, ground := Ground.data }], guard := none }) (v := ?_) rfl (by kernel_rfl) (by kernel_rfl) (by kernel_rfl) (fun _ _ _ h => h) (Or.inl ⟨by rfl, ?_⟩) (by assumption) ?_
      rotate_left
      · intro w hSw; (try dsimp only at hSw); go_simp <;> with_reducible rfl
      simp only [Act.put, List.setIfInBounds_toArray, List.set_cons_zero, List.set_cons_succ]
      refine wpAnyH_take (i := 7) (oi := { dst := some 21, op := Op.load 46 (Operand.tmp 3), type := 46, pos := "sets.go:9", after := #[], guard := none }) (v := ?_) rfl (by kernel_rfl) (by kernel_rfl) (by kernel_rfl) (fun _ _ _ h => h) (Or.inl ⟨by rfl, ?_⟩) (by assumption) ?_
      rotate_left
      · intro w hSw; (try dsimp only at hSw); go_simp <;> with_reducible rfl
      simp only [Act.put, List.setIfInBounds_toArray, List.set_cons_zero, List.set_cons_succ]
      refine wpAnyH_ready (rs := [8]) (by kernel_rfl) (by simp) ?_
      refine AllReadyH.cons (o := { dst := some 22, op := Op.call { callee := Callee.value (Operand.func 92), args := #[Operand.tmp 21], argTypes := #[46] }, type := 136, pos := "sets.go:9", after := #[{ on := 7, ground := Ground.data }], guard := none }) rfl (fun K hK => ?_) AllReadyH.nil
      go_simp
      refine (ofO _ _).mono ?_; rintro e w2 ⟨rfl, hb⟩; (try dsimp only)
      refine hK.out _ _ ?_ (fun hHeld => ?_)
      · exact ⟨cell_over hHeld.1 hb, cell_over hHeld.2.1 hb, cell_over hHeld.2.2.1 hb, cell_over hHeld.2.2.2.1 hb, hHeld.2.2.2.2.trans (hb.mono hHeld.2.2.2.2.size)⟩
      clear hK K
      try simp only [Act.put, List.setIfInBounds_toArray, List.set_cons_zero, List.set_cons_succ]
      refine wpAnyH_ready (rs := [9]) (by kernel_rfl) (by simp) ?_
      refine AllReadyH.cons (o := { dst := some 23, op := Op.call { callee := Callee.value (Operand.func 94), args := #[Operand.tmp 20, Operand.tmp 22], argTypes := #[136, 136] }, type := 4, pos := "sets.go:9", after := #[{ on := 6, ground := Ground.data }, { on := 8, ground := Ground.data }, { on := 8, ground := Ground.chain }], guard := none }) rfl (fun K hK => ?_) AllReadyH.nil
      go_simp
      refine (KS'.out _).mono ?_; rintro e w3 ⟨rfl, hb⟩; (try dsimp only)
      refine hK.out _ _ ?_ (fun hHeld => ?_)
      · exact ⟨cell_over hHeld.1 hb, cell_over hHeld.2.1 hb, cell_over hHeld.2.2.1 hb, cell_over hHeld.2.2.2.1 hb, hHeld.2.2.2.2.trans (hb.mono hHeld.2.2.2.2.size)⟩
      clear hK K
      try simp only [Act.put, List.setIfInBounds_toArray, List.set_cons_zero, List.set_cons_succ]
      refine wpAnyH_done (by kernel_rfl) ?_ _
      unfold onlyNormal
      gi_wp2
      have hBW3 : Below W.heap.size W w3 := hHeld.2.2.2.2
      have bA3 := bxb b2 hBW3 (by omega)
      have z3 := hBW3.size
      have e2 := bA3.cell
      have f2 := bA3.frozen
      clear hHeld KS' c0 c1 c2 c3
      refine region_round (fun V => (∃ u, V.cell? ⟨w.heap.size + 1 + 1, 0, none⟩ = some u) ∧ V.frozen? ⟨w.heap.size + 1 + 1, 0, none⟩ = false) hmx (noDefer_of (by kernel_rfl)) ?_ (fun hHeld => ?_)
      · exact ⟨⟨_, e2⟩, f2⟩
      refine wpAnyH_take (i := 1) (oi := { dst := some 25, op := Op.move (Operand.tmp 6), type := 3, pos := "sets.go:10", after := #[], guard := none }) (v := ?_) rfl (by kernel_rfl) (by kernel_rfl) (by kernel_rfl) (fun _ _ _ h => h) (Or.inl ⟨by rfl, ?_⟩) (by assumption) ?_
      rotate_left
      · intro w hSw; (try dsimp only at hSw); go_simp <;> with_reducible rfl
      simp only [Act.put, List.setIfInBounds_toArray, List.set_cons_zero, List.set_cons_succ]
      refine wpAnyH_ready (rs := [0, 2]) (by kernel_rfl) (by simp) ?_
      refine AllReadyH.cons (o := { dst := some 24, op := Op.load 136 (Operand.tmp 5), type := 136, pos := "sets.go:10", after := #[], guard := none }) rfl (fun K hK => ?_) ?_
      · skip
        go_simp
        refine hK.out _ _ ?_ (fun hHeld => ?_)
        · first | exact hHeld | exact ⟨⟨_, e2⟩, f2⟩
        clear hK K
        try simp only [Act.put, List.setIfInBounds_toArray, List.set_cons_zero, List.set_cons_succ]
        refine wpAnyH_ready (rs := [2]) (by kernel_rfl) (by simp) ?_
        refine AllReadyH.cons (o := { dst := some 26, op := Op.call { callee := Callee.value (Operand.func 96), args := #[Operand.tmp 25], argTypes := #[3] }, type := 136, pos := "sets.go:10", after := #[{ on := 1, ground := Ground.data }], guard := none }) rfl (fun K hK => ?_) AllReadyH.nil
        go_simp
        refine (KY.out _).mono ?_; rintro e w4 ⟨rfl, hb⟩; (try dsimp only); have hB4 : Below w3.heap.size w3 w4 := ((Below.refl _ w3).drew).trans hb; have bA4 := bxb bA3 hB4 (by omega); have cA4 := bA4.cell; have fA4 := bA4.frozen
        refine hK.out _ _ ?_ (fun hHeld => ?_)
        · exact ⟨⟨_, cA4⟩, fA4⟩
        clear hK K
        try simp only [Act.put, List.setIfInBounds_toArray, List.set_cons_zero, List.set_cons_succ]
        refine wpAnyH_ready (rs := [3]) (by kernel_rfl) (by simp) ?_
        refine AllReadyH.cons (o := { dst := some 27, op := Op.call { callee := Callee.value (Operand.func 95), args := #[Operand.tmp 24, Operand.tmp 26], argTypes := #[136, 136] }, type := 136, pos := "sets.go:10", after := #[{ on := 0, ground := Ground.data }, { on := 2, ground := Ground.data }, { on := 2, ground := Ground.chain }], guard := none }) rfl (fun K hK => ?_) AllReadyH.nil
        go_simp
        refine (KO.out _).mono ?_; rintro e w5 ⟨rfl, hb5⟩; (try dsimp only); have hB5 : Below w3.heap.size w3 w5 := hB4.trans (hb5.mono hB4.size); have bA5 := bxb bA3 hB5 (by omega); have cA5 := bA5.cell; have fA5 := bA5.frozen; have hBV : Below W.heap.size W w5 := hBW3.trans (hB5.mono hBW3.size)
        refine hK.out _ _ ?_ (fun hHeld => ?_)
        · exact ⟨⟨_, cA5⟩, fA5⟩
        clear hK K
        try simp only [Act.put, List.setIfInBounds_toArray, List.set_cons_zero, List.set_cons_succ]
        refine wpAnyH_ready (rs := [4]) (by kernel_rfl) (by simp) ?_
        refine AllReadyH.cons (o := { dst := none, op := Op.store 136 (Operand.tmp 5) (Operand.tmp 27), type := 0, pos := "sets.go:10", after := #[{ on := 3, ground := Ground.data }, { on := 3, ground := Ground.chain }, { on := 0, ground := Ground.phase }, { on := 1, ground := Ground.phase }, { on := 2, ground := Ground.phase }, { on := 3, ground := Ground.phase }], guard := none }) rfl (fun K hK => ?_) AllReadyH.nil
        go_simp
        refine hK.out _ _ ?_ (fun hHeld => ?_)
        · exact ⟨⟨_, (bA5.set _).cell⟩, (bA5.set _).frozen⟩
        clear hK K
        try simp only [Act.put, List.setIfInBounds_toArray, List.set_cons_zero, List.set_cons_succ]
        refine wpAnyH_done (by kernel_rfl) ?_ _
        unfold onlyNormal
        gi_wp2
        have b4p := (bxb b4 hBV z4).other (B' := w.heap.size + 1 + 1) (by omega) (.int .u64 ((acc ||| pw : Nat) : Int))
        have hBE : Below w.heap.size W (_ : World) := (hBV.mono hWs).setCell (p := ⟨w.heap.size + 1 + 1, 0, none⟩) (by show w.heap.size ≤ w.heap.size + 1 + 1; omega) (.int .u64 ((acc ||| pw : Nat) : Int))
        exact ⟨((keepsO hBV).trans (KeepsOthers.setCell _ _ _)).from _, ⟨b4p.cell.trans b4.cell.symm, fun h => h.below h3 hBE⟩, (bxb b0 hBV (by omega)).other (by omega) _, (bxb b1 hBV (by omega)).other (by omega) _, by rw [hsn.out, hrd.out]; simp only [if_true]; exact (bxb b2 hBV (by omega)).set _, b4p, hB.trans hBE⟩
      refine AllReadyH.cons (o := { dst := some 26, op := Op.call { callee := Callee.value (Operand.func 96), args := #[Operand.tmp 25], argTypes := #[3] }, type := 136, pos := "sets.go:10", after := #[{ on := 1, ground := Ground.data }], guard := none }) rfl (fun K hK => ?_) AllReadyH.nil
      go_simp
      refine (KY.out _).mono ?_; rintro e w4 ⟨rfl, hb⟩; (try dsimp only); have hB4 : Below w3.heap.size w3 w4 := ((Below.refl _ w3).drew).trans hb; have bA4 := bxb bA3 hB4 (by omega); have cA4 := bA4.cell; have fA4 := bA4.frozen
      refine hK.out _ _ ?_ (fun hHeld => ?_)
      · exact ⟨⟨_, cA4⟩, fA4⟩
      clear hK K
      try simp only [Act.put, List.setIfInBounds_toArray, List.set_cons_zero, List.set_cons_succ]
      refine wpAnyH_ready (rs := [0]) (by kernel_rfl) (by simp) ?_
      refine AllReadyH.cons (o := { dst := some 24, op := Op.load 136 (Operand.tmp 5), type := 136, pos := "sets.go:10", after := #[], guard := none }) rfl (fun K hK => ?_) AllReadyH.nil
      go_simp
      refine hK.out _ _ ?_ (fun hHeld => ?_)
      · first | exact hHeld | exact ⟨⟨_, e2⟩, f2⟩
      clear hK K
      try simp only [Act.put, List.setIfInBounds_toArray, List.set_cons_zero, List.set_cons_succ]
      refine wpAnyH_ready (rs := [3]) (by kernel_rfl) (by simp) ?_
      refine AllReadyH.cons (o := { dst := some 27, op := Op.call { callee := Callee.value (Operand.func 95), args := #[Operand.tmp 24, Operand.tmp 26], argTypes := #[136, 136] }, type := 136, pos := "sets.go:10", after := #[{ on := 0, ground := Ground.data }, { on := 2, ground := Ground.data }, { on := 2, ground := Ground.chain }], guard := none }) rfl (fun K hK => ?_) AllReadyH.nil
      go_simp
      refine (KO.out _).mono ?_; rintro e w5 ⟨rfl, hb5⟩; (try dsimp only); have hB5 : Below w3.heap.size w3 w5 := hB4.trans (hb5.mono hB4.size); have bA5 := bxb bA3 hB5 (by omega); have cA5 := bA5.cell; have fA5 := bA5.frozen; have hBV : Below W.heap.size W w5 := hBW3.trans (hB5.mono hBW3.size)
      refine hK.out _ _ ?_ (fun hHeld => ?_)
      · exact ⟨⟨_, cA5⟩, fA5⟩
      clear hK K
      try simp only [Act.put, List.setIfInBounds_toArray, List.set_cons_zero, List.set_cons_succ]
      refine wpAnyH_ready (rs := [4]) (by kernel_rfl) (by simp) ?_
      refine AllReadyH.cons (o := { dst := none, op := Op.store 136 (Operand.tmp 5) (Operand.tmp 27), type := 0, pos := "sets.go:10", after := #[{ on := 3, ground := Ground.data }, { on := 3, ground := Ground.chain }, { on := 0, ground := Ground.phase }, { on := 1, ground := Ground.phase }, { on := 2, ground := Ground.phase }, { on := 3, ground := Ground.phase }], guard := none }) rfl (fun K hK => ?_) AllReadyH.nil
      go_simp
      refine hK.out _ _ ?_ (fun hHeld => ?_)
      · exact ⟨⟨_, (bA5.set _).cell⟩, (bA5.set _).frozen⟩
      clear hK K
      try simp only [Act.put, List.setIfInBounds_toArray, List.set_cons_zero, List.set_cons_succ]
      refine wpAnyH_done (by kernel_rfl) ?_ _
      unfold onlyNormal
      gi_wp2
      have b4p := (bxb b4 hBV z4).other (B' := w.heap.size + 1 + 1) (by omega) (.int .u64 ((acc ||| pw : Nat) : Int))
      have hBE : Below w.heap.size W (_ : World) := (hBV.mono hWs).setCell (p := ⟨w.heap.size + 1 + 1, 0, none⟩) (by show w.heap.size ≤ w.heap.size + 1 + 1; omega) (.int .u64 ((acc ||| pw : Nat) : Int))
      exact ⟨((keepsO hBV).trans (KeepsOthers.setCell _ _ _)).from _, ⟨b4p.cell.trans b4.cell.symm, fun h => h.below h3 hBE⟩, (bxb b0 hBV (by omega)).other (by omega) _, (bxb b1 hBV (by omega)).other (by omega) _, by rw [hsn.out, hrd.out]; simp only [if_true]; exact (bxb b2 hBV (by omega)).set _, b4p, hB.trans hBE⟩
  case done =>
    rintro D ys W hD hys ⟨b0, b1, b2, b4, hB⟩ hK
    rw [hys, ← Hrd.out] at b2
    have c2 := b2.cell
    have z4 := b4.lt
    have hWs := hB.size
    have hDW := (Array.getElem?_eq_some_iff.1 hK).1
    obtain ⟨acc, hacc⟩ : ∃ acc, rdW n Pf d = acc := ⟨_, rfl⟩
    rw [hacc] at b2 c2
    have Hacc := hide' hacc
    clear ho hP hin bO1 bD1 bR1 hys Hrd hacc
    go_wp2_with (go_at_call 97; refine (word64 _ _).mono ?_; rintro e w5 ⟨rfl, hb5⟩)
    have hK1 := (hb5.block D hDW).trans hK
    refine ⟨by simp, .inl ⟨_, _, rfl, run_takeDeferred hK1, ?_⟩⟩
    refine ⟨_, results_tmp rfl _ _ _, (by rw [Hacc.out]; rfl), ?_⟩
    exact (hB.trans (hb5.mono hWs)).trans (belowK_b (w := w) (Nat.le_refl _) _ D _ _ (by omega) hK1 rfl rfl)
  case stop =>
    rintro D c pre W _ _ h _
    exact h.elim
theorem readyO (ho : OrdAt w go gp gs n Pf Sf) (hn : n ≤ 64) (hP : ∀ a, a < n → Pf a < 18446744073709551616) (d : Nat) (hd : d < 18446744073709551616) (ht : Tab w) :
    Calls Tryz.prog 55 #[.pointer (some ⟨go, 0, none⟩), .int .u64 d] w fun e W' => e = .returned (.int .u64 (rdW n Pf d : Int)) ∧ Below w.heap.size w W' := callsIn_wide.1 (readyC ho hn hP d hd ht)
end
end Go.Proofs.YtahfobbiaimoiaaGreatDoor.O
namespace Go.Proofs.YtahfobbiaimoiaaGreatDoor.O
open Go.RowKit Go.Shelf
/-- Down, by words. -/
def dnB (n : Nat) (Pf : Nat → Nat) (d : Nat) : Bool := (d &&& (18446744073709551615 - (2 ^ n - 1)) == 0) && (orAll Pf (nums d) &&& (18446744073709551615 - d) == 0)
theorem in_sub {n d : Nat} (hn : n ≤ 64) (hd : d < 18446744073709551616) (h : (d &&& (18446744073709551615 - (2 ^ n - 1)) == 0) = true) : ∀ k ∈ nums d, k.val < n := fun k hk => by
  have := (sub_bits hd (allw_lt hn)).1 h k.val ((mem_nums d k).1 hk)
  rw [Nat.testBit_two_pow_sub_one] at this
  simpa using this
end Go.Proofs.YtahfobbiaimoiaaGreatDoor.O

/- A region that draws its order, inside a round of a range over a function, by a condition that holds behind each of its operations. -/
import Derived.Test.YtlijlelejobchaaGreatDoorJ05
import Derived.RangeFuncNested
import Derived.RangeFuncBound
import Derived.RangeFuncCalls
import Derived.RangeFuncLeaves
import Derived.RangeFuncBox
import Derived.Shelf.Abstract
import Derived.Shelf.RegionOpen
import Derived.OwnWalkIn
import Derived.TacticsInMore
import Derived.LoopNIn
import Derived.LoopIn
import Derived.Maps.AppendAt
import Derived.Deep.RegionHeld3
namespace Go.Proofs.YtlijlelejobchaaGreatDoor.M
open Go.RowKit Go.Shelf
attribute [local go_sem] Oper.semAt_some

theorem grown_none {W w1 : World} (h : Below W.heap.size W w1) : W.grownBy w1 none := ⟨h.os, h.tape, h.output, h.size, fun k hk _ => h.block k hk⟩
/-- What a round that goes on keeps: the set's box, and the library's table. -/
def KpB (Bn : Nat) (W W' : World) : Prop := W'.cell? ⟨Bn, 0, none⟩ = W.cell? ⟨Bn, 0, none⟩ ∧ (Tab W → Tab W')
theorem KpB.t {Bn : Nat} {A B C : World} (h : KpB Bn A B) (k : KpB Bn B C) : KpB Bn A C := ⟨k.1.trans h.1, fun a => k.2 (h.2 a)⟩
theorem KpB.of_below {Bn n : Nat} {A B : World} (h : Below n A B) (h1 : Bn < n) (h2 : 1 ≤ n) : KpB Bn A B := ⟨h.cell (p := ⟨Bn, 0, none⟩) h1, fun a => a.below h2 h⟩
theorem KpB.b {Bn : Nat} {w : World} (h1 : Bn < w.heap.size) (h2 : 1 ≤ w.heap.size) (W : World) (l : Nat) (o o' : Obj) (hl : w.heap.size ≤ l) (h : W.heap[l]? = some o) (a : o.isCells = false) (b : o.isWalk = false) : KpB Bn W (W.putObj l o') :=
  KpB.of_below (belowK_b (n₀ := w.heap.size) (Nat.le_refl _) W l o o' hl h a b) h1 h2

theorem cell_lt {W : World} {b o : Nat} {v : Value} (h : W.cell? ⟨b, o, none⟩ = some v) : b < W.heap.size := by
  rcases Nat.lt_or_ge b W.heap.size with h1 | h1
  · exact h1
  · have : W.heap[b]? = none := Array.getElem?_eq_none h1
    simp [World.cell?, this] at h
/-- How far a loop over numbers still can go. -/
def leftZ (i : Int) : Nat := if i < 0 then 0 else 64 - i.toNat
def leftI (p : Value) : Nat := leftZ (intOf p)
theorem leftI_int (i : Int) : leftI (.int .i64 i) = leftZ i := rfl
theorem leftI_lt {pre rest : List (Fin 64)} {j : Fin 64} {l : List (Fin 64)} (hs : l.Pairwise (· < ·)) (h : l = pre ++ j :: rest) : leftI (.int .i64 (lowI rest)) < leftI (.int .i64 (j.val : Int)) := by
  rw [leftI_int, leftI_int]
  have hj : leftZ (j.val : Int) = 64 - j.val := by unfold leftZ; rw [if_neg (by omega)]; omega
  rw [hj]
  cases rest with
  | nil => show 0 < _; omega
  | cons k r =>
    subst h
    rw [List.pairwise_append] at hs
    have : j.val < k.val := (List.pairwise_cons.1 hs.2.1).1 k (by simp)
    have hk : leftZ (lowI (k :: r)) = 64 - k.val := by show leftZ (k.val : Int) = _; unfold leftZ; rw [if_neg (by omega)]; omega
    rw [hk]; omega
set_option maxRecDepth 100000 in
set_option maxHeartbeats 1000000 in
theorem all1_64 (n l Bn : Nat) (x : Nat) (hx : x < 18446744073709551616) (J Jx : List (Fin 64) → World → Prop)
    (hY : ∀ pre (k : Fin 64) W, J pre W → pre.length < (nums x).length → YieldAt Fence.wide (n - 1) Tryz.prog l #[.int .i64 (k.val : Int)] W fun e W' =>
      (e = .returned (.bool true) ∧ J (pre ++ [k]) W' ∧ KpB Bn W W') ∨ (e = .returned (.bool false) ∧ Jx (pre ++ [k]) W'))
    (W : World) (hBn : Bn < W.heap.size) (hJ : AbidesFrom W.heap.size J) (ht : Tab W) (hc : W.cell? ⟨Bn, 0, none⟩ = some (.int .u64 x)) (h0 : J [] W) :
    CallsIn Fence.wide n Tryz.prog 109 #[.func (.yield l) #[] #[], .pointer (some ⟨Bn, 0, none⟩)] W fun e W' => (∃ v, e = .returned v) ∧
      ((∃ ys, ys = nums x ∧ J ys W') ∨ (∃ pre, pre <+: nums x ∧ Jx pre W')) := by
  refine callsIn_of_wp Tryz.func109 rfl trivial ?_ rfl
  simp only [Tryz.ntmps109, List.size_toArray, List.length_cons, List.length_nil, Nat.reduceAdd, Nat.reduceSub, Array.replicate_succ, Array.replicate_zero, List.push_toArray, List.append_toArray, List.nil_append, List.cons_append]
  gi_wp2_with (refine ⟨trivial, fun h => absurd h (by decide), ?_⟩; gi_at_call 110; refine (callsIn_wide.2 (low64 x hx _ ht)).mono ?_; rintro e w1 ⟨rfl, hb⟩)
  have ht1 : Tab w1 := ht.over hb
  have hc1 : w1.cell? ⟨Bn, 0, none⟩ = some (.int .u64 x) := (hb.cell (p := ⟨Bn, 0, none⟩) hBn).trans hc
  have h01 : J [] w1 := hJ _ _ _ none h0 (grown_none hb) (fun r e => by cases e)
  gi_loopw [3] (fun p wr => ∃ (pre rest : List (Fin 64)) (z : Int), p = .int .i64 z ∧ Hid (z = lowI rest) ∧ Hid (nums x = pre ++ rest) ∧ Tab wr ∧ Bn < wr.heap.size ∧ wr.cell? ⟨Bn, 0, none⟩ = some (.int .u64 x) ∧ J pre wr) (fun p _ => leftI p)
  case atStart =>
    exact ⟨[], nums x, _, rfl, rfl, rfl, ht1, Nat.lt_of_lt_of_le hBn hb.size, hc1, h01⟩
  case round =>
    obtain ⟨pre, rest, z, rfl, hz, hp, htr, hBr, hcr, hJs⟩ := hrel
    cases rest with
    | nil =>
      have e1 : z < 0 := by rw [hz.out]; decide
      gi_wp2
      go_end0
      exact ⟨⟨_, rfl⟩, .inl ⟨pre, by rw [hp.out]; simp, hJs⟩⟩
    | cons k rest =>
      have e1 : 0 ≤ z := by rw [hz.out]; exact Int.natCast_nonneg _
      have e2 : z < 64 := by rw [hz.out]; show (k.val : Int) < 64; omega
      obtain ⟨fn, tmps, assign, body, hy, hR⟩ := hY pre k wr hJs (by rw [hp.out]; simp)
      rw [show (k.val : Int) = z from hz.out.symm] at hy
      gi_wp2
      refine ⟨fun h => absurd h (by decide), hR.mono ?_⟩
      rintro e W3 (⟨rfl, hJ3, hk3⟩ | ⟨rfl, hJx3⟩)
      · have ht3 : Tab W3 := hk3.2 htr
        have hc3 : W3.cell? ⟨Bn, 0, none⟩ = some (.int .u64 x) := hk3.1.trans hcr
        have hB3 : Bn < W3.heap.size := cell_lt hc3
        gi_wp2_with (refine ⟨trivial, fun h => absurd h (by decide), ?_⟩; gi_at_call 111; refine (callsIn_wide.2 (next64 x hx _ _ ht3)).mono ?_; rintro e w4 ⟨rfl, hb4⟩)
        go_roundw
        case rel => exact ⟨pre ++ [k], rest, _, rfl, by rw [hz.out]; exact congrArg lowI (from_snoc (sorted_nums x) hp.out), by show nums x = _; rw [hp.out]; simp, ht3.over hb4, Nat.lt_of_lt_of_le hB3 hb4.size, (hb4.cell (p := ⟨Bn, 0, none⟩) hB3).trans hc3, hJ _ _ _ none hJ3 (grown_none hb4) (fun r e => by cases e)⟩
        case measure =>
          rw [hz.out, show lowI (k :: rest) = (k.val : Int) from rfl, from_snoc (j := k) (sorted_nums x) hp.out]
          exact leftI_lt (sorted_nums x) hp.out
      · gi_wp2
        refine bodyPost_ret (results_none rfl _ _ _) rfl ?_
        exact ⟨⟨_, rfl⟩, .inr ⟨pre ++ [k], ⟨rest, by rw [hp.out]; simp⟩, hJx3⟩⟩
set_option maxHeartbeats 1000000 in
theorem all64 (x : Int) (w : World) :
    Calls Tryz.prog 101 #[.agg #[.int .u64 x]] w fun e w' => e = .returned (.func (.func 109) #[] #[.pointer (some ⟨w.heap.size, 0, none⟩)]) ∧ w' = w.alloc (.cells #[.int .u64 x] 142) := by
  go_enter Tryz.func101, Tryz.ntmps101
  go_wp2
  go_ret
  exact ⟨rfl, rfl⟩
theorem all_stops64 (n Bn x : Nat) (hx : x < 18446744073709551616) (w : World) (hBn : Bn < w.heap.size) (ht : Tab w) (hc : w.cell? ⟨Bn, 0, none⟩ = some (.int .u64 x)) :
    SeqStopsK Fence.wide n Tryz.prog 109 #[.pointer (some ⟨Bn, 0, none⟩)] (fun k : Fin 64 => #[.int .i64 (k.val : Int)]) (KpB Bn) (fun ys => ys = nums x) (fun pre => pre <+: nums x) (nums x).length w := fun l J Jx W hW hJ _ hY h0 =>
  all1_64 n l Bn x hx J Jx hY W (Nat.lt_of_lt_of_le hBn hW.size) hJ (ht.over hW) ((hW.cell (p := ⟨Bn, 0, none⟩) hBn).trans hc) h0
end Go.Proofs.YtlijlelejobchaaGreatDoor.M
namespace Go.Proofs.YtlijlelejobchaaGreatDoor.M
open Go.RowKit Go.Shelf
attribute [local go_sem] Oper.semAt_some
set_option maxRecDepth 100000 in
set_option maxHeartbeats 1000000 in
theorem all1M_64 (n l Bn : Nat) (x : Nat) (hx : x < 18446744073709551616) (J Jx : List (Fin 64) → World → Prop)
    (hY : ∀ pre (k : Fin 64) W, J pre W → pre.length < (nums x).length → k ∈ nums x → YieldAt Fence.wide (n - 1) Tryz.prog l #[.int .i64 (k.val : Int)] W fun e W' =>
      (e = .returned (.bool true) ∧ J (pre ++ [k]) W' ∧ KpB Bn W W') ∨ (e = .returned (.bool false) ∧ Jx (pre ++ [k]) W'))
    (W : World) (hBn : Bn < W.heap.size) (hJ : AbidesFrom W.heap.size J) (ht : Tab W) (hc : W.cell? ⟨Bn, 0, none⟩ = some (.int .u64 x)) (h0 : J [] W) :
    CallsIn Fence.wide n Tryz.prog 109 #[.func (.yield l) #[] #[], .pointer (some ⟨Bn, 0, none⟩)] W fun e W' => (∃ v, e = .returned v) ∧
      ((∃ ys, ys = nums x ∧ J ys W') ∨ (∃ pre, pre <+: nums x ∧ Jx pre W')) := by
  refine callsIn_of_wp Tryz.func109 rfl trivial ?_ rfl
  simp only [Tryz.ntmps109, List.size_toArray, List.length_cons, List.length_nil, Nat.reduceAdd, Nat.reduceSub, Array.replicate_succ, Array.replicate_zero, List.push_toArray, List.append_toArray, List.nil_append, List.cons_append]
  gi_wp2_with (refine ⟨trivial, fun h => absurd h (by decide), ?_⟩; gi_at_call 110; refine (callsIn_wide.2 (low64 x hx _ ht)).mono ?_; rintro e w1 ⟨rfl, hb⟩)
  have ht1 : Tab w1 := ht.over hb
  have hc1 : w1.cell? ⟨Bn, 0, none⟩ = some (.int .u64 x) := (hb.cell (p := ⟨Bn, 0, none⟩) hBn).trans hc
  have h01 : J [] w1 := hJ _ _ _ none h0 (grown_none hb) (fun r e => by cases e)
  gi_loopw [3] (fun p wr => ∃ (pre rest : List (Fin 64)) (z : Int), p = .int .i64 z ∧ Hid (z = lowI rest) ∧ Hid (nums x = pre ++ rest) ∧ Tab wr ∧ Bn < wr.heap.size ∧ wr.cell? ⟨Bn, 0, none⟩ = some (.int .u64 x) ∧ J pre wr) (fun p _ => leftI p)
  case atStart =>
    exact ⟨[], nums x, _, rfl, rfl, rfl, ht1, Nat.lt_of_lt_of_le hBn hb.size, hc1, h01⟩
  case round =>
    obtain ⟨pre, rest, z, rfl, hz, hp, htr, hBr, hcr, hJs⟩ := hrel
    cases rest with
    | nil =>
      have e1 : z < 0 := by rw [hz.out]; decide
      gi_wp2
      go_end0
      exact ⟨⟨_, rfl⟩, .inl ⟨pre, by rw [hp.out]; simp, hJs⟩⟩
    | cons k rest =>
      have e1 : 0 ≤ z := by rw [hz.out]; exact Int.natCast_nonneg _
      have e2 : z < 64 := by rw [hz.out]; show (k.val : Int) < 64; omega
      obtain ⟨fn, tmps, assign, body, hy, hR⟩ := hY pre k wr hJs (by rw [hp.out]; simp) (by rw [hp.out]; simp)
      rw [show (k.val : Int) = z from hz.out.symm] at hy
      gi_wp2
      refine ⟨fun h => absurd h (by decide), hR.mono ?_⟩
      rintro e W3 (⟨rfl, hJ3, hk3⟩ | ⟨rfl, hJx3⟩)
      · have ht3 : Tab W3 := hk3.2 htr
        have hc3 : W3.cell? ⟨Bn, 0, none⟩ = some (.int .u64 x) := hk3.1.trans hcr
        have hB3 : Bn < W3.heap.size := cell_lt hc3
        gi_wp2_with (refine ⟨trivial, fun h => absurd h (by decide), ?_⟩; gi_at_call 111; refine (callsIn_wide.2 (next64 x hx _ _ ht3)).mono ?_; rintro e w4 ⟨rfl, hb4⟩)
        go_roundw
        case rel => exact ⟨pre ++ [k], rest, _, rfl, by rw [hz.out]; exact congrArg lowI (from_snoc (sorted_nums x) hp.out), by show nums x = _; rw [hp.out]; simp, ht3.over hb4, Nat.lt_of_lt_of_le hB3 hb4.size, (hb4.cell (p := ⟨Bn, 0, none⟩) hB3).trans hc3, hJ _ _ _ none hJ3 (grown_none hb4) (fun r e => by cases e)⟩
        case measure =>
          rw [hz.out, show lowI (k :: rest) = (k.val : Int) from rfl, from_snoc (j := k) (sorted_nums x) hp.out]
          exact leftI_lt (sorted_nums x) hp.out
      · gi_wp2
        refine bodyPost_ret (results_none rfl _ _ _) rfl ?_
        exact ⟨⟨_, rfl⟩, .inr ⟨pre ++ [k], ⟨rest, by rw [hp.out]; simp⟩, hJx3⟩⟩
/-- The numbers of a set. -/
abbrev In (x : Nat) := { k : Fin 64 // k ∈ nums x }
/-- The plain row of them. -/
def plain {x : Nat} (l : List (In x)) : List (Fin 64) := l.map (·.val)
theorem plain_snoc {x : Nat} (l : List (In x)) (k : In x) : plain (l ++ [k]) = plain l ++ [k.val] := by simp [plain]
theorem all_mem (n Bn x : Nat) (hx : x < 18446744073709551616) (w : World) (hBn : Bn < w.heap.size) (ht : Tab w) (hc : w.cell? ⟨Bn, 0, none⟩ = some (.int .u64 x)) :
    SeqStopsK Fence.wide n Tryz.prog 109 #[.pointer (some ⟨Bn, 0, none⟩)] (fun k : In x => #[.int .i64 (k.val.val : Int)]) (KpB Bn) (fun ys => plain ys = nums x) (fun pre => plain pre <+: nums x) (nums x).length w := fun l J Jx W hW hJ _ hY h0 => by
  refine (all1M_64 n l Bn x hx (fun pre V => ∃ p : List (In x), plain p = pre ∧ J p V) (fun pre V => ∃ p : List (In x), plain p = pre ∧ Jx p V) ?_ W (Nat.lt_of_lt_of_le hBn hW.size) ?_ (ht.over hW) ((hW.cell (p := ⟨Bn, 0, none⟩) hBn).trans hc) ⟨[], rfl, h0⟩).mono ?_
  · rintro pre k V ⟨p, rfl, hj⟩ hlt hk
    obtain ⟨fn, tmps, assign, body, hy, hR⟩ := hY p ⟨k, hk⟩ V hj (by simpa [plain] using hlt)
    refine ⟨fn, tmps, assign, body, hy, hR.mono ?_⟩
    rintro e V' (⟨he, h1, h2⟩ | ⟨he, h1⟩)
    · exact .inl ⟨he, ⟨_, plain_snoc p ⟨k, hk⟩, h1⟩, h2⟩
    · exact .inr ⟨he, ⟨_, plain_snoc p ⟨k, hk⟩, h1⟩⟩
  · rintro s X Y row ⟨p, hp, hj⟩ hg hr
    exact ⟨p, hp, hJ p X Y row hj hg hr⟩
  · rintro e V ⟨hv, (⟨ys, hys, p, hp, hj⟩ | ⟨pre, hpre, p, hp, hj⟩)⟩
    · exact ⟨hv, .inl ⟨p, hp.trans hys, hj⟩⟩
    · exact ⟨hv, .inr ⟨p, by show plain p <+: nums x; rw [hp]; exact hpre, hj⟩⟩
end Go.Proofs.YtlijlelejobchaaGreatDoor.M
namespace Go.Proofs.YtlijlelejobchaaGreatDoor.M
/-- No operation of the region is a defer statement, none leaves for a row. -/
def noDefer (ops : Array Oper) : Prop := ∀ (i : Nat) (o : Oper), ops[i]? = some o → ∀ c, o.op ≠ .defer c
def noDeferB (ops : Array Oper) : Bool := ops.all fun o => match o.op with
  | .defer _ => false
  | _ => true
theorem noDefer_of {ops : Array Oper} (h : noDeferB ops = true) : noDefer ops := fun i o ho c e => by
  unfold noDeferB at h
  rw [Array.all_eq_true] at h
  obtain ⟨hi, rfl⟩ := Array.getElem?_eq_some_iff.1 ho
  have := h i hi
  rw [e] at this
  cases this
theorem rowsIn_wide {n : Nat} {P : Program} {row : String} {args : Array Value} {w : World} {R : Value → World → Prop} (l : Nat) (h : Rows P row args w R) : RowsIn (Fence.wide.inRound l) n P row args w R := fun c cs _ => by
  obtain ⟨v, w', r, s⟩ := h c cs
  exact ⟨v, w', r, stepsIn_wide.2 s⟩
theorem wpOp_round {P : Program} {ops : Array Oper} {Q : Exit → Act → World → Prop} {i n l : Nat} {K : Act → World → Prop} {a : Act} {w : World} (hn : noDefer ops) (hQ : ¬ LetsOut Q) (h : wpOp P ops Q i K a w) : wpOpIn (Fence.wide.inRound l) n P ops Q i K a w := by
  unfold wpOp at h
  unfold wpOpIn
  split
  · rename_i e; rw [e] at h; exact h
  · rename_i o e
    rw [e] at h
    simp only [] at h
    split
    · rename_i hw
      rw [if_pos hw] at h
      rcases h with h | h
      · refine ⟨fun _ _ => trivial, ?_⟩
        rw [Oper.semAt_eq _ _ _ (hn i o e)]
        unfold Oper.wp at h
        generalize (execOp a.eval o).run P w = r at *
        cases r with
        | ok x w' =>
          cases x <;> simp only [Oper.upon] at h <;> simp only [Oper.uponIn]
          all_goals first
            | exact h
            | exact ⟨(fun h => by cases h), CallsIn.inRound l (callsIn_wide.2 h)⟩
            | exact ⟨(fun h => by cases h), rowsIn_wide l h⟩
        | halt x w' => cases x <;> simp only [Oper.upon] at h <;> simp only [Oper.uponIn]; exact h
      · exact absurd h.2 hQ
    · rename_i hw
      rw [if_neg hw] at h
      exact ⟨fun _ _ => trivial, h⟩
theorem wpAny_round {P : Program} {md : Region.Mode} {ops : Array Oper} {Q : Exit → Act → World → Prop} {n l : Nat} (hn : noDefer ops) (hQ : ¬ LetsOut Q) :
    ∀ (fuel : Nat) (listed : Array Bool) (a : Act) (w : World), wpAny P md ops Q fuel listed a w → wpAnyIn (Fence.wide.inRound l) n P md ops Q fuel listed a w
  | 0, _, _, _, h => h
  | fuel + 1, _, _, _, h => ⟨h.1, fun i hi => wpOp_round hn hQ (wpOp_mono (fun a' w' h' => wpAny_round hn hQ fuel _ a' w' h') (h.2 i hi))⟩
/-- The post of a region that ends as it should alone. -/
def onlyNormal (R : Act → World → Prop) : Exit → Act → World → Prop
  | .normal, a, w => R a w
  | _, _, _ => False
theorem region_round {P : Program} {ops : Array Oper} {Q : Exit → Act → World → Prop} {id n l : Nat} {a : Act} {w : World} (S : World → Prop) (hm : P.follows .mixedOrders = true) (hn : noDefer ops) (hS : S w.drew)
    (h : S w.drew → wpAnyH P .any ops (onlyNormal (Q .normal)) S ops.size (Array.replicate ops.size false) a w.drew) : (Code.region id ops true).wpIn (Fence.wide.inRound l) n P Q a w := by
  refine wpIn_mono (Q := onlyNormal (Q .normal)) (wpIn_region_any hm (wpAny_round hn (fun ⟨_, _, h⟩ => h) _ _ _ _ (wpAny_of_held _ _ _ _ (h hS)))) fun e a' w' h => ?_
  cases e <;> first | exact h | exact h.elim
end Go.Proofs.YtlijlelejobchaaGreatDoor.M

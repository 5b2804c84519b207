/- Choose's iterator, walked. -/
import Derived.Test.YtmoiedlchcceaaaDoorJ03
import Derived.RangeFuncNested
import Derived.RangeFuncBound
import Derived.RangeFuncCalls
import Derived.RangeFuncLeaves
import Derived.RangeFuncBox
import Derived.Shelf.Abstract
import Derived.Shelf.RegionOpen
import Derived.OwnWalkIn
import Derived.TacticsInMore
import Derived.LoopNIn
import Derived.LoopIn
import Derived.Maps.AppendAt
import Derived.Deep.RegionHeld3
namespace Go.Proofs.YtmoiedlchcceaaaDoor
open Go.RowKit Go.Shelf
attribute [local go_sem] Oper.semAt_some

theorem grown_none {W w1 : World} (h : Below W.heap.size W w1) : W.grownBy w1 none := ⟨h.os, h.tape, h.output, h.size, fun k hk _ => h.block k hk⟩
/-- What a round that goes on keeps: the set's box, and the library's table. -/
def KpB (Bn : Nat) (W W' : World) : Prop := W'.cell? ⟨Bn, 0, none⟩ = W.cell? ⟨Bn, 0, none⟩ ∧ (Tab W → Tab W')
theorem KpB.t {Bn : Nat} {A B C : World} (h : KpB Bn A B) (k : KpB Bn B C) : KpB Bn A C := ⟨k.1.trans h.1, fun a => k.2 (h.2 a)⟩
theorem KpB.of_below {Bn n : Nat} {A B : World} (h : Below n A B) (h1 : Bn < n) (h2 : 1 ≤ n) : KpB Bn A B := ⟨h.cell (p := ⟨Bn, 0, none⟩) h1, fun a => a.below h2 h⟩
theorem KpB.b {Bn : Nat} {w : World} (h1 : Bn < w.heap.size) (h2 : 1 ≤ w.heap.size) (W : World) (l : Nat) (o o' : Obj) (hl : w.heap.size ≤ l) (h : W.heap[l]? = some o) (a : o.isCells = false) (b : o.isWalk = false) : KpB Bn W (W.putObj l o') :=
  KpB.of_below (belowK_b (n₀ := w.heap.size) (Nat.le_refl _) W l o o' hl h a b) h1 h2

theorem cell_lt {W : World} {b o : Nat} {v : Value} (h : W.cell? ⟨b, o, none⟩ = some v) : b < W.heap.size := by
  rcases Nat.lt_or_ge b W.heap.size with h1 | h1
  · exact h1
  · have : W.heap[b]? = none := Array.getElem?_eq_none h1
    simp [World.cell?, this] at h
/-- How far a loop over numbers still can go. -/
def leftZ (i : Int) : Nat := if i < 0 then 0 else 64 - i.toNat
def leftI (p : Value) : Nat := leftZ (intOf p)
theorem leftI_int (i : Int) : leftI (.int .i64 i) = leftZ i := rfl
theorem leftI_lt {pre rest : List (Fin 64)} {j : Fin 64} {l : List (Fin 64)} (hs : l.Pairwise (· < ·)) (h : l = pre ++ j :: rest) : leftI (.int .i64 (lowI rest)) < leftI (.int .i64 (j.val : Int)) := by
  rw [leftI_int, leftI_int]
  have hj : leftZ (j.val : Int) = 64 - j.val := by unfold leftZ; rw [if_neg (by omega)]; omega
  rw [hj]
  cases rest with
  | nil => show 0 < _; omega
  | cons k r =>
    subst h
    rw [List.pairwise_append] at hs
    have : j.val < k.val := (List.pairwise_cons.1 hs.2.1).1 k (by simp)
    have hk : leftZ (lowI (k :: r)) = 64 - k.val := by show leftZ (k.val : Int) = _; unfold leftZ; rw [if_neg (by omega)]; omega
    rw [hk]; omega
set_option maxRecDepth 100000 in
set_option maxHeartbeats 1000000 in
theorem all1_64 (n l Bn : Nat) (x : Nat) (hx : x < 18446744073709551616) (J Jx : List (Fin 64) → World → Prop)
    (hY : ∀ pre (k : Fin 64) W, J pre W → pre.length < (nums x).length → YieldAt Fence.wide (n - 1) Tryd.prog l #[.int .i64 (k.val : Int)] W fun e W' =>
      (e = .returned (.bool true) ∧ J (pre ++ [k]) W' ∧ KpB Bn W W') ∨ (e = .returned (.bool false) ∧ Jx (pre ++ [k]) W'))
    (W : World) (hBn : Bn < W.heap.size) (hJ : AbidesFrom W.heap.size J) (ht : Tab W) (hc : W.cell? ⟨Bn, 0, none⟩ = some (.int .u64 x)) (h0 : J [] W) :
    CallsIn Fence.wide n Tryd.prog 44 #[.func (.yield l) #[] #[], .pointer (some ⟨Bn, 0, none⟩)] W fun e W' => (∃ v, e = .returned v) ∧
      ((∃ ys, ys = nums x ∧ J ys W') ∨ (∃ pre, pre <+: nums x ∧ Jx pre W')) := by
  refine callsIn_of_wp Tryd.func44 rfl trivial ?_ rfl
  simp only [Tryd.ntmps44, List.size_toArray, List.length_cons, List.length_nil, Nat.reduceAdd, Nat.reduceSub, Array.replicate_succ, Array.replicate_zero, List.push_toArray, List.append_toArray, List.nil_append, List.cons_append]
  gi_wp2_with (refine ⟨trivial, fun h => absurd h (by decide), ?_⟩; gi_at_call 45; refine (callsIn_wide.2 (low64 x hx _ ht)).mono ?_; rintro e w1 ⟨rfl, hb⟩)
  have ht1 : Tab w1 := ht.over hb
  have hc1 : w1.cell? ⟨Bn, 0, none⟩ = some (.int .u64 x) := (hb.cell (p := ⟨Bn, 0, none⟩) hBn).trans hc
  have h01 : J [] w1 := hJ _ _ _ none h0 (grown_none hb) (fun r e => by cases e)
  gi_loopw [3] (fun p wr => ∃ (pre rest : List (Fin 64)) (z : Int), p = .int .i64 z ∧ Hid (z = lowI rest) ∧ Hid (nums x = pre ++ rest) ∧ Tab wr ∧ Bn < wr.heap.size ∧ wr.cell? ⟨Bn, 0, none⟩ = some (.int .u64 x) ∧ J pre wr) (fun p _ => leftI p)
  case atStart =>
    exact ⟨[], nums x, _, rfl, rfl, rfl, ht1, Nat.lt_of_lt_of_le hBn hb.size, hc1, h01⟩
  case round =>
    obtain ⟨pre, rest, z, rfl, hz, hp, htr, hBr, hcr, hJs⟩ := hrel
    cases rest with
    | nil =>
      have e1 : z < 0 := by rw [hz.out]; decide
      gi_wp2
      go_end0
      exact ⟨⟨_, rfl⟩, .inl ⟨pre, by rw [hp.out]; simp, hJs⟩⟩
    | cons k rest =>
      have e1 : 0 ≤ z := by rw [hz.out]; exact Int.natCast_nonneg _
      have e2 : z < 64 := by rw [hz.out]; show (k.val : Int) < 64; omega
      obtain ⟨fn, tmps, assign, body, hy, hR⟩ := hY pre k wr hJs (by rw [hp.out]; simp)
      rw [show (k.val : Int) = z from hz.out.symm] at hy
      gi_wp2
      refine ⟨fun h => absurd h (by decide), hR.mono ?_⟩
      rintro e W3 (⟨rfl, hJ3, hk3⟩ | ⟨rfl, hJx3⟩)
      · have ht3 : Tab W3 := hk3.2 htr
        have hc3 : W3.cell? ⟨Bn, 0, none⟩ = some (.int .u64 x) := hk3.1.trans hcr
        have hB3 : Bn < W3.heap.size := cell_lt hc3
        gi_wp2_with (refine ⟨trivial, fun h => absurd h (by decide), ?_⟩; gi_at_call 46; refine (callsIn_wide.2 (next64 x hx _ _ ht3)).mono ?_; rintro e w4 ⟨rfl, hb4⟩)
        go_roundw
        case rel => exact ⟨pre ++ [k], rest, _, rfl, by rw [hz.out]; exact congrArg lowI (from_snoc (sorted_nums x) hp.out), by show nums x = _; rw [hp.out]; simp, ht3.over hb4, Nat.lt_of_lt_of_le hB3 hb4.size, (hb4.cell (p := ⟨Bn, 0, none⟩) hB3).trans hc3, hJ _ _ _ none hJ3 (grown_none hb4) (fun r e => by cases e)⟩
        case measure =>
          rw [hz.out, show lowI (k :: rest) = (k.val : Int) from rfl, from_snoc (j := k) (sorted_nums x) hp.out]
          exact leftI_lt (sorted_nums x) hp.out
      · gi_wp2
        refine bodyPost_ret (results_none rfl _ _ _) rfl ?_
        exact ⟨⟨_, rfl⟩, .inr ⟨pre ++ [k], ⟨rest, by rw [hp.out]; simp⟩, hJx3⟩⟩
set_option maxHeartbeats 1000000 in
theorem all64 (x : Int) (w : World) :
    Calls Tryd.prog 24 #[.agg #[.int .u64 x]] w fun e w' => e = .returned (.func (.func 44) #[] #[.pointer (some ⟨w.heap.size, 0, none⟩)]) ∧ w' = w.alloc (.cells #[.int .u64 x] 60) := by
  go_enter Tryd.func24, Tryd.ntmps24
  go_wp2
  go_ret
  exact ⟨rfl, rfl⟩
theorem all_stops64 (n Bn x : Nat) (hx : x < 18446744073709551616) (w : World) (hBn : Bn < w.heap.size) (ht : Tab w) (hc : w.cell? ⟨Bn, 0, none⟩ = some (.int .u64 x)) :
    SeqStopsK Fence.wide n Tryd.prog 44 #[.pointer (some ⟨Bn, 0, none⟩)] (fun k : Fin 64 => #[.int .i64 (k.val : Int)]) (KpB Bn) (fun ys => ys = nums x) (fun pre => pre <+: nums x) (nums x).length w := fun l J Jx W hW hJ _ hY h0 =>
  all1_64 n l Bn x hx J Jx hY W (Nat.lt_of_lt_of_le hBn hW.size) hJ (ht.over hW) ((hW.cell (p := ⟨Bn, 0, none⟩) hBn).trans hc) h0
end Go.Proofs.YtmoiedlchcceaaaDoor
namespace Go.Proofs.YtmoiedlchcceaaaDoor
open Go.RowKit Go.Shelf
attribute [local go_sem] Oper.semAt_some
set_option maxRecDepth 100000 in
set_option maxHeartbeats 1000000 in
theorem all1M_64 (n l Bn : Nat) (x : Nat) (hx : x < 18446744073709551616) (J Jx : List (Fin 64) → World → Prop)
    (hY : ∀ pre (k : Fin 64) W, J pre W → pre.length < (nums x).length → k ∈ nums x → YieldAt Fence.wide (n - 1) Tryd.prog l #[.int .i64 (k.val : Int)] W fun e W' =>
      (e = .returned (.bool true) ∧ J (pre ++ [k]) W' ∧ KpB Bn W W') ∨ (e = .returned (.bool false) ∧ Jx (pre ++ [k]) W'))
    (W : World) (hBn : Bn < W.heap.size) (hJ : AbidesFrom W.heap.size J) (ht : Tab W) (hc : W.cell? ⟨Bn, 0, none⟩ = some (.int .u64 x)) (h0 : J [] W) :
    CallsIn Fence.wide n Tryd.prog 44 #[.func (.yield l) #[] #[], .pointer (some ⟨Bn, 0, none⟩)] W fun e W' => (∃ v, e = .returned v) ∧
      ((∃ ys, ys = nums x ∧ J ys W') ∨ (∃ pre, pre <+: nums x ∧ Jx pre W')) := by
  refine callsIn_of_wp Tryd.func44 rfl trivial ?_ rfl
  simp only [Tryd.ntmps44, List.size_toArray, List.length_cons, List.length_nil, Nat.reduceAdd, Nat.reduceSub, Array.replicate_succ, Array.replicate_zero, List.push_toArray, List.append_toArray, List.nil_append, List.cons_append]
  gi_wp2_with (refine ⟨trivial, fun h => absurd h (by decide), ?_⟩; gi_at_call 45; refine (callsIn_wide.2 (low64 x hx _ ht)).mono ?_; rintro e w1 ⟨rfl, hb⟩)
  have ht1 : Tab w1 := ht.over hb
  have hc1 : w1.cell? ⟨Bn, 0, none⟩ = some (.int .u64 x) := (hb.cell (p := ⟨Bn, 0, none⟩) hBn).trans hc
  have h01 : J [] w1 := hJ _ _ _ none h0 (grown_none hb) (fun r e => by cases e)
  gi_loopw [3] (fun p wr => ∃ (pre rest : List (Fin 64)) (z : Int), p = .int .i64 z ∧ Hid (z = lowI rest) ∧ Hid (nums x = pre ++ rest) ∧ Tab wr ∧ Bn < wr.heap.size ∧ wr.cell? ⟨Bn, 0, none⟩ = some (.int .u64 x) ∧ J pre wr) (fun p _ => leftI p)
  case atStart =>
    exact ⟨[], nums x, _, rfl, rfl, rfl, ht1, Nat.lt_of_lt_of_le hBn hb.size, hc1, h01⟩
  case round =>
    obtain ⟨pre, rest, z, rfl, hz, hp, htr, hBr, hcr, hJs⟩ := hrel
    cases rest with
    | nil =>
      have e1 : z < 0 := by rw [hz.out]; decide
      gi_wp2
      go_end0
      exact ⟨⟨_, rfl⟩, .inl ⟨pre, by rw [hp.out]; simp, hJs⟩⟩
    | cons k rest =>
      have e1 : 0 ≤ z := by rw [hz.out]; exact Int.natCast_nonneg _
      have e2 : z < 64 := by rw [hz.out]; show (k.val : Int) < 64; omega
      obtain ⟨fn, tmps, assign, body, hy, hR⟩ := hY pre k wr hJs (by rw [hp.out]; simp) (by rw [hp.out]; simp)
      rw [show (k.val : Int) = z from hz.out.symm] at hy
      gi_wp2
      refine ⟨fun h => absurd h (by decide), hR.mono ?_⟩
      rintro e W3 (⟨rfl, hJ3, hk3⟩ | ⟨rfl, hJx3⟩)
      · have ht3 : Tab W3 := hk3.2 htr
        have hc3 : W3.cell? ⟨Bn, 0, none⟩ = some (.int .u64 x) := hk3.1.trans hcr
        have hB3 : Bn < W3.heap.size := cell_lt hc3
        gi_wp2_with (refine ⟨trivial, fun h => absurd h (by decide), ?_⟩; gi_at_call 46; refine (callsIn_wide.2 (next64 x hx _ _ ht3)).mono ?_; rintro e w4 ⟨rfl, hb4⟩)
        go_roundw
        case rel => exact ⟨pre ++ [k], rest, _, rfl, by rw [hz.out]; exact congrArg lowI (from_snoc (sorted_nums x) hp.out), by show nums x = _; rw [hp.out]; simp, ht3.over hb4, Nat.lt_of_lt_of_le hB3 hb4.size, (hb4.cell (p := ⟨Bn, 0, none⟩) hB3).trans hc3, hJ _ _ _ none hJ3 (grown_none hb4) (fun r e => by cases e)⟩
        case measure =>
          rw [hz.out, show lowI (k :: rest) = (k.val : Int) from rfl, from_snoc (j := k) (sorted_nums x) hp.out]
          exact leftI_lt (sorted_nums x) hp.out
      · gi_wp2
        refine bodyPost_ret (results_none rfl _ _ _) rfl ?_
        exact ⟨⟨_, rfl⟩, .inr ⟨pre ++ [k], ⟨rest, by rw [hp.out]; simp⟩, hJx3⟩⟩
/-- The numbers of a set. -/
abbrev In (x : Nat) := { k : Fin 64 // k ∈ nums x }
/-- The plain row of them. -/
def plain {x : Nat} (l : List (In x)) : List (Fin 64) := l.map (·.val)
theorem plain_snoc {x : Nat} (l : List (In x)) (k : In x) : plain (l ++ [k]) = plain l ++ [k.val] := by simp [plain]
theorem all_mem (n Bn x : Nat) (hx : x < 18446744073709551616) (w : World) (hBn : Bn < w.heap.size) (ht : Tab w) (hc : w.cell? ⟨Bn, 0, none⟩ = some (.int .u64 x)) :
    SeqStopsK Fence.wide n Tryd.prog 44 #[.pointer (some ⟨Bn, 0, none⟩)] (fun k : In x => #[.int .i64 (k.val.val : Int)]) (KpB Bn) (fun ys => plain ys = nums x) (fun pre => plain pre <+: nums x) (nums x).length w := fun l J Jx W hW hJ _ hY h0 => by
  refine (all1M_64 n l Bn x hx (fun pre V => ∃ p : List (In x), plain p = pre ∧ J p V) (fun pre V => ∃ p : List (In x), plain p = pre ∧ Jx p V) ?_ W (Nat.lt_of_lt_of_le hBn hW.size) ?_ (ht.over hW) ((hW.cell (p := ⟨Bn, 0, none⟩) hBn).trans hc) ⟨[], rfl, h0⟩).mono ?_
  · rintro pre k V ⟨p, rfl, hj⟩ hlt hk
    obtain ⟨fn, tmps, assign, body, hy, hR⟩ := hY p ⟨k, hk⟩ V hj (by simpa [plain] using hlt)
    refine ⟨fn, tmps, assign, body, hy, hR.mono ?_⟩
    rintro e V' (⟨he, h1, h2⟩ | ⟨he, h1⟩)
    · exact .inl ⟨he, ⟨_, plain_snoc p ⟨k, hk⟩, h1⟩, h2⟩
    · exact .inr ⟨he, ⟨_, plain_snoc p ⟨k, hk⟩, h1⟩⟩
  · rintro s X Y row ⟨p, hp, hj⟩ hg hr
    exact ⟨p, hp, hJ p X Y row hj hg hr⟩
  · rintro e V ⟨hv, (⟨ys, hys, p, hp, hj⟩ | ⟨pre, hpre, p, hp, hj⟩)⟩
    · exact ⟨hv, .inl ⟨p, hp.trans hys, hj⟩⟩
    · exact ⟨hv, .inr ⟨p, by show plain p <+: nums x; rw [hp]; exact hpre, hj⟩⟩
end Go.Proofs.YtmoiedlchcceaaaDoor
namespace Go.Proofs.YtmoiedlchcceaaaDoor
/-- No operation of the region is a defer statement, none leaves for a row. -/
def noDefer (ops : Array Oper) : Prop := ∀ (i : Nat) (o : Oper), ops[i]? = some o → ∀ c, o.op ≠ .defer c
def noDeferB (ops : Array Oper) : Bool := ops.all fun o => match o.op with
  | .defer _ => false
  | _ => true
theorem noDefer_of {ops : Array Oper} (h : noDeferB ops = true) : noDefer ops := fun i o ho c e => by
  unfold noDeferB at h
  rw [Array.all_eq_true] at h
  obtain ⟨hi, rfl⟩ := Array.getElem?_eq_some_iff.1 ho
  have := h i hi
  rw [e] at this
  cases this
theorem rowsIn_wide {n : Nat} {P : Program} {row : String} {args : Array Value} {w : World} {R : Value → World → Prop} (l : Nat) (h : Rows P row args w R) : RowsIn (Fence.wide.inRound l) n P row args w R := fun c cs _ => by
  obtain ⟨v, w', r, s⟩ := h c cs
  exact ⟨v, w', r, stepsIn_wide.2 s⟩
theorem wpOp_round {P : Program} {ops : Array Oper} {Q : Exit → Act → World → Prop} {i n l : Nat} {K : Act → World → Prop} {a : Act} {w : World} (hn : noDefer ops) (hQ : ¬ LetsOut Q) (h : wpOp P ops Q i K a w) : wpOpIn (Fence.wide.inRound l) n P ops Q i K a w := by
  unfold wpOp at h
  unfold wpOpIn
  split
  · rename_i e; rw [e] at h; exact h
  · rename_i o e
    rw [e] at h
    simp only [] at h
    split
    · rename_i hw
      rw [if_pos hw] at h
      rcases h with h | h
      · refine ⟨fun _ _ => trivial, ?_⟩
        rw [Oper.semAt_eq _ _ _ (hn i o e)]
        unfold Oper.wp at h
        generalize (execOp a.eval o).run P w = r at *
        cases r with
        | ok x w' =>
          cases x <;> simp only [Oper.upon] at h <;> simp only [Oper.uponIn]
          all_goals first
            | exact h
            | exact ⟨(fun h => by cases h), CallsIn.inRound l (callsIn_wide.2 h)⟩
            | exact ⟨(fun h => by cases h), rowsIn_wide l h⟩
        | halt x w' => cases x <;> simp only [Oper.upon] at h <;> simp only [Oper.uponIn]; exact h
      · exact absurd h.2 hQ
    · rename_i hw
      rw [if_neg hw] at h
      exact ⟨fun _ _ => trivial, h⟩
theorem wpAny_round {P : Program} {md : Region.Mode} {ops : Array Oper} {Q : Exit → Act → World → Prop} {n l : Nat} (hn : noDefer ops) (hQ : ¬ LetsOut Q) :
    ∀ (fuel : Nat) (listed : Array Bool) (a : Act) (w : World), wpAny P md ops Q fuel listed a w → wpAnyIn (Fence.wide.inRound l) n P md ops Q fuel listed a w
  | 0, _, _, _, h => h
  | fuel + 1, _, _, _, h => ⟨h.1, fun i hi => wpOp_round hn hQ (wpOp_mono (fun a' w' h' => wpAny_round hn hQ fuel _ a' w' h') (h.2 i hi))⟩
/-- The post of a region that ends as it should alone. -/
def onlyNormal (R : Act → World → Prop) : Exit → Act → World → Prop
  | .normal, a, w => R a w
  | _, _, _ => False
theorem region_round {P : Program} {ops : Array Oper} {Q : Exit → Act → World → Prop} {id n l : Nat} {a : Act} {w : World} (S : World → Prop) (hm : P.follows .mixedOrders = true) (hn : noDefer ops) (hS : S w.drew)
    (h : S w.drew → wpAnyH P .any ops (onlyNormal (Q .normal)) S ops.size (Array.replicate ops.size false) a w.drew) : (Code.region id ops true).wpIn (Fence.wide.inRound l) n P Q a w := by
  refine wpIn_mono (Q := onlyNormal (Q .normal)) (wpIn_region_any hm (wpAny_round hn (fun ⟨_, _, h⟩ => h) _ _ _ _ (wpAny_of_held _ _ _ _ (h hS)))) fun e a' w' h => ?_
  cases e <;> first | exact h | exact h.elim
end Go.Proofs.YtmoiedlchcceaaaDoor
namespace Go.Proofs.YtmoiedlchcceaaaDoor
open Go.RowKit Go.Shelf
/-- What lies at or beyond B lies as it lay. -/
def Kept (B : Nat) (W W' : World) : Prop := W.heap.size ≤ W'.heap.size ∧ ∀ k, B ≤ k → k < W.heap.size → W'.heap[k]? = W.heap[k]?
theorem Kept.refl (B : Nat) (W : World) : Kept B W W := ⟨Nat.le_refl _, fun _ _ _ => rfl⟩
theorem Kept.trans {B : Nat} {X Y Z : World} (h : Kept B X Y) (k : Kept B Y Z) : Kept B X Z :=
  ⟨Nat.le_trans h.1 k.1, fun i hB hi => (k.2 i hB (Nat.lt_of_lt_of_le hi h.1)).trans (h.2 i hB hi)⟩
theorem Kept.putObj {B l : Nat} (W : World) (o : Obj) (hl : l < B) : Kept B W (W.putObj l o) :=
  ⟨(grownBy_putObj' W l o).size, fun _ hB _ => World.putObj_heap_other (by omega)⟩
theorem Kept.setCell {B b : Nat} (W : World) (v : Value) (hl : b < B) : Kept B W (W.setCell ⟨b, 0, none⟩ v) :=
  ⟨by simp, fun k hB _ => Below.heap_setCell _ _ _ _ (by show k ≠ b; omega)⟩
theorem Kept.below {B : Nat} {W W' : World} (h : Below W.heap.size W W') : Kept B W W' := ⟨h.size, fun k _ hk => h.block k hk⟩
theorem Kept.from {B B' : Nat} {W W' : World} (h : Kept B W W') (hB : B ≤ B') : KeepsFrom B' W W' :=
  ⟨h.1, fun k _ hk ho _ => (h.2 k (by omega) (Array.getElem?_eq_some_iff.1 ho).1).trans ho⟩
theorem Kept.mono {B B' : Nat} {W W' : World} (h : Kept B W W') (hB : B ≤ B') : Kept B' W W' := ⟨h.1, fun k hk => h.2 k (by omega)⟩
theorem KpB.of_kept {Bn b0 m : Nat} {V V' : World} (hk : KpB Bn V V') (hq : Kept b0 V V') (h1 : b0 ≤ m) (h2 : m < V.heap.size) : KpB m V V' :=
  ⟨World.cell?_of_block (hq.2 m h1 h2), hk.2⟩
/-- An iterator's contract: the rounds keep what it lays. -/
def SeqN {α : Type} (n : Nat) (P : Program) (g : Nat) (lb : Array Value) (encs : α → Array Value) (Kp : World → World → Prop) (S Sp : List α → Prop) (N : Nat) (w : World) : Prop :=
  ∀ (l : Nat) (J Jx : List α → World → Prop) (W : World), Below w.heap.size w W → OwnFrom W.heap.size J → OwnFrom W.heap.size Jx →
    (∀ pre x V, J pre V → pre.length < N → YieldAt Fence.wide (n - 1) P l (encs x) V fun e V' =>
      (e = .returned (.bool true) ∧ J (pre ++ [x]) V' ∧ Kp V V' ∧ Kept W.heap.size V V') ∨ (e = .returned (.bool false) ∧ Jx (pre ++ [x]) V' ∧ Kept W.heap.size V V')) →
    J [] W →
    CallsIn Fence.wide n P g (#[.func (.yield l) #[] #[]] ++ lb) W fun e W' => (∃ v, e = .returned v) ∧ ((∃ xs, S xs ∧ J xs W') ∨ (∃ pre, Sp pre ∧ Jx pre W'))
/-- A loop's record. -/
def lrec (fn : FuncId) (tmps : Array Value) (ps : Array Tmp) (assign body : Code) (D : Nat) (st : LoopState) (pe : Option Code) : Loop :=
  { state := st, pending := pe, fn := fn, tmps := tmps, params := ps, assign := assign, body := body, defers := D }
theorem rangeA {α : Type} {P : Program} {n : Nat} {g : Operand} {ps : Array Tmp} {assign body : Code} {Q : Exit → Act → World → Prop} {a : Act} {w : World} {gf : Nat} {lb : Array Value}
    (hg : a.eval g = .func (.func gf) #[] lb) (eg : ∀ args w, (callFunc gf args).run P w = .ok (.enter gf args) w)
    {encs : α → Array Value} {Kp : World → World → Prop} {S Sp : List α → Prop} {N : Nat} (hseq : SeqN (n - 1) P gf lb encs Kp S Sp N w)
    (hKt : ∀ {A B C : World}, Kp A B → Kp B C → Kp A C) (hKb : ∀ (W : World) (l : Nat) (o o' : Obj), w.heap.size ≤ l → W.heap[l]? = some o → o.isCells = false → o.isWalk = false → Kp W (W.putObj l o')) (hps : ∀ x, (encs x).size = ps.size)
    (I : List α → World → Prop) (Ix : Code → List α → World → Prop) (hI : OwnFrom w.heap.size I) (hIx : ∀ c, OwnFrom w.heap.size (Ix c)) (h0 : I [] w) (Ax : α → Act → World → Prop) (hAx : ∀ x a', OwnFrom (β := Unit) w.heap.size (fun _ W => Ax x a' W)) (hKa : ∀ {A B : World}, w.heap.size ≤ A.heap.size → Below A.heap.size A B → Kp A B)
    (hassign : ∀ (l : Nat) (x : α) (W : World) (K : Act → World → Prop), w.heap.size ≤ W.heap.size → (∀ a' W', Below W.heap.size W W' → Ax x a' W' → K a' W') →
      assign.wpIn (Fence.wide.inRound l) (n - 1 - 1) P (Exit.then K (fun _ _ _ => False)) { tmps := (ps.zip (encs x)).foldl (fun t (p, v) => t.setIfInBounds p v) a.tmps, defers := [] } W)
    (hbody : ∀ (l : Nat) (pre : List α) (x : α) (a' : Act) (W : World), w.heap.size ≤ W.heap.size → I pre W → Ax x a' W → pre.length < N →
      body.wpIn (Fence.wide.inRound l) (n - 1 - 1) P (ownPostG w.heap.size Kp (fun xs W' => I xs W' ∧ Kept (w.heap.size + 2) W W') (fun c xs W' => Ix c xs W' ∧ Kept (w.heap.size + 2) W W') (pre ++ [x]) W) a' W)
    (hdone : ∀ (D : Nat) (xs : List α) (W : World), w.heap.size ≤ D → S xs → I xs W → W.heap[D]? = some (.deferred (some [])) → Q .normal { a with defers := { target := .collected D, args := #[] } :: a.defers } W)
    (hstop : ∀ (D : Nat) (c : Code) (pre : List α) (W : World), w.heap.size ≤ D → Sp pre → Ix c pre W → W.heap[D]? = some (.deferred (some [])) → c.wpIn Fence.wide n P Q { a with defers := { target := .collected D, args := #[] } :: a.defers } W) :
    (Code.rangeFunc g ps assign body).wpIn Fence.wide n P Q a w := by
  refine wpIn_rangeFunc fun fn hfn => ?_
  have hent := run_enterLoop_outer (P := P) (w := w) fn a.tmps ps assign body
  have hL := World.alloc_heap_new (w.alloc (.deferred (some []))) (.loop (lrec fn a.tmps ps assign body w.heap.size .ready none))
  have hD := (Below.heap_alloc (w.alloc (.deferred (some []))) (.loop (lrec fn a.tmps ps assign body w.heap.size .ready none)) w.heap.size (by simp)).trans (World.alloc_heap_new w _)
  have hs : ((w.alloc (.deferred (some []))).alloc (.loop (lrec fn a.tmps ps assign body w.heap.size .ready none))).heap.size = w.heap.size + 2 := by simp
  have hI1 := hI.alloc (.loop (lrec fn a.tmps ps assign body w.heap.size .ready none)) (hI.alloc (.deferred (some [])) h0)
  have hb1 : Below w.heap.size w ((w.alloc (.deferred (some []))).alloc (.loop (lrec fn a.tmps ps assign body w.heap.size .ready none))) := ((Below.refl _ w).alloc (Nat.le_refl _) _).alloc (by simp) _
  rw [World.size_alloc] at hL
  change (Instr.enterLoop fn a.tmps ps assign body none).run P w = .ok (w.heap.size + 1, [{ target := .collected w.heap.size, args := #[] }]) ((w.alloc (.deferred (some []))).alloc (.loop (lrec fn a.tmps ps assign body w.heap.size .ready none))) at hent
  generalize (w.alloc (.deferred (some []))).alloc (.loop (lrec fn a.tmps ps assign body w.heap.size .ready none)) = W1 at *
  refine ⟨_, _, W1, { target := .fn (.func gf) lb, args := #[.func (.yield (w.heap.size + 1)) #[] #[]] }, W1, gf, #[.func (.yield (w.heap.size + 1)) #[] #[]] ++ lb, W1, hent, ?_, fun _ _ => trivial, by simp [invoke, go_sem, eg], fun h => (by cases h), ?_⟩
  · simp only [resolve, hg]
    simp [go_sem]
  have own2 : ∀ (D : Nat) (o : Obj), D < W1.heap.size → OwnFrom (β := Unit) W1.heap.size (fun _ W => W.heap[D]? = some o) := fun D o hDl _ Y Z row h hg' hr =>
    (hg'.block D (Array.getElem?_eq_some_iff.1 h).1 (fun e => by have := (hr D e.symm).1; omega)).trans h
  have up : ∀ {Y : World} {row : Option Nat}, (∀ r, row = some r → W1.heap.size ≤ r ∧ ∃ o : Obj, Y.heap[r]? = some o ∧ o.isCells = false) → (∀ r, row = some r → w.heap.size ≤ r ∧ ∃ o : Obj, Y.heap[r]? = some o ∧ o.isCells = false) := fun h r e => ⟨by have := (h r e).1; omega, (h r e).2⟩
  refine (hseq (w.heap.size + 1)
    (fun pre W => I pre W ∧ W.heap[w.heap.size + 1]? = some (.loop (lrec fn a.tmps ps assign body w.heap.size .ready none)) ∧ W.heap[w.heap.size]? = some (.deferred (some [])))
    (fun pre W => ∃ c, Ix c pre W ∧ W.heap[w.heap.size + 1]? = some (.loop (lrec fn a.tmps ps assign body w.heap.size .done (some c))) ∧ W.heap[w.heap.size]? = some (.deferred (some [])))
    W1 hb1 ?_ ?_ ?_ ⟨hI1, hL, hD⟩).mono ?_
  · rintro s Y Z row ⟨h2, h3, h4⟩ hg' hr
    exact ⟨hI s Y Z row h2 hg' (up hr), own2 _ _ (by omega) () Y Z row h3 hg' hr, own2 _ _ (by omega) () Y Z row h4 hg' hr⟩
  · rintro s Y Z row ⟨c, h2, h3, h4⟩ hg' hr
    exact ⟨c, hIx c s Y Z row h2 hg' (up hr), own2 _ _ (by omega) () Y Z row h3 hg' hr, own2 _ _ (by omega) () Y Z row h4 hg' hr⟩
  · rintro pre x V0 ⟨hi0, hl0, hd0⟩ hlen
    have hV0 : w.heap.size + 1 < V0.heap.size := (Array.getElem?_eq_some_iff.1 hl0).1
    refine ⟨_, _, _, _, run_yield (P := P) (args := encs x) hl0 (hps x), roundIn_of_wpIn hfn (hassign _ x V0 _ (by omega) fun a' V hbV hax => ?_)⟩
    have hl := (hbV.block _ hV0).trans hl0
    have hd := (hbV.block w.heap.size (by omega)).trans hd0
    have hV : w.heap.size + 1 < V.heap.size := Nat.lt_of_lt_of_le hV0 hbV.size
    have hi := hI _ _ _ none hi0 (grown_none hbV) (fun r e => by cases e)
    have hk0 := hKa (by omega) hbV
    have hq0 := Kept.below (B := W1.heap.size) hbV
    refine ⟨_, run_beginRound hl rfl, ?_⟩
    have hax2 := (hAx x a').putObj (s := ()) (.loop (lrec fn a.tmps ps assign body w.heap.size .busy none)) hax (show w.heap.size ≤ w.heap.size + 1 by omega) hl rfl
    have hz2 : w.heap.size ≤ (V.putObj (w.heap.size + 1) (.loop (lrec fn a.tmps ps assign body w.heap.size .busy none))).heap.size := by have := (grownBy_putObj' V (w.heap.size + 1) (.loop (lrec fn a.tmps ps assign body w.heap.size .busy none))).size; omega
    have hl2 := World.putObj_heap_same (w := V) (o := .loop (lrec fn a.tmps ps assign body w.heap.size .busy none)) hV
    have hd2 := (World.putObj_heap_other (w := V) (o := .loop (lrec fn a.tmps ps assign body w.heap.size .busy none)) (show w.heap.size ≠ w.heap.size + 1 by omega)).trans hd
    have hk2 := hKt hk0 <| hKb V (w.heap.size + 1) _ (.loop (lrec fn a.tmps ps assign body w.heap.size .busy none)) (by omega) hl rfl rfl
    have hq2 := hq0.trans <| Kept.putObj (B := W1.heap.size) (l := w.heap.size + 1) V (.loop (lrec fn a.tmps ps assign body w.heap.size .busy none)) (by omega)
    have hi2 := hI.putObj (.loop (lrec fn a.tmps ps assign body w.heap.size .busy none)) hi (show w.heap.size ≤ w.heap.size + 1 by omega) hl rfl
    change Code.wpIn _ _ _ _ _ _ (V.putObj (w.heap.size + 1) (.loop (lrec fn a.tmps ps assign body w.heap.size .busy none)))
    refine wpIn_mono (hbody _ pre x a' _ hz2 hi2 hax2 hlen) ?_
    clear hbody hassign hi2 hax2 hz2
    generalize V.putObj (w.heap.size + 1) (.loop (lrec fn a.tmps ps assign body w.heap.size .busy none)) = V2 at *
    have leave : ∀ (j : Code) (V3 : World), KeepsFrom w.heap.size V2 V3 → Ix j (pre ++ [x]) V3 → Kept (w.heap.size + 2) V2 V3 → ∃ v V4, (Instr.endRound (w.heap.size + 1) (some j)).run P V3 = .ok v V4 ∧
        ((Ending.returned v = .returned (.bool true) ∧ (I (pre ++ [x]) V4 ∧ V4.heap[w.heap.size + 1]? = some (.loop (lrec fn a.tmps ps assign body w.heap.size .ready none)) ∧ V4.heap[w.heap.size]? = some (.deferred (some []))) ∧ Kp V0 V4 ∧ Kept W1.heap.size V0 V4) ∨
        (Ending.returned v = .returned (.bool false) ∧ (∃ c, Ix c (pre ++ [x]) V4 ∧ V4.heap[w.heap.size + 1]? = some (.loop (lrec fn a.tmps ps assign body w.heap.size .done (some c))) ∧ V4.heap[w.heap.size]? = some (.deferred (some []))) ∧ Kept W1.heap.size V0 V4)) := by
      intro j V3 hk hi3 hq3
      have hl3 := hk.same _ _ (by omega) hl2 rfl
      have hd3 := hk.same _ _ (Nat.le_refl _) hd2 rfl
      refine ⟨_, _, run_endRound (P := P) (some j) hl3, .inr ⟨rfl, ⟨j, (hIx j).putObj _ hi3 (by omega) hl3 rfl, World.putObj_heap_same (Array.getElem?_eq_some_iff.1 hl3).1, (World.putObj_heap_other (by omega)).trans hd3⟩, ?_⟩⟩
      exact (hq2.trans (hs ▸ hq3)).trans (Kept.putObj _ _ (by omega))
    rintro e a3 V3 hp
    cases e with
    | normal =>
      obtain ⟨hk, hkp, hi3, hq3⟩ := hp
      have hl3 := hk.same _ _ (by omega) hl2 rfl
      have hd3 := hk.same _ _ (Nat.le_refl _) hd2 rfl
      exact ⟨_, _, run_endRound (P := P) none hl3, .inl ⟨rfl, ⟨hI.putObj _ hi3 (by omega) hl3 rfl, World.putObj_heap_same (Array.getElem?_eq_some_iff.1 hl3).1, (World.putObj_heap_other (by omega)).trans hd3⟩, hKt (hKt hk2 hkp) (hKb _ _ _ _ (by omega) hl3 rfl rfl), (hq2.trans (hs ▸ hq3)).trans (Kept.putObj _ _ (by omega))⟩⟩
    | ret => exact leave .ret V3 hp.1 hp.2.1 hp.2.2
    | exit id => exact leave (.exit id) V3 hp.1 hp.2.1 hp.2.2
    | goto t => exact leave (.goto t) V3 hp.1 hp.2.1 hp.2.2
    | panic ch => exact hp.elim
    | outgrown => exact hp.elim
  · rintro e W2 ⟨⟨v, rfl⟩, (⟨xs, hS, hi, hl, hd⟩ | ⟨pre, hSp, c, hi, hl, hd⟩)⟩
    · exact ⟨_, _, run_endLoop (P := P) hl (by simp [lrec]), hdone _ xs _ (Nat.le_refl _) hS (hI.putObj _ hi (by omega) hl rfl) ((World.putObj_heap_other (by omega)).trans hd)⟩
    · exact ⟨_, _, run_endLoop (P := P) hl (by simp [lrec]), hstop _ c pre _ (Nat.le_refl _) hSp ((hIx c).putObj _ hi (by omega) hl rfl) ((World.putObj_heap_other (by omega)).trans hd)⟩
theorem rangeN {α : Type} {P : Program} {n : Nat} {g : Operand} {ps : Array Tmp} {assign body : Code} {Q : Exit → Act → World → Prop} {a : Act} {w : World} {gf : Nat} {lb : Array Value}
    (hg : a.eval g = .func (.func gf) #[] lb) (eg : ∀ args w, (callFunc gf args).run P w = .ok (.enter gf args) w)
    {encs : α → Array Value} {Kp : World → World → Prop} {S Sp : List α → Prop} {N : Nat} (hseq : SeqN (n - 1) P gf lb encs Kp S Sp N w)
    (hKt : ∀ {A B C : World}, Kp A B → Kp B C → Kp A C) (hKa : ∀ {A B : World}, w.heap.size ≤ A.heap.size → Below A.heap.size A B → Kp A B) (hKb : ∀ (W : World) (l : Nat) (o o' : Obj), w.heap.size ≤ l → W.heap[l]? = some o → o.isCells = false → o.isWalk = false → Kp W (W.putObj l o')) (hps : ∀ x, (encs x).size = ps.size)
    (I : List α → World → Prop) (Ix : Code → List α → World → Prop) (hI : OwnFrom w.heap.size I) (hIx : ∀ c, OwnFrom w.heap.size (Ix c)) (h0 : I [] w) (a₁ : α → Act)
    (hassign : ∀ (l : Nat) (x : α) (W : World) (K : Act → World → Prop), K (a₁ x) W →
      assign.wpIn (Fence.wide.inRound l) (n - 1 - 1) P (Exit.then K (fun _ _ _ => False)) { tmps := (ps.zip (encs x)).foldl (fun t (p, v) => t.setIfInBounds p v) a.tmps, defers := [] } W)
    (hbody : ∀ (l : Nat) (pre : List α) (x : α) (W : World), I pre W → pre.length < N →
      body.wpIn (Fence.wide.inRound l) (n - 1 - 1) P (ownPostG w.heap.size Kp (fun xs W' => I xs W' ∧ Kept (w.heap.size + 2) W W') (fun c xs W' => Ix c xs W' ∧ Kept (w.heap.size + 2) W W') (pre ++ [x]) W) (a₁ x) W)
    (hdone : ∀ (D : Nat) (xs : List α) (W : World), w.heap.size ≤ D → S xs → I xs W → W.heap[D]? = some (.deferred (some [])) → Q .normal { a with defers := { target := .collected D, args := #[] } :: a.defers } W)
    (hstop : ∀ (D : Nat) (c : Code) (pre : List α) (W : World), w.heap.size ≤ D → Sp pre → Ix c pre W → W.heap[D]? = some (.deferred (some [])) → c.wpIn Fence.wide n P Q { a with defers := { target := .collected D, args := #[] } :: a.defers } W) :
    (Code.rangeFunc g ps assign body).wpIn Fence.wide n P Q a w :=
  rangeA hg eg hseq (fun h k => hKt h k) hKb hps I Ix hI hIx h0 (fun x a' _ => a' = a₁ x) (fun _ _ _ _ _ _ h _ _ => h) (fun h k => hKa h k)
    (fun l x W K _ h => hassign l x W K (h _ _ (Below.refl _ _) rfl)) (fun l pre x a' W _ hi ha hl => by subst ha; exact hbody l pre x W hi hl) hdone hstop
theorem room_wide (k : Nat) : Fence.wide.room k := fun d h => by cases h
theorem yieldAny {m m' : Nat} {P : Program} {l : Nat} {args : Array Value} {W : World} {R : Ending → World → Prop} (h : YieldAt Fence.wide m P l args W R) (l' : Nat) : YieldAt (Fence.wide.inRound l') m' P l args W R := by
  obtain ⟨fn, tmps, assign, body, hy, hR⟩ := h
  exact ⟨fn, tmps, assign, body, hy, ⟨hR.1, fun c cs _ => hR.2 c cs (room_wide _)⟩⟩
end Go.Proofs.YtmoiedlchcceaaaDoor
namespace Go.Proofs.YtmoiedlchcceaaaDoor
open Go.RowKit Go.Shelf
theorem hideW {p : Prop} (h : p) : Hid p := h
set_option maxHeartbeats 1000000 in
theorem withoutF64 (a : Nat) (i : Int) (h : ¬ (0 ≤ i ∧ i < 64)) (w : World) :
    Calls Tryd.prog 48 #[.agg #[.int .u64 a], .int .i64 i] w fun e w' => e = .returned (.agg #[.int .u64 a]) ∧ Below w.heap.size w w' := by
  have KF := hideW (fitsF64 a i h)
  go_enter Tryd.func48, Tryd.ntmps48
  go_wp2_with (go_at_call 63; refine (KF.out _).mono ?_; rintro e w1 ⟨rfl, hb⟩; obtain ⟨hc, hf⟩ := bcell hb)
  exact bodyPost_ret (v := .agg #[.int .u64 a]) (by simp [results, Tryd.results48, go_sem, hc]) rfl ⟨rfl, ((((Below.refl _ w).alloc (Nat.le_refl _) _).alloc (by simp) _).trans (hb.mono (by simp; omega))).setCell (by simp) _⟩
set_option maxHeartbeats 1000000 in
theorem withoutT64 (a : Nat) (ha : a < 18446744073709551616) (i : Nat) (hi : i < 64) (p q : Nat) (hp : IntKind.u64.wrap (IntKind.u64.wrap 1 * 2 ^ i) = (p : Int)) (hpl : p < 18446744073709551616) (hq : (a &&& (18446744073709551615 - p) : Nat) = q) (w : World) :
    Calls Tryd.prog 48 #[.agg #[.int .u64 a], .int .i64 i] w fun e w' => e = .returned (.agg #[.int .u64 q]) ∧ Below w.heap.size w w' := by
  have KF := hideW (fitsT64 a i ⟨by omega, by omega⟩)
  have KO := hideW (only64 a i hi p hp)
  have KR : Hid (∀ W, Calls Tryd.prog 61 #[.agg #[.int .u64 a], .agg #[.int .u64 p]] W fun e w' => e = .returned (.agg #[.int .u64 q]) ∧ Below W.heap.size W w') := by subst hq; exact minus64 a p ha hpl
  clear hq hp ha hpl
  go_enter Tryd.func48, Tryd.ntmps48
  go_wp2_with (go_at_call 63; refine (KF.out _).mono ?_; rintro e w1 ⟨rfl, hb⟩; obtain ⟨hc, hf⟩ := bcell hb)
  have hz : w.heap.size + 1 < w1.heap.size := by have := hb.size; simp at this; omega
  have c1 : w1.cell? ⟨w.heap.size, 0, none⟩ = some (.int .u64 a) := by rw [hc _ _ (by simp; omega)]; simp
  have c2 : w1.cell? ⟨w.heap.size + 1, 0, none⟩ = some (.int .u64 0) := by rw [hc _ _ (by simp)]; simp
  have f2 : w1.frozen? ⟨w.heap.size + 1, 0, none⟩ = false := by rw [hf _ _ (by simp)]; simp
  have B1 : Below w.heap.size w w1 := (((Below.refl _ w).alloc (Nat.le_refl _) _).alloc (by simp) _).trans (hb.mono (by simp; omega))
  clear hc hf hb
  go_region_with (first | (go_at_call 57; refine (KO.out _).mono ?_; rintro e w2 ⟨rfl, hb2⟩; have hz2 : w.heap.size + 1 < w2.heap.size := Nat.lt_of_lt_of_le hz hb2.size; have d1 : w2.cell? ⟨w.heap.size, 0, none⟩ = some (.int .u64 a) := (hb2.cell (p := ⟨w.heap.size, 0, none⟩) (by show w.heap.size < _; simp; omega)).trans c1; have d2 : w2.cell? ⟨w.heap.size + 1, 0, none⟩ = some (.int .u64 0) := (hb2.cell (p := ⟨w.heap.size + 1, 0, none⟩) hz).trans c2; have g2 : w2.frozen? ⟨w.heap.size + 1, 0, none⟩ = false := (hb2.frozen (p := ⟨w.heap.size + 1, 0, none⟩) hz).trans f2) | (go_at_call 61; refine (KR.out _).mono ?_; rintro e w3 ⟨rfl, hb3⟩; have c3 : w3.cell? ⟨w.heap.size + 1, 0, none⟩ = some (.int .u64 0) := (hb3.cell (p := ⟨w.heap.size + 1, 0, none⟩) hz2).trans d2; have f3 : w3.frozen? ⟨w.heap.size + 1, 0, none⟩ = false := (hb3.frozen (p := ⟨w.heap.size + 1, 0, none⟩) hz2).trans g2))
  all_goals go_wp2
  all_goals exact bodyPost_ret (v := .agg #[.int .u64 q]) (by simp [results, Tryd.results48, go_sem, c3]) rfl ⟨rfl, ((((B1.drew).trans (hb2.mono (by simp; omega))).trans (hb3.mono (by omega)))).setCell (by simp) _⟩
/-- What of s is below all of t. -/
def aheadX (s t : Nat) : Nat := if t = 0 then s else belowX s (lowI (nums t))
theorem aheadX_lt {s t : Nat} (hs : s < 18446744073709551616) : aheadX s t < 18446744073709551616 := by
  unfold aheadX belowX
  split
  · exact hs
  · split
    · decide
    · exact Nat.lt_of_le_of_lt (Nat.mod_le _ _) hs
theorem keep2b {W0 W w1 : World} {b b' : Nat} {u v : Value} (h : W.cell? ⟨b, 0, none⟩ = some u ∧ W.cell? ⟨b', 0, none⟩ = some v ∧ Below W0.heap.size W0 W) (hb : Below W.heap.size W w1) :
    w1.cell? ⟨b, 0, none⟩ = some u ∧ w1.cell? ⟨b', 0, none⟩ = some v ∧ Below W0.heap.size W0 w1 := ⟨(hb.cell (p := ⟨b, 0, none⟩) (cell_lt h.1)).trans h.1, (hb.cell (p := ⟨b', 0, none⟩) (cell_lt h.2.1)).trans h.2.1, h.2.2.trans (hb.mono h.2.2.size)⟩
theorem bxb8 {W W' : World} {b : Nat} {t : TypeId} {v : Value} (h : Boxed W b t v) (hb : Below W.heap.size W W') : Boxed W' b t v := (hb.block b h.lt).trans h
set_option maxRecDepth 100000 in
set_option maxHeartbeats 1000000 in
theorem ahead64 (s t : Nat) (hs : s < 18446744073709551616) (ht8 : t < 18446744073709551616) (w : World) (ht : Tab w) :
    Calls Tryd.prog 56 #[.agg #[.int .u64 s], .agg #[.int .u64 t]] w fun e w' => e = .returned (.agg #[.int .u64 (aheadX s t : Nat)]) ∧ Below w.heap.size w w' := by
  by_cases h0 : t = 0
  · subst h0
    go_enter Tryd.func56, Tryd.ntmps56
    go_wp2
    exact bodyPost_ret (v := .agg #[.int .u64 s]) (by simp [results, Tryd.results56, go_sem]) rfl ⟨rfl, (((Below.refl _ w).alloc (Nat.le_refl _) _).alloc (by simp) _).alloc (by simp; omega) _⟩
  · have e0 : aheadX s t = belowX s (lowI (nums t)) := if_neg h0
    rw [e0]
    have hz : ((t : Int) == 0) = false := by rw [eq_cast]; simp; omega
    have hB0 : Below w.heap.size w (((w.alloc (.cells #[.int .u64 s] 60)).alloc (.cells #[.int .u64 t] 60)).alloc (.cells #[.int .u64 0] 60)) := (((Below.refl _ w).alloc (Nat.le_refl _) _).alloc (by simp) _).alloc (by simp; omega) _
    have KL : Hid (∀ W, Below w.heap.size w W → Calls Tryd.prog 45 #[.agg #[.int .u64 t]] W fun e w' => e = .returned (.int .i64 (lowI (nums t))) ∧ Below W.heap.size W w') := fun W hW => low64 t ht8 W (ht.over hW)
    have KB := hideW (below64 s hs (lowI (nums t)))
    generalize lowI (nums t) = lw at *
    generalize belowX s lw = res at *
    clear e0 h0 hs ht8
    go_enter Tryd.func56, Tryd.ntmps56
    go_wp2
    have b0 := ((Boxed.new w 60 (.int .u64 s)).alloc (.cells #[.int .u64 t] 60)).alloc (.cells #[.int .u64 0] 60)
    have b1 := (Boxed.new (w.alloc (.cells #[.int .u64 s] 60)) 60 (.int .u64 t)).alloc (.cells #[.int .u64 0] 60)
    have b2 := Boxed.new ((w.alloc (.cells #[.int .u64 s] 60)).alloc (.cells #[.int .u64 t] 60)) 60 (.int .u64 0)
    simp only [World.size_alloc] at b1 b2
    generalize ((w.alloc (.cells #[.int .u64 s] 60)).alloc (.cells #[.int .u64 t] 60)).alloc (.cells #[.int .u64 0] 60) = W0 at *
    have hk0 : Hid (W0.cell? ⟨w.heap.size, 0, none⟩ = some (.int .u64 (s : Int)) ∧ W0.cell? ⟨w.heap.size + 1, 0, none⟩ = some (.int .u64 (t : Int))) := ⟨b0.cell, b1.cell⟩
    have z2 := b2.lt
    have KL' : Hid (∀ W, Below W0.heap.size W0 W → Calls Tryd.prog 45 #[.agg #[.int .u64 t]] W fun e w' => e = .returned (.int .i64 lw) ∧ Below W.heap.size W w') := fun W hW => KL.out W (hB0.trans (hW.mono hB0.size))
    clear KL
    go_region_held3 (fun X => X.cell? ⟨w.heap.size, 0, none⟩ = some (.int .u64 (s : Int)) ∧ X.cell? ⟨w.heap.size + 1, 0, none⟩ = some (.int .u64 (t : Int))) (first | assumption | (exact hk0.out) | (exact ⟨(hB1.cell (p := ⟨w.heap.size, 0, none⟩) b0.lt).trans b0.cell, (hB1.cell (p := ⟨w.heap.size + 1, 0, none⟩) b1.lt).trans b1.cell⟩) | (exact ⟨((bxb8 b0 hB2).other (by omega) _).cell, ((bxb8 b1 hB2).other (by omega) _).cell⟩) | (exact ⟨(bxb8 b0 hB2).cell, (bxb8 b1 hB2).cell⟩)) (first | (go_at_call 45; refine (KL'.out _ ((Below.refl _ _).drew)).mono ?_; rintro e w1 ⟨rfl, hb1⟩; have hB1 : Below W0.heap.size W0 w1 := ((Below.refl _ W0).drew).trans hb1) | (go_at_call 62; refine (KB.out _).mono ?_; rintro e w2 ⟨rfl, hb2⟩; have hB2 : Below W0.heap.size W0 w2 := hB1.trans (hb2.mono hB1.size); have d2 := (bxb8 b2 hB2).cell; have f2 := (bxb8 b2 hB2).frozen))
    all_goals
      have d3 := ((bxb8 b2 hB2).set (.int .u64 res)).cell
      go_wp2
      exact bodyPost_ret (v := .agg #[.int .u64 res]) (by simp [results, Tryd.results56, go_sem, d3]) rfl ⟨rfl, (hB0.trans (hB2.mono hB0.size)).setCell (by show w.heap.size ≤ w.heap.size + 1 + 1; omega) _⟩
theorem choose64 (s k : Int) (w : World) :
    Calls Tryd.prog 37 #[.agg #[.int .u64 s], .int .i64 k] w fun e w' => e = .returned (.func (.func 55) #[] #[.pointer (some ⟨w.heap.size + 1, 0, none⟩), .pointer (some ⟨w.heap.size, 0, none⟩)]) ∧ w' = (w.alloc (.cells #[.int .u64 s] 60)).alloc (.cells #[.int .i64 k] 3) := by
  go_enter Tryd.func37, Tryd.ntmps37
  go_wp2
  go_ret
  exact ⟨rfl, by simp⟩
end Go.Proofs.YtmoiedlchcceaaaDoor
namespace Go.Proofs.YtmoiedlchcceaaaDoor
/-- How many numbers a word has. -/
def pop64 (x : Nat) : Nat := (nums x).length
/-- The word without its lowest number. -/
def restX (s : Nat) : Nat := s &&& (18446744073709551615 - 2 ^ (lowI (nums s)).toNat)
/-- What the iterator tells for one t. -/
def stepC (s t : Nat) : List Nat := (nums (aheadX s t)).map fun j => t ||| 2 ^ j.val
def chF : Nat → Nat → List Nat
  | 0, _ => [0]
  | k + 1, s => (chF k (restX s)).flatMap (stepC s)
theorem pop64_le (s : Nat) : pop64 s ≤ 64 := by
  unfold pop64 nums
  refine Nat.le_trans (List.length_filter_le _ _) ?_
  simp
theorem pop_zero : pop64 0 = 0 := by rw [pop64, nums_zero]; rfl
theorem restX_lt {s : Nat} (hs : s < 18446744073709551616) : restX s < 18446744073709551616 := Nat.lt_of_le_of_lt Nat.and_le_left hs
theorem rest_low {s : Nat} (h : 0 < pop64 s) : 0 ≤ lowI (nums s) ∧ lowI (nums s) < 64 := by
  unfold pop64 at h
  cases hn : nums s with
  | nil => rw [hn] at h; exact absurd h (Nat.lt_irrefl _)
  | cons j l =>
    show 0 ≤ (j.val : Int) ∧ (j.val : Int) < 64
    omega
theorem rest_nums {s : Nat} {j : Fin 64} {l : List (Fin 64)} (h : nums s = j :: l) : nums (restX s) = l := by
  have e : (lowI (nums s)).toNat = j.val := by rw [h]; rfl
  have hp : 2 ^ j.val < 2 ^ 64 := Nat.pow_lt_pow_right (by decide) j.isLt
  have hs := sorted_nums s
  have key : nums (restX s) = fromI ((j.val : Int) + 1) (nums s) := by
    refine nums_from fun i => ?_
    unfold restX
    rw [e, show (18446744073709551615 : Nat) = 2 ^ 64 - 1 by decide, minus_bits 64 s (2 ^ j.val) hp i.val i.isLt, Nat.testBit_two_pow]
    by_cases hb : s.testBit i.val = true
    · have hm := (mem_nums s i).2 hb
      rw [h] at hm hs
      rcases List.mem_cons.1 hm with q | q
      · subst q
        have h2 : ¬ (i.val : Int) + 1 ≤ (i.val : Int) := by omega
        simp [hb, h2]
      · have hlt : j < i := (List.pairwise_cons.1 hs).1 i q
        have hlt' : j.val < i.val := hlt
        have h1 : ¬ j.val = i.val := by omega
        have h2 : (j.val : Int) + 1 ≤ (i.val : Int) := by omega
        simp [hb, h1, h2]
    · have hb0 : s.testBit i.val = false := by simpa using hb
      simp [hb0]
  rw [key]
  exact from_snoc (pre := []) hs h
theorem rest_pop {s : Nat} (_ : s < 18446744073709551616) (h : 0 < pop64 s) : pop64 (restX s) + 1 = pop64 s := by
  unfold pop64 at h ⊢
  cases hn : nums s with
  | nil => rw [hn] at h; exact absurd h (Nat.lt_irrefl _)
  | cons j l => rw [rest_nums hn]; rfl
theorem chF_lt : ∀ (k s : Nat), ∀ t ∈ chF k s, t < 18446744073709551616
  | 0, s, t, h => by
    have : t = 0 := by simpa [chF] using h
    omega
  | k + 1, s, t, h => by
    unfold chF at h
    obtain ⟨u, hu, ht⟩ := List.mem_flatMap.1 h
    obtain ⟨j, hj, rfl⟩ := List.mem_map.1 ht
    exact Nat.or_lt_two_pow (n := 64) (chF_lt k _ u hu) (Nat.pow_lt_pow_right (by decide) j.isLt)
theorem chF_step {k s : Nat} (_ : s < 18446744073709551616) : chF (k + 1) s = (chF k (restX s)).flatMap (stepC s) := rfl
theorem pre_inner {k s t : Nat} (hs : s < 18446744073709551616) {pre : List Nat} {p2 : List (Fin 64)} {j : Fin 64} (h1 : pre ++ [t] <+: chF k (restX s)) (h2 : p2 ++ [j] <+: nums (aheadX s t)) :
    (pre.flatMap (stepC s) ++ p2.map (fun j => t ||| 2 ^ j.val)) ++ [t ||| 2 ^ j.val] <+: chF (k + 1) s := by
  obtain ⟨r1, h1⟩ := h1
  obtain ⟨r2, h2⟩ := h2
  rw [chF_step hs, ← h1]
  refine ⟨r2.map (fun j => t ||| 2 ^ j.val) ++ r1.flatMap (stepC s), ?_⟩
  rw [List.flatMap_append, List.flatMap_append, List.flatMap_cons, List.flatMap_nil, List.append_nil, show stepC s t = (p2 ++ [j] ++ r2).map (fun j => t ||| 2 ^ j.val) by rw [h2]; rfl]
  simp
theorem flat_pre {s : Nat} {l m : List Nat} (h : l <+: m) : l.flatMap (stepC s) <+: m.flatMap (stepC s) := by
  obtain ⟨r, rfl⟩ := h
  exact ⟨r.flatMap (stepC s), by simp⟩
theorem mem64 {x : Nat} (_ : x < 18446744073709551616) {j : Fin 64} (_ : j ∈ nums x) : j.val < 64 := j.isLt
end Go.Proofs.YtmoiedlchcceaaaDoor
namespace Go.Proofs.YtmoiedlchcceaaaDoor
open Go.RowKit Go.Shelf
/-- An iterator's contract: it tells the words of L; the rounds keep what it lays, and are told that the word is the next. -/
def SeqL {α : Type} (n : Nat) (P : Program) (g : Nat) (lb : Array Value) (encs : α → Array Value) (Kp : World → World → Prop) (L : List α) (w : World) : Prop :=
  ∀ (l : Nat) (J Jx : List α → World → Prop) (W : World), Below w.heap.size w W → OwnFrom W.heap.size J → OwnFrom W.heap.size Jx →
    (∀ pre x V, J pre V → pre ++ [x] <+: L → YieldAt Fence.wide (n - 1) P l (encs x) V fun e V' =>
      (e = .returned (.bool true) ∧ J (pre ++ [x]) V' ∧ Kp V V' ∧ Kept W.heap.size V V') ∨ (e = .returned (.bool false) ∧ Jx (pre ++ [x]) V' ∧ Kept W.heap.size V V')) →
    J [] W →
    CallsIn Fence.wide n P g (#[.func (.yield l) #[] #[]] ++ lb) W fun e W' => (∃ v, e = .returned v) ∧ (J L W' ∨ (∃ pre, pre <+: L ∧ Jx pre W'))
theorem rangeR {α : Type} {P : Program} {n : Nat} {g : Operand} {ps : Array Tmp} {assign body : Code} {Q : Exit → Act → World → Prop} {a : Act} {w : World} {gf : Nat} {lb : Array Value}
    (hg : a.eval g = .func (.func gf) #[] lb) (eg : ∀ args w, (callFunc gf args).run P w = .ok (.enter gf args) w)
    {encs : α → Array Value} {Kp : World → World → Prop} {L : List α} (hseq : SeqL (n - 1) P gf lb encs Kp L w)
    (hKt : ∀ {A B C : World}, Kp A B → Kp B C → Kp A C) (hKb : ∀ (W : World) (l : Nat) (o o' : Obj), w.heap.size ≤ l → W.heap[l]? = some o → o.isCells = false → o.isWalk = false → Kp W (W.putObj l o')) (hps : ∀ x, (encs x).size = ps.size)
    (I : List α → World → Prop) (Ix : Code → List α → World → Prop) (hI : OwnFrom w.heap.size I) (hIx : ∀ c, OwnFrom w.heap.size (Ix c)) (h0 : I [] w) (Ax : α → Act → World → Prop) (hAx : ∀ x a', OwnFrom (β := Unit) w.heap.size (fun _ W => Ax x a' W)) (hKa : ∀ {A B : World}, w.heap.size ≤ A.heap.size → Below A.heap.size A B → Kp A B)
    (hassign : ∀ (l : Nat) (x : α) (W : World) (K : Act → World → Prop), w.heap.size ≤ W.heap.size → (∀ a' W', Below W.heap.size W W' → Ax x a' W' → K a' W') →
      assign.wpIn (Fence.wide.inRound l) (n - 1 - 1) P (Exit.then K (fun _ _ _ => False)) { tmps := (ps.zip (encs x)).foldl (fun t (p, v) => t.setIfInBounds p v) a.tmps, defers := [] } W)
    (hbody : ∀ (l : Nat) (pre : List α) (x : α) (a' : Act) (W : World), w.heap.size ≤ W.heap.size → l = w.heap.size + 1 → (∃ r, W.heap[l]? = some (.loop r)) → I pre W → Ax x a' W → pre ++ [x] <+: L →
      body.wpIn (Fence.wide.inRound l) (n - 1 - 1) P (ownPostG w.heap.size Kp (fun xs W' => I xs W' ∧ Kept (w.heap.size + 2) W W') (fun c xs W' => Ix c xs W' ∧ Kept (w.heap.size + 2) W W') (pre ++ [x]) W) a' W)
    (hdone : ∀ (D : Nat) (W : World), w.heap.size ≤ D → I L W → W.heap[D]? = some (.deferred (some [])) → Q .normal { a with defers := { target := .collected D, args := #[] } :: a.defers } W)
    (hstop : ∀ (D : Nat) (c : Code) (pre : List α) (W : World), w.heap.size ≤ D → pre <+: L → Ix c pre W → W.heap[D]? = some (.deferred (some [])) → c.wpIn Fence.wide n P Q { a with defers := { target := .collected D, args := #[] } :: a.defers } W) :
    (Code.rangeFunc g ps assign body).wpIn Fence.wide n P Q a w := by
  refine wpIn_rangeFunc fun fn hfn => ?_
  have hent := run_enterLoop_outer (P := P) (w := w) fn a.tmps ps assign body
  have hL := World.alloc_heap_new (w.alloc (.deferred (some []))) (.loop (lrec fn a.tmps ps assign body w.heap.size .ready none))
  have hD := (Below.heap_alloc (w.alloc (.deferred (some []))) (.loop (lrec fn a.tmps ps assign body w.heap.size .ready none)) w.heap.size (by simp)).trans (World.alloc_heap_new w _)
  have hs : ((w.alloc (.deferred (some []))).alloc (.loop (lrec fn a.tmps ps assign body w.heap.size .ready none))).heap.size = w.heap.size + 2 := by simp
  have hI1 := hI.alloc (.loop (lrec fn a.tmps ps assign body w.heap.size .ready none)) (hI.alloc (.deferred (some [])) h0)
  have hb1 : Below w.heap.size w ((w.alloc (.deferred (some []))).alloc (.loop (lrec fn a.tmps ps assign body w.heap.size .ready none))) := ((Below.refl _ w).alloc (Nat.le_refl _) _).alloc (by simp) _
  rw [World.size_alloc] at hL
  change (Instr.enterLoop fn a.tmps ps assign body none).run P w = .ok (w.heap.size + 1, [{ target := .collected w.heap.size, args := #[] }]) ((w.alloc (.deferred (some []))).alloc (.loop (lrec fn a.tmps ps assign body w.heap.size .ready none))) at hent
  generalize (w.alloc (.deferred (some []))).alloc (.loop (lrec fn a.tmps ps assign body w.heap.size .ready none)) = W1 at *
  refine ⟨_, _, W1, { target := .fn (.func gf) lb, args := #[.func (.yield (w.heap.size + 1)) #[] #[]] }, W1, gf, #[.func (.yield (w.heap.size + 1)) #[] #[]] ++ lb, W1, hent, ?_, fun _ _ => trivial, by simp [invoke, go_sem, eg], fun h => (by cases h), ?_⟩
  · simp only [resolve, hg]
    simp [go_sem]
  have own2 : ∀ (D : Nat) (o : Obj), D < W1.heap.size → OwnFrom (β := Unit) W1.heap.size (fun _ W => W.heap[D]? = some o) := fun D o hDl _ Y Z row h hg' hr =>
    (hg'.block D (Array.getElem?_eq_some_iff.1 h).1 (fun e => by have := (hr D e.symm).1; omega)).trans h
  have up : ∀ {Y : World} {row : Option Nat}, (∀ r, row = some r → W1.heap.size ≤ r ∧ ∃ o : Obj, Y.heap[r]? = some o ∧ o.isCells = false) → (∀ r, row = some r → w.heap.size ≤ r ∧ ∃ o : Obj, Y.heap[r]? = some o ∧ o.isCells = false) := fun h r e => ⟨by have := (h r e).1; omega, (h r e).2⟩
  refine (hseq (w.heap.size + 1)
    (fun pre W => I pre W ∧ W.heap[w.heap.size + 1]? = some (.loop (lrec fn a.tmps ps assign body w.heap.size .ready none)) ∧ W.heap[w.heap.size]? = some (.deferred (some [])))
    (fun pre W => ∃ c, Ix c pre W ∧ W.heap[w.heap.size + 1]? = some (.loop (lrec fn a.tmps ps assign body w.heap.size .done (some c))) ∧ W.heap[w.heap.size]? = some (.deferred (some [])))
    W1 hb1 ?_ ?_ ?_ ⟨hI1, hL, hD⟩).mono ?_
  · rintro s Y Z row ⟨h2, h3, h4⟩ hg' hr
    exact ⟨hI s Y Z row h2 hg' (up hr), own2 _ _ (by omega) () Y Z row h3 hg' hr, own2 _ _ (by omega) () Y Z row h4 hg' hr⟩
  · rintro s Y Z row ⟨c, h2, h3, h4⟩ hg' hr
    exact ⟨c, hIx c s Y Z row h2 hg' (up hr), own2 _ _ (by omega) () Y Z row h3 hg' hr, own2 _ _ (by omega) () Y Z row h4 hg' hr⟩
  · rintro pre x V0 ⟨hi0, hl0, hd0⟩ hlen
    have hV0 : w.heap.size + 1 < V0.heap.size := (Array.getElem?_eq_some_iff.1 hl0).1
    refine ⟨_, _, _, _, run_yield (P := P) (args := encs x) hl0 (hps x), roundIn_of_wpIn hfn (hassign _ x V0 _ (by omega) fun a' V hbV hax => ?_)⟩
    have hl := (hbV.block _ hV0).trans hl0
    have hd := (hbV.block w.heap.size (by omega)).trans hd0
    have hV : w.heap.size + 1 < V.heap.size := Nat.lt_of_lt_of_le hV0 hbV.size
    have hi := hI _ _ _ none hi0 (grown_none hbV) (fun r e => by cases e)
    have hk0 := hKa (by omega) hbV
    have hq0 := Kept.below (B := W1.heap.size) hbV
    refine ⟨_, run_beginRound hl rfl, ?_⟩
    have hax2 := (hAx x a').putObj (s := ()) (.loop (lrec fn a.tmps ps assign body w.heap.size .busy none)) hax (show w.heap.size ≤ w.heap.size + 1 by omega) hl rfl
    have hz2 : w.heap.size ≤ (V.putObj (w.heap.size + 1) (.loop (lrec fn a.tmps ps assign body w.heap.size .busy none))).heap.size := by have := (grownBy_putObj' V (w.heap.size + 1) (.loop (lrec fn a.tmps ps assign body w.heap.size .busy none))).size; omega
    have hl2 := World.putObj_heap_same (w := V) (o := .loop (lrec fn a.tmps ps assign body w.heap.size .busy none)) hV
    have hd2 := (World.putObj_heap_other (w := V) (o := .loop (lrec fn a.tmps ps assign body w.heap.size .busy none)) (show w.heap.size ≠ w.heap.size + 1 by omega)).trans hd
    have hk2 := hKt hk0 <| hKb V (w.heap.size + 1) _ (.loop (lrec fn a.tmps ps assign body w.heap.size .busy none)) (by omega) hl rfl rfl
    have hq2 := hq0.trans <| Kept.putObj (B := W1.heap.size) (l := w.heap.size + 1) V (.loop (lrec fn a.tmps ps assign body w.heap.size .busy none)) (by omega)
    have hi2 := hI.putObj (.loop (lrec fn a.tmps ps assign body w.heap.size .busy none)) hi (show w.heap.size ≤ w.heap.size + 1 by omega) hl rfl
    change Code.wpIn _ _ _ _ _ _ (V.putObj (w.heap.size + 1) (.loop (lrec fn a.tmps ps assign body w.heap.size .busy none)))
    refine wpIn_mono (hbody _ pre x a' _ hz2 rfl ⟨_, hl2⟩ hi2 hax2 hlen) ?_
    clear hbody hassign hi2 hax2 hz2
    generalize V.putObj (w.heap.size + 1) (.loop (lrec fn a.tmps ps assign body w.heap.size .busy none)) = V2 at *
    have leave : ∀ (j : Code) (V3 : World), KeepsFrom w.heap.size V2 V3 → Ix j (pre ++ [x]) V3 → Kept (w.heap.size + 2) V2 V3 → ∃ v V4, (Instr.endRound (w.heap.size + 1) (some j)).run P V3 = .ok v V4 ∧
        ((Ending.returned v = .returned (.bool true) ∧ (I (pre ++ [x]) V4 ∧ V4.heap[w.heap.size + 1]? = some (.loop (lrec fn a.tmps ps assign body w.heap.size .ready none)) ∧ V4.heap[w.heap.size]? = some (.deferred (some []))) ∧ Kp V0 V4 ∧ Kept W1.heap.size V0 V4) ∨
        (Ending.returned v = .returned (.bool false) ∧ (∃ c, Ix c (pre ++ [x]) V4 ∧ V4.heap[w.heap.size + 1]? = some (.loop (lrec fn a.tmps ps assign body w.heap.size .done (some c))) ∧ V4.heap[w.heap.size]? = some (.deferred (some []))) ∧ Kept W1.heap.size V0 V4)) := by
      intro j V3 hk hi3 hq3
      have hl3 := hk.same _ _ (by omega) hl2 rfl
      have hd3 := hk.same _ _ (Nat.le_refl _) hd2 rfl
      refine ⟨_, _, run_endRound (P := P) (some j) hl3, .inr ⟨rfl, ⟨j, (hIx j).putObj _ hi3 (by omega) hl3 rfl, World.putObj_heap_same (Array.getElem?_eq_some_iff.1 hl3).1, (World.putObj_heap_other (by omega)).trans hd3⟩, ?_⟩⟩
      exact (hq2.trans (hs ▸ hq3)).trans (Kept.putObj _ _ (by omega))
    rintro e a3 V3 hp
    cases e with
    | normal =>
      obtain ⟨hk, hkp, hi3, hq3⟩ := hp
      have hl3 := hk.same _ _ (by omega) hl2 rfl
      have hd3 := hk.same _ _ (Nat.le_refl _) hd2 rfl
      exact ⟨_, _, run_endRound (P := P) none hl3, .inl ⟨rfl, ⟨hI.putObj _ hi3 (by omega) hl3 rfl, World.putObj_heap_same (Array.getElem?_eq_some_iff.1 hl3).1, (World.putObj_heap_other (by omega)).trans hd3⟩, hKt (hKt hk2 hkp) (hKb _ _ _ _ (by omega) hl3 rfl rfl), (hq2.trans (hs ▸ hq3)).trans (Kept.putObj _ _ (by omega))⟩⟩
    | ret => exact leave .ret V3 hp.1 hp.2.1 hp.2.2
    | exit id => exact leave (.exit id) V3 hp.1 hp.2.1 hp.2.2
    | goto t => exact leave (.goto t) V3 hp.1 hp.2.1 hp.2.2
    | panic ch => exact hp.elim
    | outgrown => exact hp.elim
  · rintro e W2 ⟨⟨v, rfl⟩, (⟨hi, hl, hd⟩ | ⟨pre, hSp, c, hi, hl, hd⟩)⟩
    · exact ⟨_, _, run_endLoop (P := P) hl (by simp [lrec]), hdone _ _ (Nat.le_refl _) (hI.putObj _ hi (by omega) hl rfl) ((World.putObj_heap_other (by omega)).trans hd)⟩
    · exact ⟨_, _, run_endLoop (P := P) hl (by simp [lrec]), hstop _ c pre _ (Nat.le_refl _) hSp ((hIx c).putObj _ hi (by omega) hl rfl) ((World.putObj_heap_other (by omega)).trans hd)⟩
theorem rangeI {α : Type} {P : Program} {n : Nat} {g : Operand} {ps : Array Tmp} {assign body : Code} {Q : Exit → Act → World → Prop} {a : Act} {w : World} {gf : Nat} {lb : Array Value} {l₀ : Nat} {r₀ : Loop} (hl₀ : w.heap[l₀]? = some (.loop r₀))
    (hg : a.eval g = .func (.func gf) #[] lb) (eg : ∀ args w, (callFunc gf args).run P w = .ok (.enter gf args) w)
    {encs : α → Array Value} {Kp : World → World → Prop} {L : List α} (hseq : SeqL (n - 1) P gf lb encs Kp L w)
    (hKt : ∀ {A B C : World}, Kp A B → Kp B C → Kp A C) (hKb : ∀ (W : World) (l : Nat) (o o' : Obj), w.heap.size ≤ l → W.heap[l]? = some o → o.isCells = false → o.isWalk = false → Kp W (W.putObj l o')) (hps : ∀ x, (encs x).size = ps.size)
    (I : List α → World → Prop) (Ix : Code → List α → World → Prop) (hI : OwnFrom w.heap.size I) (hIx : ∀ c, OwnFrom w.heap.size (Ix c)) (h0 : I [] w) (Ax : α → Act → World → Prop) (hAx : ∀ x a', OwnFrom (β := Unit) w.heap.size (fun _ W => Ax x a' W)) (hKa : ∀ {A B : World}, w.heap.size ≤ A.heap.size → Below A.heap.size A B → Kp A B)
    (hassign : ∀ (l : Nat) (x : α) (W : World) (K : Act → World → Prop), w.heap.size ≤ W.heap.size → (∀ a' W', Below W.heap.size W W' → Ax x a' W' → K a' W') →
      assign.wpIn (Fence.wide.inRound l) (n - 1 - 1) P (Exit.then K (fun _ _ _ => False)) { tmps := (ps.zip (encs x)).foldl (fun t (p, v) => t.setIfInBounds p v) a.tmps, defers := [] } W)
    (hbody : ∀ (l : Nat) (pre : List α) (x : α) (a' : Act) (W : World), w.heap.size ≤ W.heap.size → I pre W → Ax x a' W → pre ++ [x] <+: L →
      body.wpIn (Fence.wide.inRound l) (n - 1 - 1) P (ownPostG w.heap.size Kp (fun xs W' => I xs W' ∧ Kept (w.heap.size + 1) W W') (fun c xs W' => Ix c xs W' ∧ Kept (w.heap.size + 1) W W') (pre ++ [x]) W) a' W)
    (hdone : ∀ (W : World), I L W → Q .normal a W)
    (hstop : ∀ (c : Code) (pre : List α) (W : World), pre <+: L → Ix c pre W → c.wpIn (Fence.wide.inRound l₀) n P Q a W) :
    (Code.rangeFunc g ps assign body).wpIn (Fence.wide.inRound l₀) n P Q a w := by
  refine wpIn_rangeFunc fun fn hfn => ?_
  have hent := run_enterLoop_inner (P := P) hl₀ fn a.tmps ps assign body
  have hL := World.alloc_heap_new w (.loop (lrec fn a.tmps ps assign body r₀.defers .ready none))
  have hs : (w.alloc (.loop (lrec fn a.tmps ps assign body r₀.defers .ready none))).heap.size = w.heap.size + 1 := by simp
  have hI1 := hI.alloc (.loop (lrec fn a.tmps ps assign body r₀.defers .ready none)) h0
  have hb1 : Below w.heap.size w (w.alloc (.loop (lrec fn a.tmps ps assign body r₀.defers .ready none))) := (Below.refl _ w).alloc (Nat.le_refl _) _
  change (Instr.enterLoop fn a.tmps ps assign body (some l₀)).run P w = .ok (w.heap.size, []) (w.alloc (.loop (lrec fn a.tmps ps assign body r₀.defers .ready none))) at hent
  generalize w.alloc (.loop (lrec fn a.tmps ps assign body r₀.defers .ready none)) = W1 at *
  refine ⟨_, _, W1, { target := .fn (.func gf) lb, args := #[.func (.yield (w.heap.size)) #[] #[]] }, W1, gf, #[.func (.yield (w.heap.size)) #[] #[]] ++ lb, W1, hent, ?_, fun _ _ => trivial, by simp [invoke, go_sem, eg], fun h => (by cases h), ?_⟩
  · simp only [resolve, hg]
    simp [go_sem]
  have own2 : ∀ (D : Nat) (o : Obj), D < W1.heap.size → OwnFrom (β := Unit) W1.heap.size (fun _ W => W.heap[D]? = some o) := fun D o hDl _ Y Z row h hg' hr =>
    (hg'.block D (Array.getElem?_eq_some_iff.1 h).1 (fun e => by have := (hr D e.symm).1; omega)).trans h
  have up : ∀ {Y : World} {row : Option Nat}, (∀ r, row = some r → W1.heap.size ≤ r ∧ ∃ o : Obj, Y.heap[r]? = some o ∧ o.isCells = false) → (∀ r, row = some r → w.heap.size ≤ r ∧ ∃ o : Obj, Y.heap[r]? = some o ∧ o.isCells = false) := fun h r e => ⟨by have := (h r e).1; omega, (h r e).2⟩
  refine (hseq (w.heap.size)
    (fun pre W => I pre W ∧ W.heap[w.heap.size]? = some (.loop (lrec fn a.tmps ps assign body r₀.defers .ready none)))
    (fun pre W => ∃ c, Ix c pre W ∧ W.heap[w.heap.size]? = some (.loop (lrec fn a.tmps ps assign body r₀.defers .done (some c))))
    W1 hb1 ?_ ?_ ?_ ⟨hI1, hL⟩).mono ?_
  · rintro s Y Z row ⟨h2, h3⟩ hg' hr
    exact ⟨hI s Y Z row h2 hg' (up hr), own2 _ _ (by omega) () Y Z row h3 hg' hr⟩
  · rintro s Y Z row ⟨c, h2, h3⟩ hg' hr
    exact ⟨c, hIx c s Y Z row h2 hg' (up hr), own2 _ _ (by omega) () Y Z row h3 hg' hr⟩
  · rintro pre x V0 ⟨hi0, hl0⟩ hlen
    have hV0 : w.heap.size < V0.heap.size := (Array.getElem?_eq_some_iff.1 hl0).1
    refine ⟨_, _, _, _, run_yield (P := P) (args := encs x) hl0 (hps x), roundIn_of_wpIn hfn (hassign _ x V0 _ (by omega) fun a' V hbV hax => ?_)⟩
    have hl := (hbV.block _ hV0).trans hl0
    have hV : w.heap.size < V.heap.size := Nat.lt_of_lt_of_le hV0 hbV.size
    have hi := hI _ _ _ none hi0 (grown_none hbV) (fun r e => by cases e)
    have hk0 := hKa (by omega) hbV
    have hq0 := Kept.below (B := W1.heap.size) hbV
    refine ⟨_, run_beginRound hl rfl, ?_⟩
    have hax2 := (hAx x a').putObj (s := ()) (.loop (lrec fn a.tmps ps assign body r₀.defers .busy none)) hax (show w.heap.size ≤ w.heap.size by omega) hl rfl
    have hz2 : w.heap.size ≤ (V.putObj (w.heap.size) (.loop (lrec fn a.tmps ps assign body r₀.defers .busy none))).heap.size := by have := (grownBy_putObj' V (w.heap.size) (.loop (lrec fn a.tmps ps assign body r₀.defers .busy none))).size; omega
    have hl2 := World.putObj_heap_same (w := V) (o := .loop (lrec fn a.tmps ps assign body r₀.defers .busy none)) hV
    have hk2 := hKt hk0 <| hKb V (w.heap.size) _ (.loop (lrec fn a.tmps ps assign body r₀.defers .busy none)) (by omega) hl rfl rfl
    have hq2 := hq0.trans <| Kept.putObj (B := W1.heap.size) (l := w.heap.size) V (.loop (lrec fn a.tmps ps assign body r₀.defers .busy none)) (by omega)
    have hi2 := hI.putObj (.loop (lrec fn a.tmps ps assign body r₀.defers .busy none)) hi (show w.heap.size ≤ w.heap.size by omega) hl rfl
    change Code.wpIn _ _ _ _ _ _ (V.putObj (w.heap.size) (.loop (lrec fn a.tmps ps assign body r₀.defers .busy none)))
    refine wpIn_mono (hbody _ pre x a' _ hz2 hi2 hax2 hlen) ?_
    clear hbody hassign hi2 hax2 hz2
    generalize V.putObj (w.heap.size) (.loop (lrec fn a.tmps ps assign body r₀.defers .busy none)) = V2 at *
    have leave : ∀ (j : Code) (V3 : World), KeepsFrom w.heap.size V2 V3 → Ix j (pre ++ [x]) V3 → Kept (w.heap.size + 1) V2 V3 → ∃ v V4, (Instr.endRound (w.heap.size) (some j)).run P V3 = .ok v V4 ∧
        ((Ending.returned v = .returned (.bool true) ∧ (I (pre ++ [x]) V4 ∧ V4.heap[w.heap.size]? = some (.loop (lrec fn a.tmps ps assign body r₀.defers .ready none))) ∧ Kp V0 V4 ∧ Kept W1.heap.size V0 V4) ∨
        (Ending.returned v = .returned (.bool false) ∧ (∃ c, Ix c (pre ++ [x]) V4 ∧ V4.heap[w.heap.size]? = some (.loop (lrec fn a.tmps ps assign body r₀.defers .done (some c)))) ∧ Kept W1.heap.size V0 V4)) := by
      intro j V3 hk hi3 hq3
      have hl3 := hk.same _ _ (by omega) hl2 rfl
      refine ⟨_, _, run_endRound (P := P) (some j) hl3, .inr ⟨rfl, ⟨j, (hIx j).putObj _ hi3 (by omega) hl3 rfl, World.putObj_heap_same (Array.getElem?_eq_some_iff.1 hl3).1⟩, ?_⟩⟩
      exact (hq2.trans (hs ▸ hq3)).trans (Kept.putObj _ _ (by omega))
    rintro e a3 V3 hp
    cases e with
    | normal =>
      obtain ⟨hk, hkp, hi3, hq3⟩ := hp
      have hl3 := hk.same _ _ (by omega) hl2 rfl
      exact ⟨_, _, run_endRound (P := P) none hl3, .inl ⟨rfl, ⟨hI.putObj _ hi3 (by omega) hl3 rfl, World.putObj_heap_same (Array.getElem?_eq_some_iff.1 hl3).1⟩, hKt (hKt hk2 hkp) (hKb _ _ _ _ (by omega) hl3 rfl rfl), (hq2.trans (hs ▸ hq3)).trans (Kept.putObj _ _ (by omega))⟩⟩
    | ret => exact leave .ret V3 hp.1 hp.2.1 hp.2.2
    | exit id => exact leave (.exit id) V3 hp.1 hp.2.1 hp.2.2
    | goto t => exact leave (.goto t) V3 hp.1 hp.2.1 hp.2.2
    | panic ch => exact hp.elim
    | outgrown => exact hp.elim
  · rintro e W2 ⟨⟨v, rfl⟩, (⟨hi, hl⟩ | ⟨pre, hSp, c, hi, hl⟩)⟩
    · exact ⟨_, _, run_endLoop (P := P) hl (by simp [lrec]), hdone _ (hI.putObj _ hi (by omega) hl rfl)⟩
    · exact ⟨_, _, run_endLoop (P := P) hl (by simp [lrec]), hstop c pre _ hSp ((hIx c).putObj _ hi (by omega) hl rfl)⟩
end Go.Proofs.YtmoiedlchcceaaaDoor
namespace Go.Proofs.YtmoiedlchcceaaaDoor
open Go.RowKit Go.Shelf
attribute [local go_sem] Oper.semAt_some
set_option maxRecDepth 100000 in
set_option maxHeartbeats 1000000 in
theorem all_seqL (n Bn x : Nat) (hx : x < 18446744073709551616) (w : World) (hBn : Bn < w.heap.size) (ht : Tab w) (hc : w.cell? ⟨Bn, 0, none⟩ = some (.int .u64 x)) :
    SeqL n Tryd.prog 44 #[.pointer (some ⟨Bn, 0, none⟩)] (fun k : Fin 64 => #[.int .i64 (k.val : Int)]) (KpB Bn) (nums x) w := fun l J Jx W hW hJ _ hY h0 => by
  replace hc := (hW.cell (p := ⟨Bn, 0, none⟩) hBn).trans hc
  replace hBn := Nat.lt_of_lt_of_le hBn hW.size
  replace ht := ht.over hW
  refine callsIn_of_wp Tryd.func44 rfl trivial ?_ rfl
  simp only [Tryd.ntmps44, List.size_toArray, List.length_cons, List.length_nil, Nat.reduceAdd, Nat.reduceSub, Array.replicate_succ, Array.replicate_zero, List.push_toArray, List.append_toArray, List.nil_append, List.cons_append]
  gi_wp2_with (refine ⟨trivial, fun h => absurd h (by decide), ?_⟩; gi_at_call 45; refine (callsIn_wide.2 (low64 x hx _ ht)).mono ?_; rintro e w1 ⟨rfl, hb⟩)
  have ht1 : Tab w1 := ht.over hb
  have hc1 : w1.cell? ⟨Bn, 0, none⟩ = some (.int .u64 x) := (hb.cell (p := ⟨Bn, 0, none⟩) hBn).trans hc
  have h01 : J [] w1 := hJ _ _ _ none h0 (grown_none hb) (fun r e => by cases e)
  gi_loopw [3] (fun p wr => ∃ (pre rest : List (Fin 64)) (z : Int), p = .int .i64 z ∧ Hid (z = lowI rest) ∧ Hid (nums x = pre ++ rest) ∧ Tab wr ∧ Bn < wr.heap.size ∧ wr.cell? ⟨Bn, 0, none⟩ = some (.int .u64 x) ∧ J pre wr) (fun p _ => leftI p)
  case atStart =>
    exact ⟨[], nums x, _, rfl, rfl, rfl, ht1, Nat.lt_of_lt_of_le hBn hb.size, hc1, h01⟩
  case round =>
    obtain ⟨pre, rest, z, rfl, hz, hp, htr, hBr, hcr, hJs⟩ := hrel
    cases rest with
    | nil =>
      have e1 : z < 0 := by rw [hz.out]; decide
      gi_wp2
      go_end0
      exact ⟨⟨_, rfl⟩, .inl (by rw [hp.out]; simpa using hJs)⟩
    | cons k rest =>
      have e1 : 0 ≤ z := by rw [hz.out]; exact Int.natCast_nonneg _
      have e2 : z < 64 := by rw [hz.out]; show (k.val : Int) < 64; omega
      obtain ⟨fn, tmps, assign, body, hy, hR⟩ := hY pre k wr hJs ⟨rest, by rw [hp.out]; simp⟩
      rw [show (k.val : Int) = z from hz.out.symm] at hy
      gi_wp2
      refine ⟨fun h => absurd h (by decide), hR.mono ?_⟩
      rintro e W3 (⟨rfl, hJ3, hk3, _⟩ | ⟨rfl, hJx3, _⟩)
      · have ht3 : Tab W3 := hk3.2 htr
        have hc3 : W3.cell? ⟨Bn, 0, none⟩ = some (.int .u64 x) := hk3.1.trans hcr
        have hB3 : Bn < W3.heap.size := cell_lt hc3
        gi_wp2_with (refine ⟨trivial, fun h => absurd h (by decide), ?_⟩; gi_at_call 46; refine (callsIn_wide.2 (next64 x hx _ _ ht3)).mono ?_; rintro e w4 ⟨rfl, hb4⟩)
        go_roundw
        case rel => exact ⟨pre ++ [k], rest, _, rfl, by rw [hz.out]; exact congrArg lowI (from_snoc (sorted_nums x) hp.out), by show nums x = _; rw [hp.out]; simp, ht3.over hb4, Nat.lt_of_lt_of_le hB3 hb4.size, (hb4.cell (p := ⟨Bn, 0, none⟩) hB3).trans hc3, hJ _ _ _ none hJ3 (grown_none hb4) (fun r e => by cases e)⟩
        case measure =>
          rw [hz.out, show lowI (k :: rest) = (k.val : Int) from rfl, from_snoc (j := k) (sorted_nums x) hp.out]
          exact leftI_lt (sorted_nums x) hp.out
      · gi_wp2
        refine bodyPost_ret (results_none rfl _ _ _) rfl ?_
        exact ⟨⟨_, rfl⟩, .inr ⟨pre ++ [k], ⟨rest, by rw [hp.out]; simp⟩, hJx3⟩⟩
end Go.Proofs.YtmoiedlchcceaaaDoor
namespace Go.Proofs.YtmoiedlchcceaaaDoor
open Go.RowKit Go.Shelf
attribute [local go_sem] Oper.semAt_some
def encT (t : Nat) : Array Value := #[.agg #[.int .u64 (t : Int)]]
theorem keep2k {W0 W w1 : World} {b b' : Nat} {u v : Value} (h : W.cell? ⟨b, 0, none⟩ = some u ∧ W.cell? ⟨b', 0, none⟩ = some v ∧ Below W0.heap.size W0 W) (hb : Below W.heap.size W w1) :
    w1.cell? ⟨b, 0, none⟩ = some u ∧ w1.cell? ⟨b', 0, none⟩ = some v ∧ Below W0.heap.size W0 w1 := keep2b h hb
/-- What stands between two rounds. -/
structure Gc (l sb s yb B : Nat) (V : World) : Prop where
  sz : B ≤ V.heap.size
  cs : V.cell? ⟨sb, 0, none⟩ = some (.int .u64 (s : Int))
  tb : Tab V
  by_ : Boxed V yb 94 (.func (.yield l) #[] #[])
theorem Gc.below {l sb s yb B n : Nat} {V V' : World} (h : Gc l sb s yb B V) (hb : Below n V V') (h1 : sb < n) (h2 : yb < n) (h3 : 1 ≤ n) : Gc l sb s yb B V' :=
  ⟨Nat.le_trans h.sz hb.size, (hb.cell (p := ⟨sb, 0, none⟩) h1).trans h.cs, h.tb.below h3 hb, (hb.block _ h2).trans h.by_⟩
theorem Gc.own {l sb s yb B : Nat} (h1 : sb < B) (h2 : yb < B) (h3 : 1 ≤ B) : OwnFrom (β := Unit) B (fun _ V => Gc l sb s yb B V) := fun _ Y _ _ h hg hr =>
  h.below (n := B) ((Below.refl _ Y).grown hg h.sz fun k e => (hr k e).1) h1 h2 h3
theorem Gc.round {l sb s yb B b0 : Nat} {V V' : World} (h : Gc l sb s yb B V) (hk : KpB sb V V') (hq : Kept b0 V V') (h1 : b0 ≤ yb) : Gc l sb s yb B V' :=
  ⟨Nat.le_trans h.sz hq.1, hk.1.trans h.cs, hk.2 h.tb, (hq.2 _ h1 h.by_.lt).trans h.by_⟩
set_option maxRecDepth 100000 in
set_option maxHeartbeats 1000000 in
theorem choose_none (z : Int) (s n kb sb : Nat) (w : World) (hs : s < 18446744073709551616) (hz : z < 0 ∨ (pop64 s : Int) < z) (hkb : kb < w.heap.size) (hsb : sb < w.heap.size) (hk : w.cell? ⟨kb, 0, none⟩ = some (.int .i64 z)) (hc : w.cell? ⟨sb, 0, none⟩ = some (.int .u64 (s : Int))) :
    SeqL n Tryd.prog 55 #[.pointer (some ⟨kb, 0, none⟩), .pointer (some ⟨sb, 0, none⟩)] encT (KpB sb) [] w := fun l J Jx W hW hJ _ _ h0 => by
  replace hk := (hW.cell (p := ⟨kb, 0, none⟩) hkb).trans hk
  replace hc := (hW.cell (p := ⟨sb, 0, none⟩) hsb).trans hc
  have hB0 : Below W.heap.size W (W.alloc (.cells #[.func (.yield l) #[] #[]] 94)) := (Below.refl _ W).alloc (Nat.le_refl _) _
  have KL : Hid (∀ X, Calls Tryd.prog 39 #[.agg #[.int .u64 (s : Int)]] X fun e w' => e = .returned (.int .i64 (pop64 s : Nat)) ∧ Below X.heap.size X w') := fun X => by
    have := len64 s hs X
    exact this
  clear hs
  generalize pop64 s = q at *
  refine (callsIn_wide (n := n)).2 ?_
  have hfin : Hid (∀ X, Below W.heap.size W X → J [] X) := fun X hX => hJ _ _ _ none h0 (grown_none hX) (fun r e => by cases e)
  clear hJ h0
  go_enter Tryd.func55, Tryd.ntmps55
  go_wp2
  generalize hW0 : W.alloc (.cells #[.func (.yield l) #[] #[]] 94) = W0 at *
  have k0 := (hB0.cell (p := ⟨kb, 0, none⟩) (cell_lt hk)).trans hk
  have c0 := (hB0.cell (p := ⟨sb, 0, none⟩) (cell_lt hc)).trans hc
  have hS0 : Hid (W0.drew.cell? ⟨kb, 0, none⟩ = some (.int .i64 z) ∧ W0.drew.cell? ⟨sb, 0, none⟩ = some (.int .u64 (s : Int)) ∧ Below W0.heap.size W0 W0.drew) := ⟨k0, c0, (Below.refl _ _).drew⟩
  clear hS0
  by_cases hn : z < 0
  · clear KL hz
    go_region_with (fail)
    all_goals
      go_wp2
      refine bodyPost_ret (results_none rfl _ _ _) rfl ?_
      exact ⟨⟨_, rfl⟩, .inl (hfin.out _ (hB0.drew))⟩
  · have hz2 : (q : Int) < z := by omega
    have hcell : Hid (∀ X, Below W0.heap.size W0 X → X.cell? ⟨kb, 0, none⟩ = some (.int .i64 z)) := fun X hX => (hX.cell (p := ⟨kb, 0, none⟩) (cell_lt k0)).trans k0
    clear hz
    go_region_with (go_at_call 39; refine (KL.out _).mono ?_; rintro e w1 ⟨rfl, hb⟩; have hB1 : Below W0.heap.size W0 w1 := ((Below.refl _ W0).drew).trans hb; have k1 := hcell.out _ hB1)
    all_goals
      go_wp2
      refine bodyPost_ret (results_none rfl _ _ _) rfl ?_
      exact ⟨⟨_, rfl⟩, .inl (hfin.out _ (hB0.trans (hB1.mono hB0.size)))⟩
set_option maxRecDepth 100000 in
set_option maxHeartbeats 1000000 in
theorem choose_zero (s n kb sb : Nat) (w : World) (hs : s < 18446744073709551616) (hkb : kb < w.heap.size) (hsb : sb < w.heap.size) (hk : w.cell? ⟨kb, 0, none⟩ = some (.int .i64 0)) (hc : w.cell? ⟨sb, 0, none⟩ = some (.int .u64 (s : Int))) :
    SeqL n Tryd.prog 55 #[.pointer (some ⟨kb, 0, none⟩), .pointer (some ⟨sb, 0, none⟩)] encT (KpB sb) (chF 0 s) w := fun l J Jx W hW hJ _ hY h0 => by
  replace hk := (hW.cell (p := ⟨kb, 0, none⟩) hkb).trans hk
  replace hc := (hW.cell (p := ⟨sb, 0, none⟩) hsb).trans hc
  have hB0 : Below W.heap.size W (W.alloc (.cells #[.func (.yield l) #[] #[]] 94)) := (Below.refl _ W).alloc (Nat.le_refl _) _
  have bY := Boxed.new W 94 (.func (.yield l) #[] #[])
  have KL : Hid (∀ X, Calls Tryd.prog 39 #[.agg #[.int .u64 (s : Int)]] X fun e w' => e = .returned (.int .i64 (pop64 s : Nat)) ∧ Below X.heap.size X w') := fun X => by
    have := len64 s hs X
    exact this
  clear hs
  generalize pop64 s = q at *
  have hYY : Hid (∀ X, Below W.heap.size W X → YieldAt Fence.wide (n - 1) Tryd.prog l #[.agg #[.int .u64 0]] X fun e V' => ∃ b, e = .returned (.bool b) ∧ (J [0] V' ∨ (∃ pre, pre <+: [0] ∧ Jx pre V'))) := fun X hX => by
    refine YieldAt.mono (hY [] 0 X (hJ _ _ _ none h0 (grown_none hX) (fun r e => by cases e)) (List.prefix_refl _)) ?_
    rintro e V' (⟨rfl, h2, _⟩ | ⟨rfl, h2, _⟩)
    · exact ⟨true, rfl, .inl h2⟩
    · exact ⟨false, rfl, .inr ⟨_, List.prefix_refl _, h2⟩⟩
  clear hJ h0 hY
  show CallsIn _ _ _ _ _ _ fun e W' => (∃ v, e = .returned v) ∧ (J [0] W' ∨ (∃ pre, pre <+: [0] ∧ Jx pre W'))
  refine callsIn_of_wp_marks Tryd.func55 rfl trivial ?_ rfl
  simp only [Tryd.ntmps55, List.size_toArray, List.length_cons, List.length_nil, Nat.reduceAdd, Nat.reduceSub, Array.replicate_succ, Array.replicate_zero, List.push_toArray, List.append_toArray, List.nil_append, List.cons_append]
  refine wpIn_wide.2 ?_
  go_wp2
  generalize hW0 : W.alloc (.cells #[.func (.yield l) #[] #[]] 94) = W0 at *
  clear hW0
  have k0 := (hB0.cell (p := ⟨kb, 0, none⟩) (cell_lt hk)).trans hk
  have c0 := (hB0.cell (p := ⟨sb, 0, none⟩) (cell_lt hc)).trans hc
  have hq : ¬ ((q : Int) < 0) := by omega
  have hS0 : Hid (W0.drew.cell? ⟨kb, 0, none⟩ = some (.int .i64 0) ∧ W0.drew.cell? ⟨sb, 0, none⟩ = some (.int .u64 (s : Int)) ∧ Below W0.heap.size W0 W0.drew) := ⟨k0, c0, (Below.refl _ _).drew⟩
  go_region_held3 (fun X => X.cell? ⟨kb, 0, none⟩ = some (.int .i64 0) ∧ X.cell? ⟨sb, 0, none⟩ = some (.int .u64 (s : Int)) ∧ Below W0.heap.size W0 X) (first | assumption | (exact keep2b (by assumption) hb) | (exact hS0.out)) (first | (go_at_call 39; refine (KL.out _).mono ?_; rintro e w1 ⟨rfl, hb⟩))
  have hB1 : Below W0.heap.size W0 w1 := ‹_ ∧ _ ∧ Below W0.heap.size W0 w1›.2.2
  have k1 : w1.cell? ⟨kb, 0, none⟩ = some (.int .i64 0) := ‹_ ∧ _ ∧ Below W0.heap.size W0 w1›.1
  have y1 := (bxb8 bY hB1).cell
  obtain ⟨fn, tmps, assign, body, hy, hR⟩ := hYY.out w1 (hB0.trans (hB1.mono hB0.size))
  have hq1 : decide ((q : Int) < 0) = false := by simp
  rename_i K hK _
  refine hK _ _ ?_
  refine (wpIn_wide (n := n)).1 ?_
  gi_wp2
  refine (wpIn_wide (n := n)).1 ?_
  gi_wp2_with (refine ⟨fun h => absurd h (by decide), hR.mono ?_⟩; rintro e V1 ⟨b, rfl, h2⟩)
  exact ⟨_, results_none rfl _ _ _, ⟨_, rfl⟩, h2⟩
end Go.Proofs.YtmoiedlchcceaaaDoor

/- Kinds of bytes, as closures: what they answer. -/
import Derived.Test.YtghodeggobgclaaLMath
import Derived.WalkKit
import Derived.WalkSpells
import Derived.WalkLawsBesides
import Derived.BigRegion
import Derived.OwnWalk
import Derived.Laws.Externs
import Derived.Laws.EntriesVeiled
import Derived.Lib.Strings
import Derived.Lib.Bytealg
import Derived.Shelf.Abstract
import Derived.LoopN
import Derived.Deep.CutRange
import Derived.Deep.AppendLies
import Derived.Deep.RegionHeld3
import Derived.Deep.QuietTactic
import Derived.BigQuiet
namespace Go.Proofs.Ytghodeggobgclaa
open Go.RowKit Go.Shelf
theorem hide' {p : Prop} (h : p) : Hid p := h
/-- A list's bytes as a string. -/
def bs (l : List UInt8) : ByteArray := ⟨l.toArray⟩
theorem bs_size (l : List UInt8) : (bs l).size = l.length := by simp [bs, ByteArray.size]
theorem bs_at {l : List UInt8} {i : Nat} {x : UInt8} (hx : l[i]? = some x) : ∃ h : i < (bs l).size, (bs l)[i]'h = x := by
  obtain ⟨hl, e⟩ := List.getElem?_eq_some_iff.1 hx
  refine ⟨by rw [bs_size]; exact hl, ?_⟩
  rw [← e]
  rfl
theorem bs_list (l : List UInt8) : (bs l).data.toList = l := by simp [bs]
theorem bs_of (s : ByteArray) : s = bs s.data.toList := by cases s; simp [bs]
/-- The blocks from lo on are kept. -/
def Kp (lo : Nat) (w W : World) : Prop := w.heap.size ≤ W.heap.size ∧ ∀ k, lo ≤ k → k < w.heap.size → W.heap[k]? = w.heap[k]?
theorem Kp.refl (lo : Nat) (w : World) : Kp lo w w := ⟨Nat.le_refl _, fun _ _ _ => rfl⟩
theorem Kp.trans {lo : Nat} {w W V : World} (h : Kp lo w W) (h' : Kp lo W V) : Kp lo w V :=
  ⟨Nat.le_trans h.1 h'.1, fun k h1 h2 => (h'.2 k h1 (Nat.lt_of_lt_of_le h2 h.1)).trans (h.2 k h1 h2)⟩
theorem Kp.of {w W : World} (lo : Nat) (h : Below w.heap.size w W) : Kp lo w W := ⟨h.size, fun k _ h2 => h.block k h2⟩
theorem Kp.cell {lo : Nat} {w W : World} (h : Kp lo w W) {p : Addr} (h1 : lo ≤ p.block) (h2 : p.block < w.heap.size) : W.cell? p = w.cell? p := by
  simp [World.cell?, h.2 p.block h1 h2]
/-- A function value that tells a kind of bytes, in any later world that keeps the blocks from lo on. -/
def PK (lo : Nat) (g : Nat) (lb : Array Value) (p : UInt8 → Bool) (w : World) : Prop :=
  (∀ args w, (callFunc g args).run Try.prog w = .ok (.enter g args) w) ∧ ∀ (W : World) (x : UInt8), Kp lo w W → Calls Try.prog g (#[.int .u8 (x.toNat : Int)] ++ lb) W fun e w' => e = .returned (.bool (p x)) ∧ Below W.heap.size W w'
theorem PK.laterK {lo g : Nat} {lb : Array Value} {p : UInt8 → Bool} {w W : World} (h : PK lo g lb p w) (hb : Kp lo w W) : PK lo g lb p W :=
  ⟨h.1, fun W' x hb' => h.2 W' x (hb.trans hb')⟩
theorem PK.later {lo g : Nat} {lb : Array Value} {p : UInt8 → Bool} {w W : World} (h : PK lo g lb p w) (hb : Below w.heap.size w W) : PK lo g lb p W := h.laterK (.of lo hb)
theorem ent47 : ∀ args w, (callFunc 95 args).run Try.prog w = .ok (.enter 95 args) w := enters_of Try.func95 (by kernel_rfl) rfl
theorem ent48 : ∀ args w, (callFunc 96 args).run Try.prog w = .ok (.enter 96 args) w := enters_of Try.func96 (by kernel_rfl) rfl
theorem ent50 : ∀ args w, (callFunc 98 args).run Try.prog w = .ok (.enter 98 args) w := enters_of Try.func98 (by kernel_rfl) rfl
theorem ent51 : ∀ args w, (callFunc 99 args).run Try.prog w = .ok (.enter 99 args) w := enters_of Try.func99 (by kernel_rfl) rfl
set_option maxHeartbeats 1000000 in
theorem betw (a b : Nat) (B1 B2 : Nat) (x : UInt8) (w : World) (h1 : w.cell? ⟨B1, 0, none⟩ = some (.int .u8 (a : Int))) (h2 : w.cell? ⟨B2, 0, none⟩ = some (.int .u8 (b : Int))) :
    Calls Try.prog 95 #[.int .u8 (x.toNat : Int), .pointer (some ⟨B1, 0, none⟩), .pointer (some ⟨B2, 0, none⟩)] w fun e w' => e = .returned (.bool (decide (a ≤ x.toNat ∧ x.toNat ≤ b))) ∧ Below w.heap.size w w' := by
  generalize x.toNat = n
  by_cases ha : a ≤ n
  · by_cases hb : n ≤ b
    · have hr : Hid (decide (a ≤ n ∧ n ≤ b) = true) := by show _ = _; simp [ha, hb]
      rw [hr.out]
      go_enter Try.func95, Try.ntmps95
      go_wp2
      go_ret
      exact ⟨rfl, by first | exact Below.refl _ _ | exact (Below.refl _ w).drew⟩
    · have hr : Hid (decide (a ≤ n ∧ n ≤ b) = false) := by show _ = _; simp [ha, hb]
      rw [hr.out]
      go_enter Try.func95, Try.ntmps95
      go_wp2
      go_ret
      exact ⟨rfl, by first | exact Below.refl _ _ | exact (Below.refl _ w).drew⟩
  · have hr : Hid (decide (a ≤ n ∧ n ≤ b) = false) := by show _ = _; simp [ha]
    rw [hr.out]
    go_enter Try.func95, Try.ntmps95
    go_wp2
    go_ret
    exact ⟨rfl, by first | exact Below.refl _ _ | exact (Below.refl _ w).drew⟩
set_option maxHeartbeats 1000000 in
set_option maxRecDepth 100000 in
theorem idxB (s : ByteArray) (x : UInt8) (w : World) : Calls Try.prog 111 #[.string s, .int .u8 (x.toNat : Int)] w fun e w' => e = .returned (.int .i64 (Lib.indexByte s.data.toList x)) ∧ w' = w := by
  go_enter Try.func111, Try.ntmps111
  go_wp2
  rw [run_callFunc_extern Try.func114 (by kernel_rfl) (by kernel_rfl) (by kernel_rfl) (e := Extern.BytealgIndexByte.indexByte) (by kernel_rfl), Lib.run_indexByteString]
  simp only [Result.andThen]
  rw [Oper.upon_value]
  go_wp2
  go_ret
  exact ⟨by simp, rfl⟩
set_option maxHeartbeats 1000000 in
theorem idxS (s : ByteArray) (x : UInt8) (w : World) : Calls Try.prog 97 #[.string s, .int .u8 (x.toNat : Int)] w fun e w' => e = .returned (.int .i64 (Lib.indexByte s.data.toList x)) ∧ w' = w := by
  have K := hide' (idxB s x w)
  generalize Lib.indexByte s.data.toList x = i at *
  go_enter Try.func97, Try.ntmps97
  go_wp2_with (go_at_call 111; refine K.out.mono ?_; rintro e w1 ⟨rfl, rfl⟩)
  go_ret
  exact ⟨rfl, rfl⟩
theorem idx_mem (x : UInt8) : ∀ (T : List UInt8), decide ((0 : Int) ≤ Lib.indexByte T x) = decide (x ∈ T) ∧ -1 ≤ Lib.indexByte T x
  | [] => ⟨rfl, (by show (-1 : Int) ≤ -1; omega)⟩
  | c :: T => by
    obtain ⟨ih, ih2⟩ := idx_mem x T
    unfold Lib.indexByte
    by_cases hc : c = x
    · subst hc
      simp
    · have hb : (c == x) = false := by simpa using hc
      have hx : decide (x ∈ c :: T) = decide (x ∈ T) := by
        rw [decide_eq_decide, List.mem_cons]
        exact ⟨fun h => h.elim (fun e => absurd e.symm hc) id, .inr⟩
      rw [hx, ← ih, hb]
      by_cases hm : Lib.indexByte T x = -1
      · rw [hm]; decide
      · have hne : (Lib.indexByte T x == -1) = false := by simpa using hm
        rw [hne]
        simp only [Bool.false_eq_true, if_false]
        refine ⟨?_, by omega⟩
        rw [decide_eq_decide]
        omega
set_option maxHeartbeats 1000000 in
theorem amng (l : List UInt8) (B1 : Nat) (x : UInt8) (w : World) (h1 : w.cell? ⟨B1, 0, none⟩ = some (.string (bs l))) :
    Calls Try.prog 96 #[.int .u8 (x.toNat : Int), .pointer (some ⟨B1, 0, none⟩)] w fun e w' => e = .returned (.bool (decide (x ∈ l))) ∧ Below w.heap.size w w' := by
  have K := hide' (idxS (bs l) x w)
  rw [bs_list] at K
  have hr := (idx_mem x l).1
  generalize Lib.indexByte l x = i at *
  rw [← hr]
  clear hr
  generalize bs l = s at *
  go_enter Try.func96, Try.ntmps96
  go_wp2_with (go_at_call 97; refine K.out.mono ?_; rintro e w1 ⟨rfl, rfl⟩)
  go_ret
  exact ⟨by simp, by first | exact Below.refl _ _ | exact (Below.refl _ w).drew⟩
set_option maxHeartbeats 1000000 in
theorem exc (g : Nat) (lb : Array Value) (p : UInt8 → Bool) (B1 : Nat) (x : UInt8) (w : World) (h1 : w.cell? ⟨B1, 0, none⟩ = some (.func (.func g) #[] lb)) (lo : Nat) (hk : PK lo g lb p w) :
    Calls Try.prog 98 #[.int .u8 (x.toNat : Int), .pointer (some ⟨B1, 0, none⟩)] w fun e w' => e = .returned (.bool (!p x)) ∧ Below w.heap.size w w' := by
  obtain ⟨eg, hk2⟩ := hk
  have K := hide' (hk2 w x (Kp.refl _ _))
  clear hk2
  generalize x.toNat = n at *
  generalize p x = q at *
  go_enter Try.func98, Try.ntmps98
  go_wp2_with (go_at_fn g; refine K.out.mono ?_; rintro e w1 ⟨rfl, hb⟩)
  go_ret
  exact ⟨rfl, by first | exact hb | exact hb.drew⟩
end Go.Proofs.Ytghodeggobgclaa

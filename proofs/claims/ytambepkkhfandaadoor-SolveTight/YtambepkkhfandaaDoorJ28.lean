/- The document's bound. -/
import Derived.Test.YtambepkkhfandaaDoorJ02
import Derived.Deep.OwnRows
namespace Go.Proofs.YtambepkkhfandaaDoor.W2
open Go.RowKit
theorem infoU : (Tryd.prog.info? 46).map (fun i => (i.zero, i.size, i.bytes)) = some (some (.int .u64 0), 1, 8) := by kernel_rfl
def cellsU (A : Nat → Nat) (m : Nat) : List Value := (List.range m).map fun b => .int .u64 ((A b : Nat) : Int)
theorem cellsU_len (A : Nat → Nat) (m : Nat) : (cellsU A m).length = m := by simp [cellsU]
theorem cellsU_at (A : Nat → Nat) {m b : Nat} (h : b < m) : (cellsU A m)[b]? = some (.int .u64 ((A b : Nat) : Int)) := by simp [cellsU, h]
theorem cellsU_none (A : Nat → Nat) {m b : Nat} (h : ¬ b < m) : (cellsU A m)[b]? = none := List.getElem?_eq_none (by rw [cellsU_len]; omega)
theorem cellsU_set (A : Nat → Nat) (m x : Nat) (q : Nat) : (cellsU A m).set x (.int .u64 ((q : Nat) : Int)) = cellsU (fun b => if b = x then q else A b) m := by
  refine List.ext_getElem? fun b => ?_
  rw [List.getElem?_set, cellsU_len]
  by_cases hb : b < m
  · rw [cellsU_at (fun b => if b = x then q else A b) hb]
    by_cases e : x = b
    · subst e; rw [if_pos rfl, if_pos hb, if_pos rfl]
    · rw [if_neg e, cellsU_at A hb, if_neg (Ne.symm e)]
  · rw [cellsU_none (fun b => if b = x then q else A b) hb]
    by_cases e : x = b
    · subst e; rw [if_pos rfl, if_neg hb]
    · rw [if_neg e, cellsU_none A hb]
theorem cellsU_zero (m : Nat) : List.replicate m (Value.int .u64 0) = cellsU (fun _ => 0) m := by
  refine List.ext_getElem? fun b => ?_
  by_cases hb : b < m
  · rw [cellsU_at _ hb, List.getElem?_replicate, if_pos hb]; rfl
  · rw [cellsU_none _ hb, List.getElem?_replicate, if_neg hb]
/-- The row of the document's count, in the midst of its round k. -/
def Wy (m k d : Nat) (A : Nat → Nat) : Prop := (∀ b, A b < 18446744073709551616) ∧ (∀ b, b < d → b + k + 1 < m → A b = ways (k + 1) b % 18446744073709551616) ∧ ∀ b, d ≤ b → b + k < m → A b = ways k b % 18446744073709551616
theorem Wy.step {m k d : Nat} {A : Nat → Nat} (h : Wy m k d A) (hd : d + k + 1 < m) : Wy m k (d + 1) (fun b => if b = d then (d * A d % 18446744073709551616 + A (d + 1)) % 18446744073709551616 else A b) := by
  obtain ⟨h1, h2, h3⟩ := h
  refine ⟨fun b => ?_, fun b hb hm => ?_, fun b hb hm => ?_⟩
  · by_cases e : b = d
    · simp only [if_pos e]; exact Nat.mod_lt _ (by decide)
    · simp only [if_neg e]; exact h1 b
  · by_cases e : b = d
    · subst e
      simp only [if_pos]
      rw [h3 b (Nat.le_refl _) (by omega), h3 (b + 1) (by omega) (by omega), ways]
      simp [Nat.add_mod, Nat.mul_mod]
    · simp only [if_neg e]; exact h2 b (by omega) hm
  · simp only [if_neg (show ¬ b = d by omega)]; exact h3 b (by omega) hm
theorem Wy.next {m k d : Nat} {A : Nat → Nat} (h : Wy m k d A) (hd : ¬ d + k + 1 < m) : Wy m (k + 1) 0 A := ⟨h.1, fun b hb => by omega, fun b _ hm => h.2.1 b (by omega) (by omega)⟩
theorem wrap2 (d x y : Nat) : IntKind.u64.wrap (IntKind.u64.wrap ((d : Int) * (x : Int)) + (y : Int)) = (((d * x % 18446744073709551616 + y) % 18446744073709551616 : Nat) : Int) := by
  rw [IntKind.wrap_u64, IntKind.wrap_u64]
  have : ((d * x : Nat) : Int) = (d : Int) * (x : Int) := by simp
  omega
set_option maxRecDepth 100000 in
set_option maxHeartbeats 2000000 in
theorem refWays (l b : Nat) (hlb : l + b ≤ 25) (w : World) :
    Calls Tryd.prog 54 #[.int .i64 l, .int .i64 b] w fun e w' => e = .returned (.int .u64 ((ways l b : Nat) : Int)) ∧ Below w.heap.size w w' := by
  obtain ⟨i0, hi, hz0, hz1, hz2⟩ := info_parts infoU
  obtain ⟨m, hm⟩ : ∃ m : Nat, m = l + b + 2 := ⟨_, rfl⟩
  have hmI : (l : Int) + (b : Int) + 2 = (m : Int) := by omega
  have hm27 : m ≤ 27 := by omega
  have hm' := hide' hm
  have hend : Hid (ways l b % 18446744073709551616 = ways l b) := by
    show _ = _
    have := ways_small hlb
    exact Nat.mod_eq_of_lt (by omega)
  clear hm
  go_enter Tryd.func54, Tryd.ntmps54
  go_wp2_with (at_make; refine wpList_make_full _ rfl _ _ 22 rfl w.heap.size 46 i0 (.int .u64 0) 1 Tryd.underlying22 hi hz0 hz1 .i64 .i64 _ _ m rfl rfl rfl rfl (by rw [hz2]; omega) (by unfold maxLen; omega) (by simp) ?_; intro w2 hrow hgrow)
  have hr0 : Hid (w2.ownsRow w.heap.size 46 1 (.slice (some ⟨w.heap.size, 0, none⟩) m m) m (cellsU (fun _ => 0) m)) := by
    have h := hrow
    rw [show (Value.int .u64 0).cells = #[.int .u64 0] from rfl, toList_madeCells_one, Nat.mul_one, cellsU_zero] at h
    exact h
  have hB0 : Hid (Below w.heap.size w w2) := (Below.refl _ w).grown hgrow (Nat.le_refl _) (fun j ej => by cases ej)
  clear hrow hgrow
  go_wp2
  go_loopw [6] (fun k wr => ∃ (c : Nat), c ≤ m ∧ k = .int .i64 c ∧ Hid (∃ A : Nat → Nat, wr.ownsRow w.heap.size 46 1 (.slice (some ⟨w.heap.size, 0, none⟩) m m) m (cellsU A m) ∧ (∀ x, x < c → A x = 1) ∧ ∀ x, A x < 2) ∧ Hid (Below w.heap.size w wr)) (fun k _ => ((m : Int) - intOf k).toNat)
  case atStart => exact ⟨0, Nat.zero_le _, rfl, ⟨_, hr0.out, fun x hx => by omega, fun x => by show 0 < 2; decide⟩, hB0⟩
  case round =>
    clear hr0 hB0
    obtain ⟨c, hcl, rfl, hO, hB⟩ := hrel
    obtain ⟨A, hA, hA1, hA2⟩ := hO.out
    by_cases hlt : c < m
    · have c0 : wr.cell? ⟨w.heap.size, c, none⟩ = some (.int .u64 ((A c : Nat) : Int)) := by rw [hA.cellAt c (by omega)]; exact cellsU_at _ hlt
      have fz0 := hA.frozenAt c
      have hS := (hA.stored c (.int .u64 ((1 : Nat) : Int))).1
      rw [cellsU_set] at hS
      have hS' : Hid (∃ A : Nat → Nat, (wr.setCell ⟨w.heap.size, c, none⟩ (.int .u64 1)).ownsRow w.heap.size 46 1 (.slice (some ⟨w.heap.size, 0, none⟩) m m) m (cellsU A m) ∧ (∀ x, x < c + 1 → A x = 1) ∧ ∀ x, A x < 2) := by
        refine ⟨_, hS, fun x hx => ?_, fun x => ?_⟩
        · by_cases e : x = c
          · rw [if_pos e]
          · rw [if_neg e]; exact hA1 x (by omega)
        · by_cases e : x = c
          · rw [if_pos e]; decide
          · rw [if_neg e]; exact hA2 x
      have hB1 := hide' (hB.out.setCell (Nat.le_refl _) (p := ⟨w.heap.size, c, none⟩) (.int .u64 1))
      clear hO hS hA hA1 hA2 hB
      generalize A c = z0 at *
      go_wp2
      exact ⟨⟨c + 1, by omega, by go_num, hS', hB1⟩, by simp [intOf]; omega⟩
    · obtain rfl : c = m := by omega
      have hW : Hid (∃ A : Nat → Nat, wr.ownsRow w.heap.size 46 1 (.slice (some ⟨w.heap.size, 0, none⟩) c c) c (cellsU A c) ∧ Wy c 0 0 A) := ⟨A, hA, fun x => by have := hA2 x; omega, fun x hx => by omega, fun x _ hx => by rw [hA1 x (by omega)]; rfl⟩
      clear hO hA hA1 hA2
      go_wp2
      go_loopw [7, 8] (fun k _ wr => ∃ (e : Nat), e ≤ l ∧ k = .int .i64 e ∧ Hid (∃ A : Nat → Nat, wr.ownsRow w.heap.size 46 1 (.slice (some ⟨w.heap.size, 0, none⟩) c c) c (cellsU A c) ∧ Wy c e 0 A) ∧ Hid (Below w.heap.size w wr)) (fun k _ _ => ((l : Int) - intOf k).toNat)
      case atStart => exact ⟨0, Nat.zero_le _, rfl, hW, hB⟩
      case round =>
        clear hW hB
        obtain ⟨e, hel, rfl, hO, hB⟩ := hrel
        by_cases hltl : e < l
        · go_wp2
          go_loopw [8] (fun k wr => ∃ (d : Nat), d ≤ c ∧ k = .int .i64 d ∧ Hid (∃ A : Nat → Nat, wr.ownsRow w.heap.size 46 1 (.slice (some ⟨w.heap.size, 0, none⟩) c c) c (cellsU A c) ∧ Wy c e d A) ∧ Hid (Below w.heap.size w wr)) (fun k _ => ((c : Int) - intOf k).toNat)
          case atStart => exact ⟨0, Nat.zero_le _, rfl, hO, hB⟩
          case round =>
            clear hO hB
            obtain ⟨d, hdc, rfl, hO, hB⟩ := hrel
            obtain ⟨A, hA, hWy⟩ := hO.out
            by_cases hltd : d + e + 1 < c
            · have hI : (d : Int) + 1 < (c : Int) - (e : Int) := by omega
              have c0 : wr.cell? ⟨w.heap.size, d, none⟩ = some (.int .u64 ((A d : Nat) : Int)) := by rw [hA.cellAt d (by omega)]; exact cellsU_at _ (by omega)
              have c1 : wr.cell? ⟨w.heap.size, d + 1, none⟩ = some (.int .u64 ((A (d + 1) : Nat) : Int)) := by rw [hA.cellAt (d + 1) (by omega)]; exact cellsU_at _ (by omega)
              have fz0 := hA.frozenAt d
              have hwr : Hid (IntKind.u64.wrap (IntKind.u64.wrap ((d : Int) * ((A d : Nat) : Int)) + ((A (d + 1) : Nat) : Int)) = (((d * A d % 18446744073709551616 + A (d + 1)) % 18446744073709551616 : Nat) : Int)) := wrap2 d (A d) (A (d + 1))
              have hS := (hA.stored d (.int .u64 (((d * A d % 18446744073709551616 + A (d + 1)) % 18446744073709551616 : Nat) : Int))).1.drew
              rw [cellsU_set, ← hwr.out] at hS
              have hS' : Hid (∃ A' : Nat → Nat, (wr.setCell ⟨w.heap.size, d, none⟩ (.int .u64 (IntKind.u64.wrap (IntKind.u64.wrap ((d : Int) * ((A d : Nat) : Int)) + ((A (d + 1) : Nat) : Int))))).drew.ownsRow w.heap.size 46 1 (.slice (some ⟨w.heap.size, 0, none⟩) c c) c (cellsU A' c) ∧ Wy c e (d + 1) A') := ⟨_, hS, hWy.step hltd⟩
              have hB1 := hide' (hB.out.setCell (Nat.le_refl _) (p := ⟨w.heap.size, d, none⟩) (.int .u64 (IntKind.u64.wrap (IntKind.u64.wrap ((d : Int) * ((A d : Nat) : Int)) + ((A (d + 1) : Nat) : Int))))).drew
              clear hO hS hA hWy hB hwr
              go_wp2
              go_region
              go_wp2
              exact ⟨⟨d + 1, by omega, by go_num, hS', hB1⟩, by simp [intOf]; omega⟩
            · have hI : ¬ (d : Int) + 1 < (c : Int) - (e : Int) := by omega
              have hId : decide ((d : Int) + 1 < (c : Int) - (e : Int)) = false := decide_eq_false hI
              have hO2 : Hid (∃ A : Nat → Nat, wr.ownsRow w.heap.size 46 1 (.slice (some ⟨w.heap.size, 0, none⟩) c c) c (cellsU A c) ∧ Wy c (e + 1) 0 A) := ⟨A, hA, hWy.next hltd⟩
              clear hO hA hWy
              go_wp2
              exact ⟨⟨e + 1, by omega, by go_num, hO2, hB⟩, by simp [intOf]; omega⟩
        · obtain rfl : e = l := by omega
          obtain ⟨A, hA, hWy⟩ := hO.out
          have hbm : b < c := by have := hm'.out; omega
          have c0 : wr.cell? ⟨w.heap.size, b, none⟩ = some (.int .u64 ((A b : Nat) : Int)) := by rw [hA.cellAt b (by omega)]; exact cellsU_at _ hbm
          have hE := hWy.2.2 b (Nat.zero_le _) (by have := hm'.out; omega)
          rw [hend.out] at hE
          rw [hE] at c0
          clear hO hA hWy hE
          go_wp2
          go_ret
          exact ⟨rfl, hB.out⟩
end Go.Proofs.YtambepkkhfandaaDoor.W2
namespace Go.Proofs.YtambepkkhfandaaDoor.W2
open Go.RowKit
set_option maxRecDepth 100000 in
theorem refBell (n : Nat) (hn : n ≤ 25) (w : World) :
    Calls Tryd.prog 38 #[.int .i64 n] w fun e w' => e = .returned (.int .u64 ((ways n 0 : Nat) : Int)) ∧ Below w.heap.size w w' := by
  have KW := hide' (refWays n 0 (by omega) w)
  go_enter Tryd.func38, Tryd.ntmps38
  go_wp2_with (go_at_call 54; refine KW.out.mono ?_; rintro e w1 ⟨rfl, hb⟩)
  go_ret
  exact ⟨rfl, hb⟩
theorem wrapN {x : Nat} (h : x < 18446744073709551616) : IntKind.u64.wrap (x : Int) = (x : Int) := by rw [IntKind.wrap_u64]; omega
theorem bd_wrap {n U B : Nat} (hn : n ≤ 12) (hU : U ≤ 64) (hB : B ≤ 4213597) : IntKind.u64.wrap (IntKind.u64.wrap (IntKind.u64.wrap (IntKind.u64.wrap (4 * ((n : Int) + 1) * ((n : Int) + 1)) * ((n : Int) + 1)) * ((U : Int) + 1)) * (B : Int)) = ((4 * (n + 1) * (n + 1) * (n + 1) * (U + 1) * B : Nat) : Int) := by
  have b1 : 4 * (n + 1) * (n + 1) ≤ 4 * 13 * 13 := Nat.mul_le_mul (Nat.mul_le_mul (Nat.le_refl _) (by omega)) (by omega)
  have b2 : 4 * (n + 1) * (n + 1) * (n + 1) ≤ 4 * 13 * 13 * 13 := Nat.mul_le_mul b1 (by omega)
  have b3 : 4 * (n + 1) * (n + 1) * (n + 1) * (U + 1) ≤ 4 * 13 * 13 * 13 * 65 := Nat.mul_le_mul b2 (by omega)
  have b4 : 4 * (n + 1) * (n + 1) * (n + 1) * (U + 1) * B ≤ 4 * 13 * 13 * 13 * 65 * 4213597 := Nat.mul_le_mul b3 hB
  rw [show (4 * ((n : Int) + 1) * ((n : Int) + 1)) = ((4 * (n + 1) * (n + 1) : Nat) : Int) by push_cast; rfl, wrapN (by omega),
    show (((4 * (n + 1) * (n + 1) : Nat) : Int) * ((n : Int) + 1)) = ((4 * (n + 1) * (n + 1) * (n + 1) : Nat) : Int) by push_cast; rfl, wrapN (by omega),
    show (((4 * (n + 1) * (n + 1) * (n + 1) : Nat) : Int) * ((U : Int) + 1)) = ((4 * (n + 1) * (n + 1) * (n + 1) * (U + 1) : Nat) : Int) by push_cast; rfl, wrapN (by omega),
    show (((4 * (n + 1) * (n + 1) * (n + 1) * (U + 1) : Nat) : Int) * (B : Int)) = ((4 * (n + 1) * (n + 1) * (n + 1) * (U + 1) * B : Nat) : Int) by push_cast; rfl, wrapN (by omega)]
def bd (n U : Nat) : Nat := 4 * (n + 1) * (n + 1) * (n + 1) * (U + 1) * ways n 0
set_option maxRecDepth 100000 in
set_option maxHeartbeats 2000000 in
theorem boundF (n U : Nat) (hn : n ≤ 12) (hU : U ≤ 64) (w : World) :
    Calls Tryd.prog 22 #[.int .i64 (n : Int), .int .i64 (U : Int)] w fun e w' => e = .returned (.int .u64 ((bd n U : Nat) : Int)) ∧ Below w.heap.size w w' := by
  have KB := hide' (refBell n (by omega) w)
  have hw := ways_small (l := n) (b := 0) (by omega)
  have hw2 : Hid (ways n 0 ≤ 4213597) := by
    show _ ≤ _
    rcases (show n = 0 ∨ n = 1 ∨ n = 2 ∨ n = 3 ∨ n = 4 ∨ n = 5 ∨ n = 6 ∨ n = 7 ∨ n = 8 ∨ n = 9 ∨ n = 10 ∨ n = 11 ∨ n = 12 by omega) with rfl | rfl | rfl | rfl | rfl | rfl | rfl | rfl | rfl | rfl | rfl | rfl | rfl <;> decide +kernel
  clear hw
  go_enter Tryd.func22, Tryd.ntmps22
  go_wp2_with (go_at_call 38; refine KB.out.mono ?_; rintro e w1 ⟨rfl, hb⟩)
  go_ret
  refine ⟨?_, hb⟩
  unfold bd
  exact congrArg (fun z => Ending.returned (Value.int .u64 z)) (bd_wrap hn hU hw2.out)
end Go.Proofs.YtambepkkhfandaaDoor.W2

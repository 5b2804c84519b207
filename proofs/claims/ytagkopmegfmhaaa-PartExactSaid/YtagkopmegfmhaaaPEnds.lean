/- countEnds and Bell: how many patterns there are. -/
import Derived.Test.YtagkopmegfmhaaaPFn
import Derived.Deep.OwnRows
namespace Go.Proofs.Ytagkopmegfmhaaa
open Go.RowKit
def zcE : Array Value := (List.replicate 676 (Value.int .u64 0)).toArray
theorem zcE_size : zcE.size = 676 := by kernel_rfl
theorem zcE_ne : ¬ zcE = #[] := fun e => by have := congrArg Array.size e; rw [zcE_size] at this; cases this
theorem zeroE (w : World) : (zeroValue 67).run Try.prog w = .ok (.agg zcE) w := by kernel_rfl
/-- The table, filled as far as (L, B). -/
def tabv (L B j : Nat) : Nat := if (j / 26 < L ∧ j / 26 + j % 26 ≤ 25) ∨ (j / 26 = L ∧ j % 26 < B) then ways (j / 26) (j % 26) else 0
def tabV (L B : Nat) : Nat → Value := fun j => .int .u64 ((tabv L B j : Nat) : Int)
theorem tab_start (w : World) (cs : Array Value) (zc : cs.toList = List.replicate 676 (.int .u64 0)) : (w.alloc (.cells cs 67)).rowIs w.heap.size 67 676 (tabV 0 0) := by
  refine ⟨_, heap_new w _, ?_, fun i hi => ?_⟩
  · rw [← Array.length_toList, zc, List.length_replicate]
  · rw [← Array.getElem?_toList, zc, List.getElem?_replicate, if_pos hi]
    simp [tabV, tabv]
theorem tab_step {L B : Nat} (hB : B < 26) (j : Nat) (hv : Value) (e : hv = .int .u64 ((ways L B : Nat) : Int)) : (if j = L * 26 + B then hv else tabV L B j) = tabV L (B + 1) j := by
  subst e
  by_cases h : j = L * 26 + B
  · subst h
    have h1 : (L * 26 + B) / 26 = L := by omega
    have h2 : (L * 26 + B) % 26 = B := by omega
    rw [if_pos rfl]
    simp [tabV, tabv, h1, h2]
  · rw [if_neg h]
    have : (j / 26 = L ∧ j % 26 < B + 1) ↔ (j / 26 = L ∧ j % 26 < B) := by omega
    simp [tabV, tabv, this]
theorem tab_next {L : Nat} (j : Nat) (hj : j < 676) : tabV L (26 - L) j = tabV (L + 1) 0 j := by
  have : ((j / 26 < L ∧ j / 26 + j % 26 ≤ 25) ∨ (j / 26 = L ∧ j % 26 < 26 - L)) ↔ ((j / 26 < L + 1 ∧ j / 26 + j % 26 ≤ 25) ∨ (j / 26 = L + 1 ∧ j % 26 < 0)) := by omega
  simp only [tabV, tabv, this]
theorem tab_at {L B l b : Nat} (h : l < L) (hb : l + b ≤ 25) : tabV L B (l * 26 + b) = .int .u64 ((ways l b : Nat) : Int) := by
  have h1 : (l * 26 + b) / 26 = l := by omega
  have h2 : (l * 26 + b) % 26 = b := by omega
  simp only [tabV, tabv, h1, h2]
  rw [if_pos (.inl ⟨h, hb⟩)]
set_option maxRecDepth 100000 in
set_option maxHeartbeats 400000 in
theorem countEnds (w : World) :
    Calls Try.prog 40 #[] w fun e w' => e = .returned (.pointer (some ⟨w.heap.size, 0, none⟩)) ∧ w'.rowIs w.heap.size 67 676 (tabV 26 0) ∧ Below w.heap.size w w' := by
  have z0 := zeroE
  have z1 := zcE_size
  have z2 := zcE_ne
  go_enter Try.func40, Try.ntmps40
  go_wp2
  go_loopw [4] (fun k wr => ∃ L : Nat, L ≤ 26 ∧ k = .int .i64 L ∧ wr.rowIs w.heap.size 67 676 (tabV L 0) ∧ Below w.heap.size w wr) (fun k _ => (26 - intOf k).toNat)
  case atStart => exact ⟨0, by omega, rfl, tab_start w _ (by kernel_rfl), (Below.refl _ _).alloc (Nat.le_refl _) _⟩
  case round =>
    obtain ⟨L, hL, rfl, hT, hW⟩ := hrel
    by_cases hlt : L < 26
    · go_wp2
      go_loopw [9] (fun k wr => ∃ B : Nat, B ≤ 26 - L ∧ k = .int .i64 B ∧ wr.rowIs w.heap.size 67 676 (tabV L B) ∧ Below w.heap.size w wr) (fun k _ => (26 - intOf k).toNat)
      case atStart => exact ⟨0, by omega, rfl, hT, hW⟩
      case round =>
        clear hT hW
        obtain ⟨B, hB, rfl, hT, hW⟩ := hrel
        by_cases hlb : B < 26 - L
        · have hcell := hT.cell (i := L * 26 + B) (by omega)
          have hfz := hT.frozen (L * 26 + B)
          by_cases h0 : L = 0
          · subst h0
            have hS := hT.set (0 * 26 + B) (.int .u64 1)
            have hS' := hide' (hS.congr (g := tabV 0 (B + 1)) (fun j _ => tab_step (by omega) j _ (by simp [ways])))
            rw [Nat.zero_mul, Nat.zero_add] at hcell hfz hS'
            clear hS hT
            generalize tabV 0 B B = old at *
            go_wp2
            exact ⟨⟨B + 1, by omega, by go_num, hS'.out, hW.setCell (Nat.le_refl _) _⟩, by simp [intOf]; omega⟩
          · obtain ⟨l, rfl⟩ : ∃ l, L = l + 1 := ⟨L - 1, by omega⟩
            have c1 := hT.cell (i := l * 26 + B) (by omega)
            have c2 := hT.cell (i := l * 26 + (B + 1)) (by omega)
            rw [tab_at (by omega) (by omega)] at c1 c2
            have b1 := ways_small (l := l) (b := B) (by omega)
            have b2 := ways_small (l := l) (b := B + 1) (by omega)
            have b3 := ways_small (l := l + 1) (b := B) (by omega)
            have e3 : ways (l + 1) B = B * ways l B + ways l (B + 1) := rfl
            have hS' := hide' ((hT.set ((l + 1) * 26 + B) (.int .u64 ((ways (l + 1) B : Nat) : Int))).congr (g := tabV (l + 1) (B + 1)) (fun j _ => tab_step (by omega) j _ rfl))
            clear hT h0
            generalize tabV (l + 1) B ((l + 1) * 26 + B) = old at *
            generalize hx : ways l B = x at *
            generalize hy : ways l (B + 1) = y at *
            generalize hz : ways (l + 1) B = z at *
            have hm : IntKind.u64.wrap ((B : Int) * (x : Int)) = ((B * x : Nat) : Int) := by
              rw [show (B : Int) * (x : Int) = ((B * x : Nat) : Int) by simp]
              generalize B * x = p at e3
              simp only [IntKind.wrap, IntKind.bits, IntKind.signed]; simp; omega
            have ha : IntKind.u64.wrap (((B * x : Nat) : Int) + (y : Int)) = (z : Int) := by
              generalize B * x = p at e3
              simp only [IntKind.wrap, IntKind.bits, IntKind.signed]; simp; omega
            generalize B * x = p at *
            clear e3 b1 b2 b3 hx hy hz
            go_wp2
            go_region
            go_wp2
            exact ⟨⟨B + 1, by omega, by go_num, hS'.out, hW.drew.setCell (Nat.le_refl _) _⟩, by simp [intOf]; omega⟩
        · obtain rfl : B = 26 - L := by omega
          have hT' := hT.congr (fun j hj => tab_next (L := L) j hj)
          clear hT
          go_wp2
          exact ⟨⟨L + 1, by omega, by go_num, hT', hW⟩, by simp [intOf]; omega⟩
    · obtain rfl : L = 26 := by omega
      go_wp2
      exact bodyPost_ret (v := .pointer (some ⟨w.heap.size, 0, none⟩)) (by simp [results, Try.results40, go_sem]) rfl ⟨rfl, hT, hW⟩
theorem fitsN (n : Nat) (hn : n ≤ 25) (W : World) : Calls Try.prog 12 #[.int .i64 n] W fun e w' => e = .returned (.bool true) ∧ w' = W := by
  have := fits n W
  rwa [show (decide ((0 : Int) ≤ (n : Int)) && decide ((n : Int) ≤ 25)) = true by simp; omega] at this
set_option maxRecDepth 100000 in
set_option maxHeartbeats 400000 in
theorem bellP (n : Nat) (hn : n ≤ 25) (w : World) :
    Calls Try.prog 13 #[.int .i64 n] w fun e w' => e = .returned (.tuple #[.int .u64 ((ways n 0 : Nat) : Int), .int .i64 0]) ∧ Below w.heap.size w w' := by
  have KF := hide' (fitsN n hn)
  have hv := tab_at (L := 26) (B := 0) (l := n) (b := 0) (by omega) (by omega)
  rw [Nat.add_zero] at hv
  have hv' := hide' hv
  clear hv
  generalize ways n 0 = x at *
  go_enter Try.func13, Try.ntmps13
  go_wp2_with (first | (go_at_call 12; refine (KF.out _).mono ?_; rintro e w1 ⟨rfl, rfl⟩) | (go_at_call 40; refine (countEnds _).mono ?_; rintro e w2 ⟨rfl, hT, hB⟩; have hc := hT.cell (i := n * 26) (by omega); rw [hv'.out] at hc))
  exact bodyPost_ret (v := .tuple #[.int .u64 (x : Int), .int .i64 0]) (by simp [results, Try.results13, go_sem]) rfl ⟨rfl, hB⟩
end Go.Proofs.Ytagkopmegfmhaaa

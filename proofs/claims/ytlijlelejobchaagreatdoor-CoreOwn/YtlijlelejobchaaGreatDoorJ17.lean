/- early: can the rules that the last step stands in still be kept? -/
import Derived.Test.YtlijlelejobchaaGreatDoorJ12
import Derived.Test.YtlijlelejobchaaGreatDoorJ16
namespace Go.Proofs.YtlijlelejobchaaGreatDoor.S
open Go.RowKit Go.Shelf
/-- All rules of a list can still be kept. -/
def earL (RS : List Rl) (n : Int) (B : List Int) : Bool := RS.all fun r => early r n B
theorem earL_take {RS : List Rl} {n : Int} {B : List Int} {j : Nat} {r : Rl} (h : RS[j]? = some r) : earL (RS.take (j + 1)) n B = (earL (RS.take j) n B && early r n B) := by
  unfold earL
  rw [List.take_add_one, h]
  simp
theorem earL_no {RS : List Rl} {n : Int} {B : List Int} {j : Nat} {r : Rl} (h : RS[j]? = some r) (he : early r n B = false) : earL RS n B = false := by
  unfold earL
  rw [List.all_eq_false]
  exact ⟨r, List.mem_of_getElem? h, by rw [he]; decide⟩
set_option maxRecDepth 100000 in
set_option maxHeartbeats 4000000 in
theorem earlyS (W : World) (gl : Nat) (om : Option Addr) (n cm : Nat) (gr or cr : Nat) (rsv : Value) (RS : List Rl) (q : List Int) (t : Nat) (lv : Value) (h1 : W.cell? ⟨gl, 1, none⟩ = some (.slice om n cm)) (h2 : W.cell? ⟨gl, 2, none⟩ = some (.slice (some ⟨gr, or, none⟩) n cr)) (h3 : W.cell? ⟨gr, or + t, none⟩ = some rsv) (hR : RowR W rsv RS) (hB : RowI W lv q) (hq : q.length = t + 1) (ht : t < n) (hn : n ≤ 12) (hRl : RS.length ≤ 1000) (hm : ∀ r ∈ RS, r.steps.length ≤ 1000) :
    Calls Tryz.prog 83 #[.pointer (some ⟨gl, 0, none⟩), lv] W fun e w' => e = .returned (.bool (earL RS (n : Int) q)) ∧ Below W.heap.size W w' := by
  have hB' := hide' hB
  obtain ⟨ob, cb, rfl, hcb, _⟩ := hB
  obtain ⟨os, cs, rfl, hcs, hcel⟩ := hR
  have hcel' := hide' hcel
  have hm' := hide' hm
  have h1' := hide' h1
  have htn : (t : Int) < (n : Int) := by omega
  have ht0 : ¬ (t : Int) < 0 := by omega
  have hq' := hide' hq
  rw [hq]
  clear hq
  clear hcel hm hcb hcs
  go_enter Tryz.func83, Tryz.ntmps83
  go_wp2
  go_loopw [6, 17] (fun _ p wr => ∃ j : Nat, j ≤ RS.length ∧ p = .int .i64 (j : Int) ∧ Hid (earL (RS.take j) (n : Int) q = true) ∧ Hid (Below W.heap.size W wr)) (fun _ p _ => ((RS.length : Int) - intOf p).toNat)
  case atStart => exact ⟨0, Nat.zero_le _, rfl, rfl, Below.refl _ _⟩
  case round =>
    obtain ⟨j, hj, rfl, hE, hBr⟩ := hrel
    by_cases hlt : j < RS.length
    · have hlt' : (j : Int) < (RS.length : Int) := by omega
      obtain ⟨r, hr⟩ : ∃ r, RS[j]? = some r := ⟨_, List.getElem?_eq_getElem hlt⟩
      obtain ⟨g, o, sv, rfl, d1, d2, d3, d4⟩ := hcel'.out j r hr
      have hsh : Hid (∃ a b c, sv = .slice a b c) := by obtain ⟨a, c, e, _⟩ := d4; exact ⟨a, _, c, e⟩
      have e1 := M.cell_over d1 hBr.out
      have e2 := M.cell_over d2 hBr.out
      have e3 := M.cell_over d3 hBr.out
      have hB1 : Hid (Below W.heap.size W (wr.alloc (.cells #[.int .i64 r.kind, .int .i64 r.k, sv] 44))) := hBr.out.alloc hBr.out.size _
      have c1 := M.cell_over h1'.out hB1.out
      have hsn := hide' (earL_take (n := (n : Int)) (B := q) hr)
      have hno := hide' (fun h => earL_no (n := (n : Int)) (B := q) hr h)
      have KE : Hid (∀ V, Below W.heap.size W V → Calls Tryz.prog 92 #[.agg #[.int .i64 r.kind, .int .i64 r.k, sv], .int .i64 (n : Int), .slice ob (t + 1) cb] V fun e w' => e = .returned (.bool (early r (n : Int) q)) ∧ Below V.heap.size V w') := fun V hV => by
        have hl := hB'.out.below hV (Nat.le_refl _)
        have := earlyF r (n : Int) sv _ q V (d4.below hV (Nat.le_refl _)) hl (hm'.out r (List.mem_of_getElem? hr))
        rw [hq'.out] at this
        exact this
      have hd1 : Hid (Below W.heap.size W (wr.alloc (.cells #[.int .i64 r.kind, .int .i64 r.k, sv] 44)).drew) := hB1.out.drew
      clear d1 d2 d3 d4 hr hcel' hm'
      obtain ⟨osv, nsv, csv, rfl⟩ : ∃ a b c, sv = .slice a b c := hsh.out
      cases hb : early r (n : Int) q with
      | true =>
        rw [hb] at KE hsn
        have hE2 : Hid (earL (RS.take (j + 1)) (n : Int) q = true) := by show _ = _; rw [hsn.out, hE.out]; rfl
        clear hsn hno hE hb
        go_wp2
        go_region_with (first | (go_at_call 92; refine (KE.out _ hd1.out).mono ?_; rintro e w5 ⟨rfl, hb5⟩; have c5 := M.cell_over h1'.out (hd1.out.trans (hb5.mono hd1.out.size))))
        all_goals
          go_wp2
          exact ⟨⟨j + 1, by omega, by go_num, hE2, hd1.out.trans (hb5.mono hd1.out.size)⟩, by simp [intOf]; omega⟩
      | false =>
        rw [hb] at KE
        have hE2 := hide' (hno.out hb)
        clear hsn hno hE hb
        go_wp2
        go_region_with (first | (go_at_call 92; refine (KE.out _ hd1.out).mono ?_; rintro e w5 ⟨rfl, hb5⟩; have c5 := M.cell_over h1'.out (hd1.out.trans (hb5.mono hd1.out.size))))
        all_goals
          go_wp2
          go_ret
          exact ⟨ret_bool hE2.out.symm, hd1.out.trans (hb5.mono hd1.out.size)⟩
    · obtain rfl : j = RS.length := by omega
      rw [List.take_length] at hE
      clear hcel'
      go_wp2
      go_ret
      exact ⟨ret_bool hE.out.symm, hBr.out⟩
end Go.Proofs.YtlijlelejobchaaGreatDoor.S

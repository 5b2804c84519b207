/- head: what stands ahead of the names. -/
import Derived.Test.YtkfopeeegbdhlaaDoorRChk
import Derived.Deep.RegionHeld3
import Derived.Test.YtkfopeeegbdhlaaDoorXTxM
import Derived.Shelf.RegionOpen
import Derived.Shelf.RegionOpenPlain
namespace Go.Proofs.YtkfopeeegbdhlaaDoor
open Go.RowKit Go.Shelf
attribute [local go_sem] Oper.semAt_some
set_option maxRecDepth 100000 in
set_option maxHeartbeats 1000000 in
theorem headA (kind : Int) (sv : Value) (w : World) (hk : kind = 1 ∨ kind = 2) :
    Calls Tryd.prog 10 #[.agg #[.int .i64 kind, .int .i64 0, sv]] w fun e w' => e = .returned (.string ⟨(hdL kind 0).toArray⟩) ∧ Below w.heap.size w w' := by
  rcases hk with rfl | rfl
  all_goals
    go_enter Tryd.func10, Tryd.ntmps10
    go_wp2
    go_ret
    exact ⟨rfl, ((Below.refl _ w).alloc (Nat.le_refl _) _).alloc (by simp) _⟩
theorem keep3h {W0 V V' : World} {a b c : Addr} {x y z : Value} (h : V.cell? a = some x ∧ V.cell? b = some y ∧ V.cell? c = some z ∧ Below W0.heap.size W0 V) (hb : Below V.heap.size V V') : V'.cell? a = some x ∧ V'.cell? b = some y ∧ V'.cell? c = some z ∧ Below W0.heap.size W0 V' := by
  obtain ⟨h1, h2, h3, h4⟩ := h
  exact ⟨(hb.cell (World.block_lt_of_cell? V a h1)).trans h1, (hb.cell (World.block_lt_of_cell? V b h2)).trans h2, (hb.cell (World.block_lt_of_cell? V c h3)).trans h3, h4.trans (hb.mono h4.size)⟩
set_option maxRecDepth 100000 in
set_option maxHeartbeats 1000000 in
theorem headB3 (k : Int) (sv : Value) (w : World) (hk1 : 1 ≤ k) (dg : ByteArray) (hdg : dg.size ≤ 1000000000)
    (HI : ∀ W, Below w.heap.size w W → Calls Tryd.prog 17 #[.int .i64 k] W fun e w' => e = .returned (.string dg) ∧ Below W.heap.size W w') :
    Calls Tryd.prog 10 #[.agg #[.int .i64 3, .int .i64 k, sv]] w fun e w' => e = .returned (.string (⟨#[109, 111, 115, 116]⟩ ++ ⟨#[32]⟩ ++ dg ++ ⟨#[32, 111, 102]⟩)) ∧ Below w.heap.size w w' := by
  have hk0 : (k == 0) = false := by simp; omega
  have HI' := hide' HI
  clear HI
  go_enter Tryd.func10, Tryd.ntmps10
  go_wp2
  have hB0 : Below w.heap.size w ((w.alloc (.cells #[.int .i64 3, .int .i64 k, sv] 32)).alloc (.cells #[.string ⟨#[]⟩, .string ⟨#[97, 112, 97, 114, 116]⟩, .string ⟨#[115, 97, 109, 101]⟩, .string ⟨#[109, 111, 115, 116]⟩, .string ⟨#[102, 101, 119]⟩, .string ⟨#[109, 97, 110, 121]⟩] 45)) := ((Below.refl _ w).alloc (Nat.le_refl _) _).alloc (by simp) _
  have c0 : ((w.alloc (.cells #[.int .i64 3, .int .i64 k, sv] 32)).alloc (.cells #[.string ⟨#[]⟩, .string ⟨#[97, 112, 97, 114, 116]⟩, .string ⟨#[115, 97, 109, 101]⟩, .string ⟨#[109, 111, 115, 116]⟩, .string ⟨#[102, 101, 119]⟩, .string ⟨#[109, 97, 110, 121]⟩] 45)).cell? ⟨w.heap.size, 0, none⟩ = some (.int .i64 3) := cell_new (by simp)
  have c1 : ((w.alloc (.cells #[.int .i64 3, .int .i64 k, sv] 32)).alloc (.cells #[.string ⟨#[]⟩, .string ⟨#[97, 112, 97, 114, 116]⟩, .string ⟨#[115, 97, 109, 101]⟩, .string ⟨#[109, 111, 115, 116]⟩, .string ⟨#[102, 101, 119]⟩, .string ⟨#[109, 97, 110, 121]⟩] 45)).cell? ⟨w.heap.size, 1, none⟩ = some (.int .i64 k) := cell_new (by simp)
  have c2 : ((w.alloc (.cells #[.int .i64 3, .int .i64 k, sv] 32)).alloc (.cells #[.string ⟨#[]⟩, .string ⟨#[97, 112, 97, 114, 116]⟩, .string ⟨#[115, 97, 109, 101]⟩, .string ⟨#[109, 111, 115, 116]⟩, .string ⟨#[102, 101, 119]⟩, .string ⟨#[109, 97, 110, 121]⟩] 45)).cell? ⟨w.heap.size + 1, 3, none⟩ = some (.string ⟨#[109, 111, 115, 116]⟩) := by
    have e := heap_new (w.alloc (.cells #[.int .i64 3, .int .i64 k, sv] 32)) (.cells #[.string ⟨#[]⟩, .string ⟨#[97, 112, 97, 114, 116]⟩, .string ⟨#[115, 97, 109, 101]⟩, .string ⟨#[109, 111, 115, 116]⟩, .string ⟨#[102, 101, 119]⟩, .string ⟨#[109, 97, 110, 121]⟩] 45)
    rw [show (w.alloc (.cells #[.int .i64 3, .int .i64 k, sv] 32)).heap.size = w.heap.size + 1 by simp] at e
    unfold World.cell?
    simp only [e]
    rfl
  generalize ((w.alloc (.cells #[.int .i64 3, .int .i64 k, sv] 32)).alloc (.cells #[.string ⟨#[]⟩, .string ⟨#[97, 112, 97, 114, 116]⟩, .string ⟨#[115, 97, 109, 101]⟩, .string ⟨#[109, 111, 115, 116]⟩, .string ⟨#[102, 101, 119]⟩, .string ⟨#[109, 97, 110, 121]⟩] 45)) = W0 at *
  have KI : Hid (∀ W, Below W0.heap.size W0 W → Calls Tryd.prog 17 #[.int .i64 k] W fun e w' => e = .returned (.string dg) ∧ Below W.heap.size W w') := fun W hW => HI'.out W (hB0.trans (hW.mono hB0.size))
  clear HI' hk0 hk1
  have z2 : ¬ 9223372036854775807 < 5 + dg.size := by omega
  have z3 : ¬ 9223372036854775807 < 5 + dg.size + 3 := by omega
  clear hdg
  have hi0 : Hid (W0.cell? ⟨w.heap.size, 0, none⟩ = some (.int .i64 3) ∧ W0.cell? ⟨w.heap.size, 1, none⟩ = some (.int .i64 k) ∧ W0.cell? ⟨w.heap.size + 1, 3, none⟩ = some (.string ⟨#[109, 111, 115, 116]⟩) ∧ Below W0.heap.size W0 W0) := ⟨c0, c1, c2, Below.refl _ _⟩
  have hi1 : Hid (W0.drew.cell? ⟨w.heap.size, 0, none⟩ = some (.int .i64 3) ∧ W0.drew.cell? ⟨w.heap.size, 1, none⟩ = some (.int .i64 k) ∧ W0.drew.cell? ⟨w.heap.size + 1, 3, none⟩ = some (.string ⟨#[109, 111, 115, 116]⟩) ∧ Below W0.heap.size W0 W0.drew) := ⟨c0, c1, c2, (Below.refl _ _).drew⟩
  go_region_held3 (fun V => V.cell? ⟨w.heap.size, 0, none⟩ = some (.int .i64 3) ∧ V.cell? ⟨w.heap.size, 1, none⟩ = some (.int .i64 k) ∧ V.cell? ⟨w.heap.size + 1, 3, none⟩ = some (.string ⟨#[109, 111, 115, 116]⟩) ∧ Below W0.heap.size W0 V) (first | (exact keep3h (by assumption) hb) | (exact keep3h hi1.out hb) | (exact hi1.out) | (exact hi0.out)) (first | (go_at_call 17; refine (KI.out _ (by first | exact ‹_ ∧ _ ∧ _ ∧ _›.2.2.2 | exact (Below.refl _ _).drew)).mono ?_; rintro e w1 ⟨rfl, hb⟩))
  all_goals
    have hS := ‹w1.cell? ⟨w.heap.size, 0, none⟩ = some (.int .i64 3) ∧ w1.cell? ⟨w.heap.size, 1, none⟩ = some (.int .i64 k) ∧ w1.cell? ⟨w.heap.size + 1, 3, none⟩ = some (.string ⟨#[109, 111, 115, 116]⟩) ∧ Below W0.heap.size W0 w1›
    clear KI hi0 hi1 c0 c1 c2
    go_wp2
    go_ret
    exact ⟨rfl, hB0.trans (hS.2.2.2.mono hB0.size)⟩
set_option maxRecDepth 100000 in
set_option maxHeartbeats 1000000 in
theorem headB4 (k : Int) (sv : Value) (w : World) (hk1 : 1 ≤ k) (dg : ByteArray) (hdg : dg.size ≤ 1000000000)
    (HI : ∀ W, Below w.heap.size w W → Calls Tryd.prog 17 #[.int .i64 k] W fun e w' => e = .returned (.string dg) ∧ Below W.heap.size W w') :
    Calls Tryd.prog 10 #[.agg #[.int .i64 4, .int .i64 k, sv]] w fun e w' => e = .returned (.string (⟨#[102, 101, 119]⟩ ++ ⟨#[32]⟩ ++ dg ++ ⟨#[32, 111, 102]⟩)) ∧ Below w.heap.size w w' := by
  have hk0 : (k == 0) = false := by simp; omega
  have HI' := hide' HI
  clear HI
  go_enter Tryd.func10, Tryd.ntmps10
  go_wp2
  have hB0 : Below w.heap.size w ((w.alloc (.cells #[.int .i64 4, .int .i64 k, sv] 32)).alloc (.cells #[.string ⟨#[]⟩, .string ⟨#[97, 112, 97, 114, 116]⟩, .string ⟨#[115, 97, 109, 101]⟩, .string ⟨#[109, 111, 115, 116]⟩, .string ⟨#[102, 101, 119]⟩, .string ⟨#[109, 97, 110, 121]⟩] 45)) := ((Below.refl _ w).alloc (Nat.le_refl _) _).alloc (by simp) _
  have c0 : ((w.alloc (.cells #[.int .i64 4, .int .i64 k, sv] 32)).alloc (.cells #[.string ⟨#[]⟩, .string ⟨#[97, 112, 97, 114, 116]⟩, .string ⟨#[115, 97, 109, 101]⟩, .string ⟨#[109, 111, 115, 116]⟩, .string ⟨#[102, 101, 119]⟩, .string ⟨#[109, 97, 110, 121]⟩] 45)).cell? ⟨w.heap.size, 0, none⟩ = some (.int .i64 4) := cell_new (by simp)
  have c1 : ((w.alloc (.cells #[.int .i64 4, .int .i64 k, sv] 32)).alloc (.cells #[.string ⟨#[]⟩, .string ⟨#[97, 112, 97, 114, 116]⟩, .string ⟨#[115, 97, 109, 101]⟩, .string ⟨#[109, 111, 115, 116]⟩, .string ⟨#[102, 101, 119]⟩, .string ⟨#[109, 97, 110, 121]⟩] 45)).cell? ⟨w.heap.size, 1, none⟩ = some (.int .i64 k) := cell_new (by simp)
  have c2 : ((w.alloc (.cells #[.int .i64 4, .int .i64 k, sv] 32)).alloc (.cells #[.string ⟨#[]⟩, .string ⟨#[97, 112, 97, 114, 116]⟩, .string ⟨#[115, 97, 109, 101]⟩, .string ⟨#[109, 111, 115, 116]⟩, .string ⟨#[102, 101, 119]⟩, .string ⟨#[109, 97, 110, 121]⟩] 45)).cell? ⟨w.heap.size + 1, 4, none⟩ = some (.string ⟨#[102, 101, 119]⟩) := by
    have e := heap_new (w.alloc (.cells #[.int .i64 4, .int .i64 k, sv] 32)) (.cells #[.string ⟨#[]⟩, .string ⟨#[97, 112, 97, 114, 116]⟩, .string ⟨#[115, 97, 109, 101]⟩, .string ⟨#[109, 111, 115, 116]⟩, .string ⟨#[102, 101, 119]⟩, .string ⟨#[109, 97, 110, 121]⟩] 45)
    rw [show (w.alloc (.cells #[.int .i64 4, .int .i64 k, sv] 32)).heap.size = w.heap.size + 1 by simp] at e
    unfold World.cell?
    simp only [e]
    rfl
  generalize ((w.alloc (.cells #[.int .i64 4, .int .i64 k, sv] 32)).alloc (.cells #[.string ⟨#[]⟩, .string ⟨#[97, 112, 97, 114, 116]⟩, .string ⟨#[115, 97, 109, 101]⟩, .string ⟨#[109, 111, 115, 116]⟩, .string ⟨#[102, 101, 119]⟩, .string ⟨#[109, 97, 110, 121]⟩] 45)) = W0 at *
  have KI : Hid (∀ W, Below W0.heap.size W0 W → Calls Tryd.prog 17 #[.int .i64 k] W fun e w' => e = .returned (.string dg) ∧ Below W.heap.size W w') := fun W hW => HI'.out W (hB0.trans (hW.mono hB0.size))
  clear HI' hk0 hk1
  have z2 : ¬ 9223372036854775807 < 4 + dg.size := by omega
  have z3 : ¬ 9223372036854775807 < 4 + dg.size + 3 := by omega
  clear hdg
  have hi0 : Hid (W0.cell? ⟨w.heap.size, 0, none⟩ = some (.int .i64 4) ∧ W0.cell? ⟨w.heap.size, 1, none⟩ = some (.int .i64 k) ∧ W0.cell? ⟨w.heap.size + 1, 4, none⟩ = some (.string ⟨#[102, 101, 119]⟩) ∧ Below W0.heap.size W0 W0) := ⟨c0, c1, c2, Below.refl _ _⟩
  have hi1 : Hid (W0.drew.cell? ⟨w.heap.size, 0, none⟩ = some (.int .i64 4) ∧ W0.drew.cell? ⟨w.heap.size, 1, none⟩ = some (.int .i64 k) ∧ W0.drew.cell? ⟨w.heap.size + 1, 4, none⟩ = some (.string ⟨#[102, 101, 119]⟩) ∧ Below W0.heap.size W0 W0.drew) := ⟨c0, c1, c2, (Below.refl _ _).drew⟩
  go_region_held3 (fun V => V.cell? ⟨w.heap.size, 0, none⟩ = some (.int .i64 4) ∧ V.cell? ⟨w.heap.size, 1, none⟩ = some (.int .i64 k) ∧ V.cell? ⟨w.heap.size + 1, 4, none⟩ = some (.string ⟨#[102, 101, 119]⟩) ∧ Below W0.heap.size W0 V) (first | (exact keep3h (by assumption) hb) | (exact keep3h hi1.out hb) | (exact hi1.out) | (exact hi0.out)) (first | (go_at_call 17; refine (KI.out _ (by first | exact ‹_ ∧ _ ∧ _ ∧ _›.2.2.2 | exact (Below.refl _ _).drew)).mono ?_; rintro e w1 ⟨rfl, hb⟩))
  all_goals
    have hS := ‹w1.cell? ⟨w.heap.size, 0, none⟩ = some (.int .i64 4) ∧ w1.cell? ⟨w.heap.size, 1, none⟩ = some (.int .i64 k) ∧ w1.cell? ⟨w.heap.size + 1, 4, none⟩ = some (.string ⟨#[102, 101, 119]⟩) ∧ Below W0.heap.size W0 w1›
    clear KI hi0 hi1 c0 c1 c2
    go_wp2
    go_ret
    exact ⟨rfl, hB0.trans (hS.2.2.2.mono hB0.size)⟩
set_option maxRecDepth 100000 in
set_option maxHeartbeats 1000000 in
theorem headB5 (k : Int) (sv : Value) (w : World) (hk1 : 1 ≤ k) (dg : ByteArray) (hdg : dg.size ≤ 1000000000)
    (HI : ∀ W, Below w.heap.size w W → Calls Tryd.prog 17 #[.int .i64 k] W fun e w' => e = .returned (.string dg) ∧ Below W.heap.size W w') :
    Calls Tryd.prog 10 #[.agg #[.int .i64 5, .int .i64 k, sv]] w fun e w' => e = .returned (.string (⟨#[109, 97, 110, 121]⟩ ++ ⟨#[32]⟩ ++ dg ++ ⟨#[32, 111, 102]⟩)) ∧ Below w.heap.size w w' := by
  have hk0 : (k == 0) = false := by simp; omega
  have HI' := hide' HI
  clear HI
  go_enter Tryd.func10, Tryd.ntmps10
  go_wp2
  have hB0 : Below w.heap.size w ((w.alloc (.cells #[.int .i64 5, .int .i64 k, sv] 32)).alloc (.cells #[.string ⟨#[]⟩, .string ⟨#[97, 112, 97, 114, 116]⟩, .string ⟨#[115, 97, 109, 101]⟩, .string ⟨#[109, 111, 115, 116]⟩, .string ⟨#[102, 101, 119]⟩, .string ⟨#[109, 97, 110, 121]⟩] 45)) := ((Below.refl _ w).alloc (Nat.le_refl _) _).alloc (by simp) _
  have c0 : ((w.alloc (.cells #[.int .i64 5, .int .i64 k, sv] 32)).alloc (.cells #[.string ⟨#[]⟩, .string ⟨#[97, 112, 97, 114, 116]⟩, .string ⟨#[115, 97, 109, 101]⟩, .string ⟨#[109, 111, 115, 116]⟩, .string ⟨#[102, 101, 119]⟩, .string ⟨#[109, 97, 110, 121]⟩] 45)).cell? ⟨w.heap.size, 0, none⟩ = some (.int .i64 5) := cell_new (by simp)
  have c1 : ((w.alloc (.cells #[.int .i64 5, .int .i64 k, sv] 32)).alloc (.cells #[.string ⟨#[]⟩, .string ⟨#[97, 112, 97, 114, 116]⟩, .string ⟨#[115, 97, 109, 101]⟩, .string ⟨#[109, 111, 115, 116]⟩, .string ⟨#[102, 101, 119]⟩, .string ⟨#[109, 97, 110, 121]⟩] 45)).cell? ⟨w.heap.size, 1, none⟩ = some (.int .i64 k) := cell_new (by simp)
  have c2 : ((w.alloc (.cells #[.int .i64 5, .int .i64 k, sv] 32)).alloc (.cells #[.string ⟨#[]⟩, .string ⟨#[97, 112, 97, 114, 116]⟩, .string ⟨#[115, 97, 109, 101]⟩, .string ⟨#[109, 111, 115, 116]⟩, .string ⟨#[102, 101, 119]⟩, .string ⟨#[109, 97, 110, 121]⟩] 45)).cell? ⟨w.heap.size + 1, 5, none⟩ = some (.string ⟨#[109, 97, 110, 121]⟩) := by
    have e := heap_new (w.alloc (.cells #[.int .i64 5, .int .i64 k, sv] 32)) (.cells #[.string ⟨#[]⟩, .string ⟨#[97, 112, 97, 114, 116]⟩, .string ⟨#[115, 97, 109, 101]⟩, .string ⟨#[109, 111, 115, 116]⟩, .string ⟨#[102, 101, 119]⟩, .string ⟨#[109, 97, 110, 121]⟩] 45)
    rw [show (w.alloc (.cells #[.int .i64 5, .int .i64 k, sv] 32)).heap.size = w.heap.size + 1 by simp] at e
    unfold World.cell?
    simp only [e]
    rfl
  generalize ((w.alloc (.cells #[.int .i64 5, .int .i64 k, sv] 32)).alloc (.cells #[.string ⟨#[]⟩, .string ⟨#[97, 112, 97, 114, 116]⟩, .string ⟨#[115, 97, 109, 101]⟩, .string ⟨#[109, 111, 115, 116]⟩, .string ⟨#[102, 101, 119]⟩, .string ⟨#[109, 97, 110, 121]⟩] 45)) = W0 at *
  have KI : Hid (∀ W, Below W0.heap.size W0 W → Calls Tryd.prog 17 #[.int .i64 k] W fun e w' => e = .returned (.string dg) ∧ Below W.heap.size W w') := fun W hW => HI'.out W (hB0.trans (hW.mono hB0.size))
  clear HI' hk0 hk1
  have z2 : ¬ 9223372036854775807 < 5 + dg.size := by omega
  have z3 : ¬ 9223372036854775807 < 5 + dg.size + 3 := by omega
  clear hdg
  have hi0 : Hid (W0.cell? ⟨w.heap.size, 0, none⟩ = some (.int .i64 5) ∧ W0.cell? ⟨w.heap.size, 1, none⟩ = some (.int .i64 k) ∧ W0.cell? ⟨w.heap.size + 1, 5, none⟩ = some (.string ⟨#[109, 97, 110, 121]⟩) ∧ Below W0.heap.size W0 W0) := ⟨c0, c1, c2, Below.refl _ _⟩
  have hi1 : Hid (W0.drew.cell? ⟨w.heap.size, 0, none⟩ = some (.int .i64 5) ∧ W0.drew.cell? ⟨w.heap.size, 1, none⟩ = some (.int .i64 k) ∧ W0.drew.cell? ⟨w.heap.size + 1, 5, none⟩ = some (.string ⟨#[109, 97, 110, 121]⟩) ∧ Below W0.heap.size W0 W0.drew) := ⟨c0, c1, c2, (Below.refl _ _).drew⟩
  go_region_held3 (fun V => V.cell? ⟨w.heap.size, 0, none⟩ = some (.int .i64 5) ∧ V.cell? ⟨w.heap.size, 1, none⟩ = some (.int .i64 k) ∧ V.cell? ⟨w.heap.size + 1, 5, none⟩ = some (.string ⟨#[109, 97, 110, 121]⟩) ∧ Below W0.heap.size W0 V) (first | (exact keep3h (by assumption) hb) | (exact keep3h hi1.out hb) | (exact hi1.out) | (exact hi0.out)) (first | (go_at_call 17; refine (KI.out _ (by first | exact ‹_ ∧ _ ∧ _ ∧ _›.2.2.2 | exact (Below.refl _ _).drew)).mono ?_; rintro e w1 ⟨rfl, hb⟩))
  all_goals
    have hS := ‹w1.cell? ⟨w.heap.size, 0, none⟩ = some (.int .i64 5) ∧ w1.cell? ⟨w.heap.size, 1, none⟩ = some (.int .i64 k) ∧ w1.cell? ⟨w.heap.size + 1, 5, none⟩ = some (.string ⟨#[109, 97, 110, 121]⟩) ∧ Below W0.heap.size W0 w1›
    clear KI hi0 hi1 c0 c1 c2
    go_wp2
    go_ret
    exact ⟨rfl, hB0.trans (hS.2.2.2.mono hB0.size)⟩
theorem headF (kind k : Int) (sv : Value) (w : World) (hk : (kind = 1 ∨ kind = 2) ∧ k = 0 ∨ (kind = 3 ∨ kind = 4 ∨ kind = 5) ∧ 1 ≤ k ∧ k ≤ 999999999)
    (HI : 1 ≤ k → k ≤ 999999999 → ∀ W, Below w.heap.size w W → Calls Tryd.prog 17 #[.int .i64 k] W fun e w' => e = .returned (.string ⟨(Lib.decDigits k.toNat).toArray⟩) ∧ Below W.heap.size W w') :
    Calls Tryd.prog 10 #[.agg #[.int .i64 kind, .int .i64 k, sv]] w fun e w' => e = .returned (.string ⟨(hdL kind k).toArray⟩) ∧ Below w.heap.size w w' := by
  rcases hk with ⟨h, rfl⟩ | ⟨h, h1, h2⟩
  · exact headA kind sv w h
  · have hz : (⟨(Lib.decDigits k.toNat).toArray⟩ : ByteArray).size ≤ 1000000000 := by
      have e : (⟨(Lib.decDigits k.toNat).toArray⟩ : ByteArray).size = (Lib.decDigits k.toNat).length := by simp [ByteArray.size]
      have := dec_len k.toNat
      omega
    have hk0 : k ≠ 0 := by omega
    rcases h with rfl | rfl | rfl
    · refine (headB3 k sv w h1 _ hz (HI h1 h2)).mono fun e w' h => ⟨h.1.trans ?_, h.2⟩
      congr 2
      apply ByteArray.ext
      simp [hdL, wdL, hk0]
    · refine (headB4 k sv w h1 _ hz (HI h1 h2)).mono fun e w' h => ⟨h.1.trans ?_, h.2⟩
      congr 2
      apply ByteArray.ext
      simp [hdL, wdL, hk0]
    · refine (headB5 k sv w h1 _ hz (HI h1 h2)).mono fun e w' h => ⟨h.1.trans ?_, h.2⟩
      congr 2
      apply ByteArray.ext
      simp [hdL, wdL, hk0]
end Go.Proofs.YtkfopeeegbdhlaaDoor

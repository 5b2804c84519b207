/- The document's Digits: a number's decimal digits. -/
import Derived.Test.YtkfopeeegbdhlaaDoorRRef
import Derived.Test.YtkfopeeegbdhlaaDoorXLay
import Derived.Lib.ItoaNum
import Derived.Lib.SlBytesRow
import Derived.Shelf.RegionOpen
import Derived.Shelf.RegionOpenPlain
namespace Go.Proofs.YtkfopeeegbdhlaaDoor
open Go.RowKit Go.Shelf
attribute [local go_sem] Oper.semAt_some
/-- One byte in a new block, as a string. -/
theorem conv1 (w : World) (g : Nat) (m : Nat) (hm : m < 10) (hg : w.cell? ⟨g, 0, none⟩ = some (.int .u8 (48 + (m : Int)))) :
    (convert 47 9 (.slice (some ⟨g, 0, none⟩) 1 1)).run Tryd.prog w = .ok (.string ⟨#[UInt8.ofNat (48 + m)]⟩) w :=
  Lib.run_convert_whole (P := Tryd.prog) w 47 5 9 Tryd.underlying47 Tryd.underlying5 Tryd.underlying9 g 0 ⟨#[UInt8.ofNat (48 + m)]⟩ (fun i hi => by
    have : i = 0 := by have : i < 1 := hi; omega
    subst this
    have e : ((⟨#[UInt8.ofNat (48 + m)]⟩ : ByteArray)[0]'hi).toNat = 48 + m := by
      show (UInt8.ofNat (48 + m)).toNat = 48 + m
      rw [UInt8.toNat_ofNat']; omega
    rw [e, Nat.zero_add, hg]
    congr 2) 1
theorem conv1n (w : World) (m : Nat) (hm : m < 10) :
    (convert 47 9 (.slice (some ⟨w.heap.size, 0, none⟩) 1 1)).run Tryd.prog (w.alloc (.cells #[.int .u8 (48 + (m : Int))] 5)) = .ok (.string ⟨#[UInt8.ofNat (48 + m)]⟩) (w.alloc (.cells #[.int .u8 (48 + (m : Int))] 5)) :=
  conv1 _ _ m hm (by simp)
theorem cell_over' {w w' : World} {g o : Nat} {v : Value} (h : w.cell? ⟨g, o, none⟩ = some v) (hb : Below w.heap.size w w') (hg : g < w.heap.size) : w'.cell? ⟨g, o, none⟩ = some v := (hb.cell (p := ⟨g, o, none⟩) hg).trans h
theorem decDigits_len (u : Nat) : (Lib.decDigits u).length ≤ u + 1 := by
  induction u using Nat.strongRecOn with
  | _ u ih =>
    rw [Lib.decDigits]
    split
    · simp
    · have := ih (u / 10) (by omega)
      rw [List.length_append, List.length_singleton]
      omega
set_option maxRecDepth 100000 in
set_option maxHeartbeats 1000000 in
theorem digitsF (n : Nat) : n ≤ 999999999 → ∀ w : World,
    Calls Tryd.prog 12 #[.int .i64 (n : Int)] w fun e w' => e = .returned (.string ⟨(Lib.decDigits n).toArray⟩) ∧ Below w.heap.size w w' := by
  have hmx : Tryd.prog.follows Departure.mixedOrders = true := by kernel_rfl
  induction n using Nat.strongRecOn with
  | _ n ih =>
    intro hn w
    by_cases h10 : n < 10
    · have hlt : (n : Int) < 10 := by omega
      have hcv := conv1n w n h10
      have hd : (⟨(Lib.decDigits n).toArray⟩ : ByteArray) = ⟨#[UInt8.ofNat (48 + n)]⟩ := by rw [Lib.decDigits, dif_pos h10]
      rw [hd]
      generalize (⟨#[UInt8.ofNat (48 + n)]⟩ : ByteArray) = sb at *
      clear hd ih
      go_enter Tryd.func12, Tryd.ntmps12
      go_wp2
      go_ret
      exact ⟨rfl, (Below.refl _ _).alloc (Nat.le_refl _) _⟩
    · have hlt : ¬ (n : Int) < 10 := by omega
      have KD := ih (n / 10) (by omega) (by omega)
      rw [show ((n / 10 : Nat) : Int) = (n : Int) / 10 by omega] at KD
      have hd : (⟨(Lib.decDigits n).toArray⟩ : ByteArray) = ⟨(Lib.decDigits (n / 10)).toArray⟩ ++ ⟨#[UInt8.ofNat (48 + n % 10)]⟩ := by
        rw [Lib.decDigits, dif_neg h10]
        apply ByteArray.ext
        simp
      have hm10 : n % 10 < 10 := by omega
      have hcv := fun w => conv1n w (n % 10) hm10
      have hcb := fun (X w1 : World) (h : Below X.heap.size X w1) (hx : X.cell? ⟨w.heap.size, 0, none⟩ = some (.int .u8 (48 + ((n % 10 : Nat) : Int)))) => conv1 w1 w.heap.size (n % 10) hm10 (cell_over' hx h (cell_lt hx))
      rw [show ((n % 10 : Nat) : Int) = (n : Int) % 10 by omega] at hcv hcb
      have hsz : ¬ 9223372036854775807 < (⟨(Lib.decDigits (n / 10)).toArray⟩ : ByteArray).size + (⟨#[UInt8.ofNat (48 + n % 10)]⟩ : ByteArray).size := by
        have h1 : (⟨(Lib.decDigits (n / 10)).toArray⟩ : ByteArray).size = (Lib.decDigits (n / 10)).length := by simp [ByteArray.size]
        have h2 : (⟨#[UInt8.ofNat (48 + n % 10)]⟩ : ByteArray).size = 1 := rfl
        have h3 := decDigits_len (n / 10)
        omega
      rw [hd]
      generalize (⟨(Lib.decDigits (n / 10)).toArray⟩ : ByteArray) = sa at *
      generalize (⟨#[UInt8.ofNat (48 + n % 10)]⟩ : ByteArray) = sb at *
      have hdv : Int.tdiv (n : Int) 10 = (n : Int) / 10 := Int.tdiv_eq_ediv_of_nonneg (by omega)
      have hmd : Int.tmod (n : Int) 10 = (n : Int) % 10 := Int.tmod_eq_emod_of_nonneg (by omega)
      have hw1 : IntKind.i64.wrap ((n : Int) / 10) = (n : Int) / 10 := by rw [IntKind.wrap_i64]; omega
      have hw2 : IntKind.i64.wrap (48 + (n : Int) % 10) = 48 + (n : Int) % 10 := by rw [IntKind.wrap_i64]; omega
      have hw3 : IntKind.u8.wrap (48 + (n : Int) % 10) = 48 + (n : Int) % 10 := by
        first
          | (rw [IntKind.wrap_u8]; omega)
          | (simp [IntKind.wrap]; omega)
      have KD' := hide' KD
      have hcb' := hide' hcb
      have hx1 : (w.drew.alloc (.cells #[.int .u8 (48 + (n : Int) % 10)] 5)).cell? ⟨w.heap.size, 0, none⟩ = some (.int .u8 (48 + (n : Int) % 10)) := by
        have : (w.drew.alloc (.cells #[.int .u8 (48 + (n : Int) % 10)] 5)).heap[w.heap.size]? = some (.cells #[.int .u8 (48 + (n : Int) % 10)] 5 (0, 0)) := heap_new w.drew _
        unfold World.cell?
        simp only [this]
        rfl
      have hx2 : (w.alloc (.cells #[.int .u8 (48 + (n : Int) % 10)] 5)).drew.cell? ⟨w.heap.size, 0, none⟩ = some (.int .u8 (48 + (n : Int) % 10)) := hx1
      have hcv1 : (convert 47 9 (.slice (some ⟨w.heap.size, 0, none⟩) 1 1)).run Tryd.prog (w.drew.alloc (.cells #[.int .u8 (48 + (n : Int) % 10)] 5)) = .ok (.string sb) (w.drew.alloc (.cells #[.int .u8 (48 + (n : Int) % 10)] 5)) := hcb _ _ (Below.refl _ _) hx1
      have hcv2 : (convert 47 9 (.slice (some ⟨w.heap.size, 0, none⟩) 1 1)).run Tryd.prog (w.alloc (.cells #[.int .u8 (48 + (n : Int) % 10)] 5)).drew = .ok (.string sb) (w.alloc (.cells #[.int .u8 (48 + (n : Int) % 10)] 5)).drew := hcb _ _ (Below.refl _ _) hx2
      clear hcb
      clear ih KD hd
      go_enter Tryd.func12, Tryd.ntmps12
      go_wp2
      go_region_with (first | (go_at_call 12; refine (KD'.out _).mono ?_; rintro e w1 ⟨rfl, hb1⟩; (first | (have hc1 : (convert 47 9 (.slice (some ⟨w.heap.size, 0, none⟩) 1 1)).run Tryd.prog w1 = .ok (.string sb) w1 := hcb'.out _ _ hb1 hx1) | (have hc1 : (convert 47 9 (.slice (some ⟨w.heap.size, 0, none⟩) 1 1)).run Tryd.prog w1 = .ok (.string sb) w1 := hcb'.out _ _ hb1 hx2) | skip)))
      all_goals
        go_wp2
        go_ret
        first
          | exact ⟨rfl, (((Below.refl w.heap.size w).drew).trans hb1).alloc hb1.size _⟩
          | exact ⟨rfl, (((Below.refl w.heap.size w).alloc (Nat.le_refl _) _).drew).trans (hb1.mono (by simp))⟩
          | exact ⟨rfl, (((Below.refl w.heap.size w).drew).alloc (Nat.le_refl _) _).trans (hb1.mono (by simp))⟩
end Go.Proofs.YtkfopeeegbdhlaaDoor

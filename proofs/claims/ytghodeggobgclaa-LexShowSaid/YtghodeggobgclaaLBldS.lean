/- String of a builder of one's own. -/
import Derived.Test.YtghodeggobgclaaLBld
namespace Go.Proofs.Ytghodeggobgclaa
open Go.RowKit Go.Shelf
set_option maxHeartbeats 4000000 in
set_option maxRecDepth 100000 in
theorem stringF (B b : Nat) (l : List UInt8) (w : World) (h : Bd B b l w) (h0 : l ≠ []) (hl : l.length ≤ 1000000000) :
    Calls Try.prog 32 #[.pointer (some ⟨b, 0, none⟩)] w fun e w' => e = .returned (.string (bs l)) ∧ Below B w w' := by
  obtain ⟨hBb, p, v, _, hb, hr, _⟩ := h
  have hl0 : l.length ≠ 0 := by simpa using h0
  obtain ⟨g, cap, cur, rfl, hbg, hg, hnc, hcm, hcs⟩ : ∃ g cap cur, v = .slice (some ⟨g, 0, none⟩) l.length cap ∧ B ≤ g ∧ w.heap[g]? = some (.cells cur 5 (0, 0)) ∧ l.length ≤ cap ∧ cap ≤ maxLen ∧ cur.size = cap * 1 := by
    rcases hr.2 with ⟨_, hz⟩ | ⟨g, cap, cur, hv, a1, a2, a3, a4, a5, _⟩
    · exact absurd hz hl0
    · exact ⟨g, cap, cur, hv, a1, a2, a3, a4, a5⟩
  have hcell : ∀ j x, l[j]? = some x → w.drew.cell? ((⟨g, 0, none⟩ : Addr).add j) = some (.int .u8 x.toNat) := fun j x hx => by
    have hj := (List.getElem?_eq_some_iff.1 hx).1
    have a0 := hr.cellAt j (by omega)
    rw [show (bcs l)[j]? = some (.int .u8 (x.toNat : Int)) by simp [bcs, hx]] at a0
    rw [Addr.add_lit]
    simpa using a0
  have c1 : w.drew.cell? ⟨b, 1, none⟩ = some (.slice (some ⟨g, 0, none⟩) l.length cap) := by
    have : w.drew.heap[b]? = some (.cells #[p, .slice (some ⟨g, 0, none⟩) l.length cap] 75 (0, 0)) := hb
    simp [World.cell?, this]
  have hsd : (Builtin.unsafeSliceData_ #[73] 116 #[.slice (some ⟨g, 0, none⟩) l.length cap]).run Try.prog w.drew = .ok (.pointer (some ⟨g, 0, none⟩)) w.drew := Lib.run_unsafeSliceData_row _ _ _ _ _ _ (by omega)
  have hsh : w.drew.shape? g = some (5, cap) := by
    have : w.drew.heap[g]? = some (.cells cur 5 (0, 0)) := hg
    simp [World.shape?, this, hcs]
  have hus := Lib.run_unsafeString_row (P := Try.prog) w.drew 116 3 9 5 Try.underlying116 (by kernel_rfl) g cap hsh l h0 hnc (by omega) hcell
  have hm : Hid ((⟨l.toArray⟩ : ByteArray) = bs l) := rfl
  rw [← hm.out]
  generalize (⟨l.toArray⟩ : ByteArray) = st at *
  clear hr hcell hm
  have mixed : Try.prog.follows Departure.mixedOrders = true := by kernel_rfl
  go_enter Try.func32, Try.ntmps32
  go_wp2
  go_region_o
  all_goals (go_wp2; go_ret; exact ⟨rfl, Lib.below_freeze (Below.drew (Below.refl B w)) (p := ⟨g, 0, none⟩) hbg _⟩)
set_option maxHeartbeats 4000000 in
set_option maxRecDepth 100000 in
theorem string0 (b : Nat) (p : Value) (w : World) (hb : w.heap[b]? = some (.cells #[p, .slice none 0 0] 75 (0, 0))) :
    Calls Try.prog 32 #[.pointer (some ⟨b, 0, none⟩)] w fun e w' => e = .returned (.string ⟨#[]⟩) ∧ Below w.heap.size w w' := by
  have hus : ∀ (W : World) q, (Builtin.unsafeString_ #[116, 3] 9 #[.pointer q, .int .i64 0]).run Try.prog W = .ok (.string .empty) W := fun W q => Lib.run_unsafeString_none W _ _ _ q
  have c1 : w.drew.cell? ⟨b, 1, none⟩ = some (.slice none 0 0) := by
    have : w.drew.heap[b]? = some (.cells #[p, .slice none 0 0] 75 (0, 0)) := hb
    simp [World.cell?, this]
  have hsd : (Builtin.unsafeSliceData_ #[73] 116 #[.slice none 0 0]).run Try.prog w.drew = .ok (.pointer none) w.drew := rfl
  have mixed : Try.prog.follows Departure.mixedOrders = true := by kernel_rfl
  go_enter Try.func32, Try.ntmps32
  go_wp2
  go_region_o
  all_goals (go_wp2; go_ret; exact ⟨rfl, Below.drew (Below.refl _ w)⟩)
end Go.Proofs.Ytghodeggobgclaa

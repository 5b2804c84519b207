/- match's small functions. -/
import Derived.Test.YtbbmjfjedonfaaaDoorMMem
import Derived.Deep.RegionHeld3
namespace Go.Proofs.YtbbmjfjedonfaaaDoor.M
open Go.RowKit Go.Shelf
theorem cell_over {W W' : World} {p : Addr} {v : Value} (h : W.cell? p = some v) (hb : Below W.heap.size W W') : W'.cell? p = some v := by
  obtain ⟨b, o, f⟩ := p
  cases f with
  | none => exact (hb.cell (p := ⟨b, o, none⟩) (cell_lt h)).trans h
  | some f => exact (hb.cell (p := ⟨b, o, some f⟩) (by
      simp only [World.cell?] at h
      split at h
      · rename_i e; exact (Array.getElem?_eq_some_iff.1 e).1
      · cases h)).trans h
theorem hide' {p : Prop} (h : p) : Hid p := h
set_option maxHeartbeats 400000 in
theorem ofC (x : Int) (w : World) : Calls Tryd.prog 22 #[.int .u64 x] w fun e w' => e = .returned (.agg #[.int .u64 x]) ∧ Below w.heap.size w w' := by
  go_enter Tryd.func22, Tryd.ntmps22
  go_wp2_with (go_at_call 36; refine (of64 _ _ _).mono ?_; rintro e w1 ⟨rfl, hb⟩; obtain ⟨hc, hf⟩ := bcell hb)
  exact bodyPost_ret (v := .agg #[.int .u64 x]) (by simp [results, Tryd.results22, go_sem, hc]) rfl ⟨rfl, (((Below.refl _ w).alloc (Nat.le_refl _) _).trans (hb.mono (by simp))).setCell (by simp) _⟩
theorem fewC (oa : Option Addr) (n cap : Nat) (w : World) : Calls Tryd.prog 17 #[.slice oa n cap] w fun e w' => e = .returned (.bool (decide ((n : Int) ≤ 12))) ∧ w' = w := by
  go_enter Tryd.func17, Tryd.ntmps17
  go_wp2
  go_ret
  exact ⟨ret_bool (by simp), rfl⟩
end Go.Proofs.YtbbmjfjedonfaaaDoor.M

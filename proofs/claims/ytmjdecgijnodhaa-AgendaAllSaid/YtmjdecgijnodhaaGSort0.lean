/- slices.SortFunc at no entry. -/
import Derived.Test.YtmjdecgijnodhaaGSortE
namespace Go.Proofs.Ytmjdecgijnodhaa
open Go.RowKit Go.Shelf
set_option maxHeartbeats 2000000 in
set_option maxRecDepth 100000 in
theorem ins0 (p : Option Addr) (cap : Nat) (fv : Value) (W : World) :
    Calls Try.prog 36 #[.slice p 0 cap, .int .i64 0, .int .i64 0, fv] W fun e w' => e = .returned (.tuple #[]) ∧ w' = W := by
  go_enter Try.func36, Try.ntmps36
  go_wp2
  refine wp_loop_rounds 1 ?_
  rw [rounds_succ]
  go_wp2
  go_end0
  exact ⟨rfl, rfl⟩
set_option maxHeartbeats 2000000 in
set_option maxRecDepth 100000 in
theorem pdq0 (p : Option Addr) (cap : Nat) (lim : Int) (fv : Value) (W : World) :
    Calls Try.prog 30 #[.slice p 0 cap, .int .i64 0, .int .i64 0, .int .i64 lim, fv] W fun e w' => e = .returned (.tuple #[]) ∧ w' = W := by
  have hi := hide' (ins0 p cap fv W)
  go_enter Try.func30, Try.ntmps30
  go_wp2
  refine wp_loop_rounds 1 ?_
  rw [rounds_succ]
  go_wp2_with (go_at_call 36; refine hi.out.mono ?_; rintro e w' ⟨rfl, rfl⟩)
  (try simp only [Exit.inBlock, Exit.then]); refine bodyPost_ret (results_none rfl _ _ _) rfl ?_
  exact ⟨rfl, rfl⟩
set_option maxHeartbeats 2000000 in
set_option maxRecDepth 100000 in
theorem sort0 (p : Option Addr) (cap : Nat) (W : World) :
    Calls Try.prog 23 #[.slice p 0 cap, .func (.func 24) #[] #[]] W fun e w' => e = .returned (.tuple #[]) ∧ w' = W := by
  have hl : Hid (Calls Try.prog 31 #[.int .u64 0] W fun e w' => e = .returned (.int .i64 (Lib.bitLen 0 : Nat)) ∧ w' = W) := by
    have h := Any.bits_Len Try.bitsLen (0 : Int) W (by omega) (by omega)
    exact h
  have hp' := hide' (pdq0 p cap ((Lib.bitLen 0 : Nat) : Int) (.func (.func 24) #[] #[]) W)
  generalize ((Lib.bitLen 0 : Nat) : Int) = bl at *
  go_enter Try.func23, Try.ntmps23
  go_wp2_with (first | (go_at_call 31; refine hl.out.mono ?_; rintro e w' ⟨rfl, rfl⟩) | (go_at_call 30; refine hp'.out.mono ?_; rintro e w' ⟨rfl, rfl⟩))
  go_end0
  exact ⟨rfl, rfl⟩
end Go.Proofs.Ytmjdecgijnodhaa

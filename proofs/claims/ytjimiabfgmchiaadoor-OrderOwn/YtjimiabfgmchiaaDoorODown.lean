/- Down: what it answers. -/
import Derived.Test.YtjimiabfgmchiaaDoorOReady
namespace Go.Proofs.YtjimiabfgmchiaaDoor
open Go.RowKit Go.Shelf
/-- Down, by words. -/
def dnB (n : Nat) (Pf : Nat → Nat) (d : Nat) : Bool := (d &&& (18446744073709551615 - (2 ^ n - 1)) == 0) && (orAll Pf (nums d) &&& (18446744073709551615 - d) == 0)
theorem in_sub {n d : Nat} (hn : n ≤ 64) (hd : d < 18446744073709551616) (h : (d &&& (18446744073709551615 - (2 ^ n - 1)) == 0) = true) : ∀ k ∈ nums d, k.val < n := fun k hk => by
  have := (sub_bits hd (allw_lt hn)).1 h k.val ((mem_nums d k).1 hk)
  rw [Nat.testBit_two_pow_sub_one] at this
  simpa using this
end Go.Proofs.YtjimiabfgmchiaaDoor

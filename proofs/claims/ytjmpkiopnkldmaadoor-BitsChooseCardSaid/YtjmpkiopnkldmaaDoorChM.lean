/- The subsets of so many numbers, as the iterator tells them: plain lists; they are those of a search through all words. -/
import Derived.Test.YtjmpkiopnkldmaaDoorChFn
namespace Go.Proofs.YtjmpkiopnkldmaaDoor
/-- A word's numbers below eight, counted. -/
def pop8 (a : Nat) : Nat := Nat.add (Nat.mod a 2) (Nat.add (Nat.mod (Nat.div a 2) 2) (Nat.add (Nat.mod (Nat.div a 4) 2) (Nat.add (Nat.mod (Nat.div a 8) 2) (Nat.add (Nat.mod (Nat.div a 16) 2) (Nat.add (Nat.mod (Nat.div a 32) 2) (Nat.add (Nat.mod (Nat.div a 64) 2) (Nat.mod (Nat.div a 128) 2)))))))
/-- Does a word lie in s, and has it k numbers? -/
def okC (s k a : Nat) : Bool := cond (Nat.beq (Nat.land a (Nat.sub 255 s)) 0) (Nat.beq (pop8 a) k) false
/-- Those from a on, m words. -/
def srch (s k : Nat) : Nat → Nat → List Nat
  | 0, _ => []
  | m + 1, a => cond (okC s k a) (a :: srch s k m (Nat.succ a)) (srch s k m (Nat.succ a))
/-- The numbers of a word, from i on. -/
def plc (a : Nat) : Nat → Nat → List Nat
  | 0, _ => []
  | m + 1, i => cond (Nat.beq (Nat.mod (Nat.div a (Nat.pow 2 i)) 2) 1) (i :: plc a m (Nat.succ i)) (plc a m (Nat.succ i))
/-- The word without its lowest number. -/
def restX (s : Nat) : Nat := Nat.land s (Nat.sub s 1)
/-- What of s is below the lowest of t. -/
def ahd (s t : Nat) : Nat := cond (Nat.beq t 0) s (Nat.mod s (Nat.land t (Nat.sub 256 t)))
def chF : Nat → Nat → List Nat
  | 0, _ => [0]
  | k + 1, s => (chF k (restX s)).flatMap fun t => (plc (ahd s t) 8 0).map fun j => Nat.lor t (Nat.pow 2 j)
theorem ch_eq : ∀ s : Fin 256, ∀ k : Fin 9, k.val ≤ pop8 s.val → chF k.val s.val = srch s.val k.val 256 0 := by decide +kernel
end Go.Proofs.YtjmpkiopnkldmaaDoor

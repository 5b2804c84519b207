/- A function value is not nil. -/
import Derived.Test.YtpbjmdkfijlooaaGreatDoorRefPl
namespace Go.Proofs.YtpbjmdkfijlooaaGreatDoor
open Go.RowKit
theorem eql_fn (lb : Array Value) (w : World) : (binOp .eql 55 (.func (.func 102) #[] lb) .nilFunc).run Tryz.prog w = .ok (.bool false) w := by
  kernel_rfl
theorem alloc4 (w : World) (o1 o2 o3 : Obj) : (((w.alloc o1).alloc o2).alloc o3).heap[w.heap.size]? = some o1 ∧ (((w.alloc o1).alloc o2).alloc o3).heap[w.heap.size + 1]? = some o2 := by
  constructor
  · rw [Below.heap_alloc _ _ _ (by simp; omega), Below.heap_alloc _ _ _ (by simp)]
    exact World.alloc_heap_new w o1
  · rw [Below.heap_alloc _ _ _ (by simp)]
    have := World.alloc_heap_new (w.alloc o1) o2
    rw [World.size_alloc] at this
    exact this
end Go.Proofs.YtpbjmdkfijlooaaGreatDoor

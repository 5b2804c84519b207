/- A function value is not nil. -/
import Derived.Test.YtemaoijbjhonnaaDoorRefPl
namespace Go.Proofs.YtemaoijbjhonnaaDoor
open Go.RowKit
theorem eql_fn (lb : Array Value) (w : World) : (binOp .eql 68 (.func (.func 64) #[] lb) .nilFunc).run Tryd.prog w = .ok (.bool false) w := by
  kernel_rfl
theorem alloc4 (w : World) (o1 o2 o3 : Obj) : (((w.alloc o1).alloc o2).alloc o3).heap[w.heap.size]? = some o1 ∧ (((w.alloc o1).alloc o2).alloc o3).heap[w.heap.size + 1]? = some o2 := by
  constructor
  · rw [Below.heap_alloc _ _ _ (by simp; omega), Below.heap_alloc _ _ _ (by simp)]
    exact World.alloc_heap_new w o1
  · rw [Below.heap_alloc _ _ _ (by simp)]
    have := World.alloc_heap_new (w.alloc o1) o2
    rw [World.size_alloc] at this
    exact this
end Go.Proofs.YtemaoijbjhonnaaDoor

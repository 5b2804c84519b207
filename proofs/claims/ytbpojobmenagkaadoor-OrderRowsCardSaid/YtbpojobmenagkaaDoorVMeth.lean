/- What a *turns' methods lead to. -/
import Derived.Test.YtbpojobmenagkaaDoorVHeap
namespace Go.Proofs.YtbpojobmenagkaaDoor
open Go.RowKit
theorem metQ (nm : String) (f : FuncId) (p : Bool) (h : (Tryd.prog.info? 50).map (fun i => (i.methods.find? (·.name == nm)).map (fun m => (m.path.toList, m.func))) = some (some ([], some (f, p)))) :
    ∃ i m, Tryd.prog.info? 50 = some i ∧ i.methods.find? (·.name == nm) = some m ∧ m.path.toList = [] ∧ m.func = some (f, p) ∧ m.path = #[] := by
  cases hi : Tryd.prog.info? 50 with
  | none => rw [hi] at h; simp at h
  | some i =>
    rw [hi] at h
    simp only [Option.map_some, Option.some.injEq] at h
    cases hm : i.methods.find? (·.name == nm) with
    | none => rw [hm] at h; simp at h
    | some m =>
      rw [hm] at h
      simp only [Option.map_some, Option.some.injEq, Prod.mk.injEq] at h
      refine ⟨i, m, rfl, hm, h.1, h.2, ?_⟩
      apply Array.ext'
      rw [h.1]
theorem wrapNil (ad : Addr) (s : String) (w : World) : (Builtin.ssaWrapNilChk_ #[50] 50 #[.pointer (some ad), strVal "", strVal s]).run Tryd.prog w = .ok (.pointer (some ad)) w := by kernel_rfl
theorem mVal (nm : String) (f : FuncId) (h : (Tryd.prog.info? 50).map (fun i => (i.methods.find? (·.name == nm)).map (fun m => (m.path.toList, m.func))) = some (some ([], some (f, false)))) (F a : Nat) (o : Option Addr) (n cap : Nat) (w : World) (hc : w.cell? ⟨a, 0, none⟩ = some (.slice o n cap)) : (method (F + 1) 50 (.pointer (some ⟨a, 0, none⟩)) nm).run Tryd.prog w = .ok (f, .slice o n cap) w := by
  obtain ⟨i, m, hi, hm, _, h2, h3⟩ := metQ nm f false h
  simp [method, typeInfo, hi, hm, h2, h3, follow, receiverAt, Place.get, wrapNil, go_sem, hc]
theorem mPtr (nm : String) (f : FuncId) (h : (Tryd.prog.info? 50).map (fun i => (i.methods.find? (·.name == nm)).map (fun m => (m.path.toList, m.func))) = some (some ([], some (f, true)))) (F : Nat) (v : Value) (w : World) : (method (F + 1) 50 v nm).run Tryd.prog w = .ok (f, v) w := by
  obtain ⟨i, m, hi, hm, h1, h2, _⟩ := metQ nm f true h
  simp [method, typeInfo, hi, hm, h1, h2, follow, receiverAt, Place.get, go_sem]
theorem mLess (F a : Nat) (o : Option Addr) (n cap : Nat) (w : World) (hc : w.cell? ⟨a, 0, none⟩ = some (.slice o n cap)) : (method (F + 1) 50 (.pointer (some ⟨a, 0, none⟩)) "Less").run Tryd.prog w = .ok (74, .slice o n cap) w := mVal "Less" _ (by kernel_rfl) F a o n cap w hc
theorem mSwap (F a : Nat) (o : Option Addr) (n cap : Nat) (w : World) (hc : w.cell? ⟨a, 0, none⟩ = some (.slice o n cap)) : (method (F + 1) 50 (.pointer (some ⟨a, 0, none⟩)) "Swap").run Tryd.prog w = .ok (77, .slice o n cap) w := mVal "Swap" _ (by kernel_rfl) F a o n cap w hc
theorem mLen (F a : Nat) (o : Option Addr) (n cap : Nat) (w : World) (hc : w.cell? ⟨a, 0, none⟩ = some (.slice o n cap)) : (method (F + 1) 50 (.pointer (some ⟨a, 0, none⟩)) "Len").run Tryd.prog w = .ok (21, .slice o n cap) w := mVal "Len" _ (by kernel_rfl) F a o n cap w hc
theorem mPush (F : Nat) (v : Value) (w : World) : (method (F + 1) 50 v "Push").run Tryd.prog w = .ok (76, v) w := mPtr "Push" _ (by kernel_rfl) F v w
theorem mPop (F : Nat) (v : Value) (w : World) : (method (F + 1) 50 v "Pop").run Tryd.prog w = .ok (75, v) w := mPtr "Pop" _ (by kernel_rfl) F v w
end Go.Proofs.YtbpojobmenagkaaDoor

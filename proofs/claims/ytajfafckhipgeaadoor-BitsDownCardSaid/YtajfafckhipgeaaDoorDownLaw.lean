/- A range over Down, held against the row that is wanted, read from its end. -/
import Derived.Test.YtajfafckhipgeaaDoorDownA
import Derived.Test.YtajfafckhipgeaaDoorAllLaw
namespace Go.Proofs.YtajfafckhipgeaaDoor
open Go.RowKit Go.Shelf
attribute [local go_sem] Oper.semAt_some
theorem eql_fn_d (lb : Array Value) (w : World) : (binOp .eql 40 (.func (.func 46) #[] lb) .nilFunc).run Tryd.prog w = .ok (.bool false) w := by
  kernel_rfl
/-- What stands while the numbers are told: the law's own boxes, the row that is wanted, and what lay ahead. -/
def DI (w : World) (X : Obj) (bw base a : Nat) (v : Value) (m : Nat) (W : World) : Prop :=
  W.heap[w.heap.size]? = some X ∧ Boxed W (w.heap.size + 1) 4 (.bool false) ∧ Boxed W (bw + 1) 46 (.int .u32 a) ∧ Boxed W bw 42 v ∧ Boxed W (bw + 1 + 1) 3 (.int .i64 m) ∧
    W.ownsRow base 3 1 v (nums a).length (intsOf (nums a)) ∧ Below w.heap.size w W
theorem DI.own {w : World} {X : Obj} {bw base a : Nat} {v : Value} {m B : Nat} (hX : X.isCells = true) (hB : w.heap.size ≤ B) : OwnFrom (β := Unit) B (fun _ W => DI w X bw base a v m W) := by
  rintro s Y Z row ⟨h1, h2, h3, h4, h5, h7, h8⟩ hg hr
  have hk : ∀ (b : Nat) (o : Obj), Y.heap[b]? = some o → o.isCells = true → Z.heap[b]? = some o := fun b o ho hc => by
    refine (hg.block b (Array.getElem?_eq_some_iff.1 ho).1 (fun e => ?_)).trans ho
    obtain ⟨_, o', ho', hc'⟩ := hr b e.symm
    rw [ho] at ho'; cases ho'; rw [hc] at hc'; cases hc'
  refine ⟨hk _ _ h1 hX, hk _ _ h2 rfl, hk _ _ h3 rfl, hk _ _ h4 rfl, hk _ _ h5 rfl, owns_off h7 hg fun g hgb e => ?_, h8.trans ((Below.refl _ Y).grown hg h8.size fun k e => Nat.le_trans hB (hr k e).1)⟩
  rcases h7.2 with ⟨rfl, _⟩ | ⟨g', cap, cur, rfl, _, hb, _⟩
  · simp [Value.ownBlock] at hgb
  · obtain rfl : g' = g := by simpa [Value.ownBlock] using hgb
    obtain ⟨_, o', ho', hc'⟩ := hr _ e
    rw [hb] at ho'; cases ho'; cases hc'
theorem DI.step {w : World} {X : Obj} {bw base a : Nat} {v : Value} {m : Nat} {W : World} (h : DI w X bw base a v m W) (hw : w.heap.size + 1 < bw) (hv : ∀ g, v.ownBlock = some g → g < bw) (m' : Nat) (z : Int) (hz : z = (m' : Int)) :
    DI w X bw base a v m' (W.setCell ⟨bw + 1 + 1, 0, none⟩ (.int .i64 z)) := by
  subst hz
  obtain ⟨h1, h2, h3, h4, h5, h7, h8⟩ := h
  refine ⟨(Below.heap_setCell _ _ _ _ (by show w.heap.size ≠ bw + 1 + 1; omega)).trans h1, h2.other (by omega) _, h3.other (by omega) _, h4.other (by omega) _, h5.set _, owns_off h7 (grownBy_setCell' W (bw + 1 + 1) _) fun g hg e => ?_, h8.setCell (p := ⟨bw + 1 + 1, 0, none⟩) (by show w.heap.size ≤ bw + 1 + 1; omega) _⟩
  have := hv g hg
  cases e; omega
theorem DI.start {w W w2 : World} {X : Obj} {a n : Nat} {oa : Option Addr} {cap : Nat} (hb : Below W.heap.size W w2) (hn : n = (nums a).length) (hrow : w2.ownsRow W.heap.size 3 1 (.slice oa n cap) (nums a).length (intsOf (nums a))) (q1 : W.heap[w.heap.size]? = some X) (q2 : Boxed W (w.heap.size + 1) 4 (.bool false)) (hB : Below w.heap.size w W) :
    DI w X w2.heap.size W.heap.size a (.slice oa n cap) n (((w2.alloc (.cells #[.slice oa n cap] 42 (0, 0))).alloc (.cells #[.int .u32 a] 46 (0, 0))).alloc (.cells #[.int .i64 n] 3 (0, 0))) := by
  subst hn
  have h0 := (Array.getElem?_eq_some_iff.1 q1).1
  have h2 := q2.lt
  have s2 := hb.size
  have a1 := (Boxed.new w2 42 (.slice oa (nums a).length cap)).alloc (.cells #[.int .u32 a] 46)
  have a2 := Boxed.new (w2.alloc (.cells #[.slice oa (nums a).length cap] 42)) 46 (.int .u32 a)
  have a3 := Boxed.new ((w2.alloc (.cells #[.slice oa (nums a).length cap] 42)).alloc (.cells #[.int .u32 a] 46)) 3 (.int .i64 (nums a).length)
  simp only [World.size_alloc] at a2 a3
  refine ⟨?_, ?_, a2.alloc _, a1.alloc _, a3, ((hrow.alloc _).alloc _).alloc _, ?_⟩
  · rw [Below.heap_alloc _ _ _ (by simp; omega), Below.heap_alloc _ _ _ (by simp; omega), Below.heap_alloc _ _ _ (by omega)]; exact (hb.block _ h0).trans q1
  · exact (((show Boxed w2 _ _ _ from (hb.block _ h2).trans q2).alloc _).alloc _).alloc _
  · exact (((hB.trans (hb.mono hB.size)).alloc (by omega) _).alloc (by simp; omega) _).alloc (by simp; omega) _
theorem prefix_snocI {l pre : List Int} {k j : Int} (h : pre <+: l) (hj : l[pre.length]? = some j) : (pre ++ [k]) <+: l ↔ k = j := by
  obtain ⟨rest, rfl⟩ := h
  rw [List.getElem?_append_right (Nat.le_refl _), Nat.sub_self] at hj
  cases rest with
  | nil => simp at hj
  | cons r rs =>
    simp at hj; subst hj
    rw [List.prefix_append_right_inj]
    constructor
    · rintro ⟨s, hs⟩; simpa using (List.cons.inj hs).1
    · rintro rfl; exact ⟨rs, rfl⟩
theorem downs_len (a : Nat) : (downs a).length = (nums a).length := by simp [downs]
theorem downs_get (a p : Nat) (j : Fin 64) (hp : p < (nums a).length) (hj : (nums a)[(nums a).length - p - 1]? = some j) : (downs a)[p]? = some (j.val : Int) := by
  unfold downs
  rw [List.getElem?_map, List.getElem?_reverse hp, show (nums a).length - 1 - p = (nums a).length - p - 1 by omega, hj]; rfl
def DnI (w : World) (X : Obj) (bw base a : Nat) (v : Value) (pre : List Int) (W : World) : Prop :=
  DI w X bw base a v ((nums a).length - pre.length) W ∧ pre <+: downs a
def DnX (w : World) (a : Nat) (c : Code) (pre : List Int) (W : World) : Prop :=
  c = .ret ∧ (¬ pre <+: downs a ∨ (Boxed W (w.heap.size + 1) 4 (.bool true) ∧ Below w.heap.size w W))
theorem DnI.of {w : World} {X : Obj} {bw base a m : Nat} {v : Value} {pre : List Int} {W : World} (h : DI w X bw base a v m W) (hm : (nums a).length - pre.length = m) (hp : pre <+: downs a) : DnI w X bw base a v pre W := by subst hm; exact ⟨h, hp⟩
theorem DnI.own {w : World} {X : Obj} {bw base a : Nat} {v : Value} {B : Nat} (hX : X.isCells = true) (hB : w.heap.size ≤ B) : OwnFrom B (DnI w X bw base a v) :=
  fun _ Y Z row h hg hr => ⟨DI.own hX hB () Y Z row h.1 hg hr, h.2⟩
theorem DnX.own {w : World} {a B : Nat} (hB : w.heap.size + 1 < B) (c : Code) : OwnFrom B (DnX w a c) := by
  rintro s Y Z row ⟨h1, h2 | ⟨h2, h3⟩⟩ hg hr
  · exact ⟨h1, .inl h2⟩
  · refine ⟨h1, .inr ⟨(hg.block _ h2.lt (fun e => ?_)).trans h2, h3.trans ((Below.refl _ Y).grown hg h3.size fun k e => by have := (hr k e).1; omega)⟩⟩
    have := (hr _ e.symm).1
    omega
end Go.Proofs.YtajfafckhipgeaaDoor

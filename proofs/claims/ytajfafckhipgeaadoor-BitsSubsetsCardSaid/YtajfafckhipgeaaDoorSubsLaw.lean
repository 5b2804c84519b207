/- A range over Subsets: what stands between two rounds; what each next subset must be. -/
import Derived.Test.YtajfafckhipgeaaDoorSubsM
import Derived.Test.YtajfafckhipgeaaDoorAllLaw
namespace Go.Proofs.YtajfafckhipgeaaDoor
open Go.RowKit Go.Shelf
theorem eql_fn_s (lb : Array Value) (w : World) : (binOp .eql 49 (.func (.func 50) #[] lb) .nilFunc).run Tryd.prog w = .ok (.bool false) w := by
  kernel_rfl
/-- The word told last. -/
def lastV (pre : List W64) : Nat := match pre.getLast? with
  | none => 0
  | some t => t.1
theorem lastV_snoc (pre : List W64) (t : W64) : lastV (pre ++ [t]) = t.1 := by simp [lastV]
theorem next_ok {A : Nat} (hA : A < 18446744073709551616) {pre : List W64} {t : W64} (h : (pre ++ [t]) <+: subsL (nums A)) :
    t.1 &&& (18446744073709551615 - A) = 0 ∧ (pre.length = 0 → t.1 = 0) ∧ (0 < pre.length → lastV pre < t.1) := by
  obtain ⟨r, hr⟩ := h
  have hm : t ∈ subsL (nums A) := by rw [← hr]; exact List.mem_append_left _ (List.mem_append_right _ (List.mem_singleton.2 rfl))
  refine ⟨sub_in A hA t hm, fun h0 => ?_, fun h1 => ?_⟩
  · obtain rfl : pre = [] := List.length_eq_zero_iff.1 h0
    obtain ⟨s, hs⟩ := subs_head (nums A)
    rw [hs] at hr
    have := (List.cons.inj hr).1
    rw [this]
  · have hs := subs_rise _ (sorted_nums A)
    rw [← hr, List.pairwise_append] at hs
    have h2 := (List.pairwise_append.1 hs.1).2.2
    have hne : pre ≠ [] := by intro e; rw [e] at h1; exact absurd h1 (by decide)
    have := h2 (pre.getLast hne) (List.getLast_mem hne) t (List.mem_singleton.2 rfl)
    unfold lastV
    rw [List.getLast?_eq_some_getLast hne]
    exact this
/-- What stands while the subsets are told. -/
def SI (w : World) (X : Obj) (bs A m v : Nat) (W : World) : Prop :=
  W.heap[w.heap.size]? = some X ∧ Boxed W (w.heap.size + 1) 4 (.bool false) ∧ Boxed W bs 26 (.int .u64 A) ∧ Boxed W (bs + 1) 26 (.int .u64 A) ∧ Boxed W (bs + 1 + 1) 3 (.int .i64 m) ∧ Boxed W (bs + 1 + 1 + 1) 22 (.int .u64 v) ∧ Below w.heap.size w W
theorem SI.own {w : World} {X : Obj} {bs A m v B : Nat} (hX : X.isCells = true) (hB : w.heap.size ≤ B) : OwnFrom (β := Unit) B (fun _ W => SI w X bs A m v W) := by
  rintro s Y Z row ⟨h1, h2, h3, h4, h5, h6, h8⟩ hg hr
  have hk : ∀ (b : Nat) (o : Obj), Y.heap[b]? = some o → o.isCells = true → Z.heap[b]? = some o := fun b o ho hc => by
    refine (hg.block b (Array.getElem?_eq_some_iff.1 ho).1 (fun e => ?_)).trans ho
    obtain ⟨_, o', ho', hc'⟩ := hr b e.symm
    rw [ho] at ho'; cases ho'; rw [hc] at hc'; cases hc'
  exact ⟨hk _ _ h1 hX, hk _ _ h2 rfl, hk _ _ h3 rfl, hk _ _ h4 rfl, hk _ _ h5 rfl, hk _ _ h6 rfl, h8.trans ((Below.refl _ Y).grown hg h8.size fun k e => Nat.le_trans hB (hr k e).1)⟩
theorem SI.below {w : World} {X : Obj} {bs A m v : Nat} {W W' : World} (h : SI w X bs A m v W) (hb : Below W.heap.size W W') : SI w X bs A m v W' :=
  have ⟨h1, h2, h3, h4, h5, h6, h8⟩ := h
  ⟨(hb.block _ (Array.getElem?_eq_some_iff.1 h1).1).trans h1, (hb.block _ h2.lt).trans h2, (hb.block _ h3.lt).trans h3, (hb.block _ h4.lt).trans h4, (hb.block _ h5.lt).trans h5, (hb.block _ h6.lt).trans h6, h8.trans (hb.mono h8.size)⟩
/-- The last word is written, and one more is counted. -/
theorem SI.step {w : World} {X : Obj} {bs A m v : Nat} {W : World} (h : SI w X bs A m v W) (hw : w.heap.size + 1 < bs) (v' : Nat) (z : Int) (hz : z = (m : Int) + 1) :
    SI w X bs A (m + 1) v' ((W.setCell ⟨bs + 1 + 1 + 1, 0, none⟩ (.int .u64 v')).setCell ⟨bs + 1 + 1, 0, none⟩ (.int .i64 z)) := by
  subst hz
  obtain ⟨h1, h2, h3, h4, h5, h6, h8⟩ := h
  refine ⟨(Below.heap_setCell _ _ _ _ (by show w.heap.size ≠ bs + 1 + 1; omega)).trans ((Below.heap_setCell _ _ _ _ (by show w.heap.size ≠ bs + 1 + 1 + 1; omega)).trans h1),
    (h2.other (by omega) _).other (by omega) _, (h3.other (by omega) _).other (by omega) _, (h4.other (by omega) _).other (by omega) _, ?_, (h6.set _).other (by omega) _,
    (h8.setCell (p := ⟨bs + 1 + 1 + 1, 0, none⟩) (by show w.heap.size ≤ bs + 1 + 1 + 1; omega) _).setCell (p := ⟨bs + 1 + 1, 0, none⟩) (by show w.heap.size ≤ bs + 1 + 1; omega) _⟩
  exact (h5.other (by omega) _).set (.int .i64 ((m : Int) + 1))
theorem SI.start {w w1 : World} {X : Obj} {A : Nat} (h1 : w1.heap[w.heap.size]? = some X) (h2 : Boxed w1 (w.heap.size + 1) 4 (.bool false)) (h8 : Below w.heap.size w w1) :
    SI w X w1.heap.size A 0 0 ((((w1.alloc (.cells #[.int .u64 A] 26)).alloc (.cells #[.int .u64 A] 26)).alloc (.cells #[.int .i64 0] 3)).alloc (.cells #[.int .u64 0] 22)) := by
  have l1 := (Array.getElem?_eq_some_iff.1 h1).1
  have l8 := h8.size
  have a1 := Boxed.new w1 26 (.int .u64 A)
  have a2 := Boxed.new (w1.alloc (.cells #[.int .u64 A] 26)) 26 (.int .u64 A)
  have a3 := Boxed.new ((w1.alloc (.cells #[.int .u64 A] 26)).alloc (.cells #[.int .u64 A] 26)) 3 (.int .i64 0)
  have a4 := Boxed.new (((w1.alloc (.cells #[.int .u64 A] 26)).alloc (.cells #[.int .u64 A] 26)).alloc (.cells #[.int .i64 0] 3)) 22 (.int .u64 0)
  simp only [World.size_alloc] at a2 a3 a4
  refine ⟨?_, (((h2.alloc _).alloc _).alloc _).alloc _, ((a1.alloc _).alloc _).alloc _, (a2.alloc _).alloc _, a3.alloc _, a4, ?_⟩
  · rw [Below.heap_alloc _ _ _ (by simp; omega), Below.heap_alloc _ _ _ (by simp; omega), Below.heap_alloc _ _ _ (by simp; omega), Below.heap_alloc _ _ _ (by omega)]; exact h1
  · exact (((h8.alloc (by omega) _).alloc (by simp; omega) _).alloc (by simp; omega) _).alloc (by simp; omega) _
def SbI (w : World) (X : Obj) (bs A : Nat) (pre : List W64) (W : World) : Prop := SI w X bs A pre.length (lastV pre) W ∧ pre.length < 1100
def SbX (w : World) (X : Obj) (bs A : Nat) (c : Code) (pre : List W64) (W : World) : Prop :=
  (c = .exit 0 ∧ SI w X bs A pre.length (lastV pre) W ∧ pre.length = 1100) ∨ (c = .ret ∧ ¬ pre <+: subsL (nums A))
theorem SbI.own {w : World} {X : Obj} {bs A B : Nat} (hX : X.isCells = true) (hB : w.heap.size ≤ B) : OwnFrom B (SbI w X bs A) :=
  fun _ Y Z row h hg hr => ⟨SI.own hX hB () Y Z row h.1 hg hr, h.2⟩
theorem SbX.own {w : World} {X : Obj} {bs A B : Nat} (hX : X.isCells = true) (hB : w.heap.size ≤ B) (c : Code) : OwnFrom B (SbX w X bs A c) :=
  fun _ Y Z row h hg hr => h.elim (fun h => .inl ⟨h.1, SI.own hX hB () Y Z row h.2.1 hg hr, h.2.2⟩) .inr
end Go.Proofs.YtajfafckhipgeaaDoor

/- AgendaSorts: the law's walk as far as Due. -/
import Derived.Test.YtmjdecgijnodhaaGSortS
import Derived.Deep.DeepCutAuto
import Derived.Deep.CutBlock
import Derived.Deep.RegionHeld3
import Derived.Deep.OwnRows
import Derived.Laws.MakeOwn
import Derived.Laws.OwnMore
namespace Go.Proofs.Ytmjdecgijnodhaa
open Go.RowKit Go.Maps
theorem makeI (m : Nat) (hm : m ≤ 200) (W : World) : (Instr.makeSlice 51 (.int .i64 (m : Int)) (.int .i64 (m : Int))).run Try.prog W = .ok (.slice (some ⟨W.heap.size, 0, none⟩) m m) (W.alloc (.cells (madeCells #[.int .i64 0] m) 3)) := by
  obtain ⟨i, hi, hz, hs, hb⟩ := info_parts infoI
  have hr := run_make (P := Try.prog) W 51 3 i _ Try.underlying51 hi hz .i64 .i64 m m (by omega) (Int.le_refl _) (by rw [hb]; omega) (by omega)
  simp only [Int.toNat_natCast, hs, Nat.mul_one] at hr
  exact hr
theorem cellsW_zero (m : Nat) : cellsW (fun _ => 0) m = List.replicate m (.int .i64 0) := by
  apply List.ext_getElem?
  intro i
  by_cases h : i < m
  · rw [cellsW_at _ h]; simp [h]
  · rw [List.getElem?_eq_none (by simp [cellsW]; omega), List.getElem?_eq_none (by simp; omega)]
theorem made_ints (W : World) (m : Nat) (hm : m ≤ 200) : (W.alloc (.cells (madeCells #[.int .i64 0] m) 3)).ownsRow 0 3 1 (.slice (some ⟨W.heap.size, 0, none⟩) m m) m (cellsW (fun _ => 0) m) :=
  ⟨by simp [cellsW], .inr ⟨W.heap.size, m, _, rfl, Nat.zero_le _, heap_newG _ _, Nat.le_refl _, by unfold maxLen; omega, by rw [size_madeCells, Nat.mul_one], by rw [toList_madeCells_one, Nat.mul_one, cellsW_zero, List.take_of_length_le (by simp)]⟩⟩
theorem alloc4 (w : World) (a b c d : Value) (t : TypeId) : (w.alloc (.cells #[a, b, c, d] t)).cell? ⟨w.heap.size, 0, none⟩ = some a ∧ (w.alloc (.cells #[a, b, c, d] t)).cell? ⟨w.heap.size, 1, none⟩ = some b ∧ (w.alloc (.cells #[a, b, c, d] t)).cell? ⟨w.heap.size, 2, none⟩ = some c ∧ (w.alloc (.cells #[a, b, c, d] t)).cell? ⟨w.heap.size, 3, none⟩ = some d := by
  have h := heap_newG w (.cells #[a, b, c, d] t)
  simp only [World.cell?, h]
  exact ⟨rfl, rfl, rfl, rfl⟩
/-- The agenda, new, and the row of what was set when. -/
theorem srt_start {w W0 W1 W2 : World} {T : Nat → Int} {N : Nat} (hN : N ≤ 200) (hw : Below w.heap.size w W0) (hA : AgS W1 (W0.heap.size + 1) (fun k => W0.heap.size ≤ k ∧ k < W0.heap.size + 2) (fun _ => False) 0 0) (hb1 : Below W0.heap.size W0 W1) (hb2 : Below W1.heap.size W1 W2) :
    SrtI w (W2.alloc (.cells (madeCells #[.int .i64 0] N) 3)) (W0.heap.size + 1) W2.heap.size N T (fun _ => 0) 0 0 (fun k => W0.heap.size ≤ k ∧ k < W0.heap.size + 2) := by
  have z0 := hw.size
  have z1 := hb1.size
  have z2 := hb2.size
  have hlt := hA.ltF.1
  have e : ∀ x, SN T (fun _ => 0) 0 x ↔ False := fun x => ⟨fun ⟨i, hi, _⟩ => by omega, fun h => h.elim⟩
  refine ⟨((hA.below hb2).below ((Below.refl _ _).alloc (Nat.le_refl _) _)).congr e, made_ints W2 N hN, fun h => ?_, fun k h => by have := h.1; omega, by omega, ((hw.trans (hb1.mono z0)).trans (hb2.mono (by omega))).alloc (by omega) _⟩
  have := hlt (W0.heap.size + 1) ⟨by omega, by omega⟩
  have := h.2
  omega
/-- Every cell of an argument's row. -/
def ArgR (w : World) (oa : Option Addr) (T : Nat → Int) (N : Nat) : Prop := ∀ W, Below w.heap.size w W → ∀ i, i < N → ∃ g o, oa = some ⟨g, o, none⟩ ∧ W.cell? ⟨g, o + i, none⟩ = some (.int .i64 (T i))
theorem argR {w : World} {oa : Option Addr} {n cap : Nat} {l : List Int} (h : RowG w (.slice oa n cap) l) : n = l.length ∧ ArgR w oa (fun i => l.getD i 0) l.length := by
  obtain ⟨oa', cap', e, h1, h2⟩ := h
  cases e
  refine ⟨rfl, fun W hW i hi => ?_⟩
  obtain ⟨g, o, e1, e2⟩ := h2 i (l.getD i 0) (by rw [List.getD_eq_getElem?_getD, List.getElem?_eq_getElem hi]; rfl)
  exact ⟨g, o, e1, (hW.cell (p := ⟨g, o + i, none⟩) (cell_lt e2)).trans e2⟩
theorem tmod_lo (z : Int) (N : Nat) (hN : 0 < N) : -(N : Int) < z.tmod N ∧ z.tmod N < N := by
  have h := Int.natAbs_tmod z N
  have h2 : (z.tmod N).natAbs < N := by rw [h]; simp; exact Nat.mod_lt _ hN
  omega
end Go.Proofs.Ytmjdecgijnodhaa
namespace Go.Proofs.Ytmjdecgijnodhaa
open Go.RowKit Go.Maps
theorem wfN (c : Nat) (h : c ≤ 1000000) : (Lit.int .i64 (c : Int)).wf = true := by simp [Lit.wf, IntKind.min, IntKind.max, IntKind.signed, IntKind.bits]; omega
theorem ArgR.less {w : World} {oa : Option Addr} {T : Nat → Int} {n m : Nat} (h : ArgR w oa T n) (hm : m ≤ n) : ArgR w oa T m := fun W hW i hi => h W hW i (by omega)
theorem AgS.turn {w : World} {a n sets : Nat} {F : Nat → Prop} {S : Ent → Prop} (H : AgS w a F S n sets) {x y : Ent} (hx : S x) (hy : S y) (e : x.turn = y.turn) : x = y := by
  obtain ⟨h, rowv, mb, D, HA, hS, _⟩ := H
  obtain ⟨i, hi, rfl⟩ := (hS x).1 hx
  obtain ⟨j, hj, rfl⟩ := (hS y).1 hy
  rw [HA.dist i j hi hj e]
theorem rowE {W : World} {base : Nat} {oa : Option Addr} {l cap : Nat} {L : List Ent} (h : W.ownsRow base 3 1 (.slice oa l cap) l (cellsE L)) : ∀ (c : Nat) (x : Ent), L[c]? = some x → ∃ g, oa = some ⟨g, 0, none⟩ ∧ ∀ W2 : World, (∀ k : Nat, k < W.heap.size → W2.heap[k]? = W.heap[k]?) → W2.cell? ⟨g, c, none⟩ = some (.int .i64 x.id) := fun c x hx => by
  have hl := h.1
  have hc : c < L.length := (List.getElem?_eq_some_iff.1 hx).1
  have e0 : (cellsE L).length = L.length := by simp [cellsE]
  rcases h.2 with ⟨h1, h2⟩ | ⟨g, cap', cur, h1, _⟩
  · omega
  · cases h1
    refine ⟨g, rfl, fun W2 hW2 => ?_⟩
    have := h.cellAt c (by omega)
    rw [show (cellsE L)[c]? = some (.int .i64 x.id) by simp [cellsE, hx]] at this
    have hlt : g < W.heap.size := cell_lt this
    simp only [World.cell?] at this ⊢
    rw [hW2 g hlt]
    exact this
/-- What a place of the answer of Due tells. -/
structure AtL (T : Nat → Int) (Wf : Nat → Nat) (N : Nat) (now : Int) (S' : Ent → Prop) (x : Ent) (i : Nat) : Prop where
  lt : i < N
  eq : x = ⟨(i : Int), T i, ((Wf i : Nat) : Int) + 1⟩
  due : T i ≤ now
  out : ¬ ∃ y, S' y ∧ y.id = (i : Int)
theorem taken_at {now : Int} {T : Nat → Int} {Wf : Nat → Nat} {N : Nat} {L : List Ent} {S' : Ent → Prop} (h : Taken now (SN T Wf N) L S') {c : Nat} {x : Ent} (hx : L[c]? = some x) : ∃ i, AtL T Wf N now S' x i := by
  have hm := List.mem_of_getElem? hx
  obtain ⟨⟨i, hi, e⟩, hdue, hout⟩ := h.sub.2.1 x hm
  subst e
  exact ⟨i, hi, rfl, hdue, fun ⟨y, hy, e⟩ => hout y hy e⟩
theorem taken_pair {w : World} {a sets : Nat} {F : Nat → Prop} {now : Int} {T : Nat → Int} {Wf : Nat → Nat} {N : Nat} {L : List Ent} {S' : Ent → Prop} (hA : AgS w a F (SN T Wf N) N sets) (h : Taken now (SN T Wf N) L S') {c i j : Nat} {x y : Ent} (hx : L[c]? = some x) (hy : L[c + 1]? = some y) (ax : AtL T Wf N now S' x j) (ay : AtL T Wf N now S' y i) : T j < T i ∨ (T j = T i ∧ Wf j < Wf i) := by
  have hs := h.sorted c x y hx hy
  have hnd := h.nodup
  have sx : SN T Wf N x := ⟨j, ax.lt, ax.eq⟩
  have sy : SN T Wf N y := ⟨i, ay.lt, ay.eq⟩
  have hne : x ≠ y := fun e => by
    subst e
    have h1 : (L.map (·.id))[c]? = some x.id := by simp [hx]
    have h2 : (L.map (·.id))[c + 1]? = some x.id := by simp [hy]
    obtain ⟨l1, e1⟩ := List.getElem?_eq_some_iff.1 h1
    obtain ⟨l2, e2⟩ := List.getElem?_eq_some_iff.1 h2
    have := (List.getElem_inj hnd).1 (e1.trans e2.symm)
    omega
  have hturn : x.turn ≠ y.turn := fun e => hne (hA.turn sx sy e)
  rw [ax.eq, ay.eq] at hturn
  rw [ax.eq, ay.eq] at hs
  unfold ltE at hs
  simp only at hs hturn
  omega
theorem taken_last {w : World} {a sets : Nat} {F : Nat → Prop} {now : Int} {T : Nat → Int} {Wf : Nat → Nat} {N : Nat} {L : List Ent} {S' : Ent → Prop} (hA : AgS w a F (SN T Wf N) N sets) (h : Taken now (SN T Wf N) L S') {c i j : Nat} {x y : Ent} (hx : L[c]? = some x) (hc : c + 1 = L.length) (ax : AtL T Wf N now S' x j) (hy : S' y) (hi : i < N) (ey : y = ⟨(i : Int), T i, ((Wf i : Nat) : Int) + 1⟩) : T j < T i ∨ (T j = T i ∧ Wf j < Wf i) := by
  have hs := h.last (x := x) (by rw [List.getLast?_eq_getElem?, ← hc]; exact hx) y hy
  have sx : SN T Wf N x := ⟨j, ax.lt, ax.eq⟩
  have sy : SN T Wf N y := ⟨i, hi, ey⟩
  have hne : x ≠ y := fun e => by
    subst e
    exact ax.out ⟨x, hy, by rw [ax.eq]⟩
  have hturn : x.turn ≠ y.turn := fun e => hne (hA.turn sx sy e)
  rw [ax.eq, ey] at hturn
  rw [ax.eq, ey] at hs
  unfold ltE at hs
  simp only at hs hturn
  omega
/-- What stands behind Due. -/
structure DueI (w W : World) (a gw N D l n : Nat) (T : Nat → Int) (Wf : Nat → Nat) (now most : Int) (S' : Ent → Prop) (L : List Ent) (oa : Option Addr) (cap : Nat) (F : Nat → Prop) (sets : Nat) : Prop where
  ag : AgS W a F S' n sets
  ll : L.length = l
  row : ∀ (c : Nat) (x : Ent), L[c]? = some x → ∃ g, oa = some ⟨g, 0, none⟩ ∧ ∀ W2 : World, (∀ k : Nat, k < W.heap.size → W2.heap[k]? = W.heap[k]?) → W2.cell? ⟨g, c, none⟩ = some (.int .i64 x.id)
  whn : ∀ i, i < N → ∀ W2 : World, (∀ k : Nat, k < W.heap.size → W2.heap[k]? = W.heap[k]?) → W2.cell? ⟨gw, i, none⟩ = some (.int .i64 ((Wf i : Nat) : Int))
  taken : Taken now (SN T Wf N) L S'
  pair : ∀ (c : Nat) (x y : Ent) (i j : Nat), L[c]? = some x → L[c + 1]? = some y → AtL T Wf N now S' x j → AtL T Wf N now S' y i → T j < T i ∨ (T j = T i ∧ Wf j < Wf i)
  last : ∀ (c : Nat) (x y : Ent) (i j : Nat), L[c]? = some x → c + 1 = l → AtL T Wf N now S' x j → S' y → i < N → y = ⟨(i : Int), T i, ((Wf i : Nat) : Int) + 1⟩ → T j < T i ∨ (T j = T i ∧ Wf j < Wf i)
  num : N = l + n ∧ l ≤ D ∧ D ≤ N
  want : (most < (D : Int) → (most = l ∨ (most < 0 ∧ l = 0))) ∧ ((D : Int) ≤ most → l = D)
  rest : D ≤ l → ∀ x, S' x → now < x.tm
  bel : Below w.heap.size w W
theorem due_of {w W W' : World} {a gw N sets : Nat} {T : Nat → Int} {Wf : Nat → Nat} {F : Nat → Prop} {now most : Int} {e : Ending} (hI : SrtI w W a gw N T Wf N sets F) (hP : DuePost a N F (SN T Wf N) sets now most W e W') :
    ∃ L S' F' n l oa cap, e = .returned (.slice oa l cap) ∧ DueI w W' a gw N (dueN T now N) l n T Wf now most S' L oa cap F' sets := by
  obtain ⟨L, S', F', n', v, rfl, hT, hrow, hA, hM, hF', hn, hmo, hen⟩ := hP
  obtain ⟨oa, cap, rfl⟩ := own_shapeG hrow
  have h1 := taken_le hT
  have h2 := dueN_le T now N
  have hb := hM.toBelow hI.own hI.bel.size
  have hgl : gw < W.heap.size := (hI.row.lt gw rfl).2
  have hrw : W'.ownsRow 0 3 1 (.slice (some ⟨gw, 0, none⟩) N N) N (cellsW Wf N) := owns_same hI.row fun k hk ek => hM.block k hk (fun x => hI.far (by cases ek; exact x))
  have hend : most ≤ (L.length : Int) ∨ dueN T now N ≤ L.length := by
    rcases hen with h | h | ⟨x, hx, hlt⟩
    · exact .inl h
    · refine .inr (taken_all hT fun x hx => ?_)
      obtain ⟨hh, rowv, mb, D, HA, hS, _⟩ := hA
      obtain ⟨k, hk, _⟩ := (hS x).1 hx
      omega
    · refine .inr (taken_all hT fun y hy => ?_)
      have := hx.2 y hy
      unfold ltE at this
      omega
  refine ⟨L, S', F', n', L.length, oa, cap, rfl, hA, rfl, rowE hrow, fun i hi W2 hW2 => ?_, hT, fun c x y i j hx hy ax ay => taken_pair hI.ag hT hx hy ax ay, fun c x y i j hx hc ax hy hi ey => taken_last hI.ag hT hx hc ax hy hi ey, ⟨hn, h1, h2⟩, ⟨fun h => ?_, fun h => ?_⟩, taken_rest hT, hI.bel.trans hb⟩
  · have := hrw.cellAt i (by omega)
    rw [cellsW_at _ hi] at this
    have hz := hM.size
    simp only [World.cell?] at this ⊢
    rw [hW2 gw (by omega)]
    exact this
  · rcases hmo with h3 | h3
    · left; omega
    · rw [h3] at hend ⊢
      simp at hend ⊢
      omega
  · rcases hend with h3 | h3 <;> omega
end Go.Proofs.Ytmjdecgijnodhaa

/- A run as it lies. -/
import Derived.Test.YtahfobbiaimoiaaGreatDoorJ07
import Derived.Test.YtahfobbiaimoiaaGreatDoorJ11
import Derived.Test.YtahfobbiaimoiaaGreatDoorJ12
namespace Go.Proofs.YtahfobbiaimoiaaGreatDoor
open Go.RowKit
/-- What is asked of an element's kind. -/
structure ElT (T E : TypeId) (size bytes : Nat) : Prop where
  ut : Tryz.prog.underlying T = some (.slice E)
  inf : ∃ i z, Tryz.prog.info? E = some i ∧ i.zero = some z ∧ i.size = size ∧ i.bytes = bytes ∧ z.cells.size = size
  sz : 0 < size
  by' : bytes ≤ 1000
theorem ElT.mk' {T E : TypeId} {z : Value} {size bytes : Nat} (hu : Tryz.prog.underlying T = some (.slice E)) (h : (Tryz.prog.info? E).map (fun i => (i.zero, i.size, i.bytes)) = some (some z, size, bytes)) (hz : z.cells.size = size) (hs : 0 < size) (hb : bytes ≤ 1000) : ElT T E size bytes := by
  obtain ⟨i, h1, h2, h3, h4⟩ := O.info_q h
  exact ⟨hu, ⟨i, z, h1, h2, h3, h4, hz⟩, hs, hb⟩
theorem run_app1 {T E : TypeId} {size bytes : Nat} (k : ElT T E size bytes) (ot : TypeId) (B : Nat) (W : World) (v : Value) (n : Nat) (xs news : List Value) (hT : W.ownsRow B E size v n xs) (hl : news.length = size) (h1 : ∀ u ∈ news, u.oneCell' = true) (hB : B ≤ W.heap.size) (hn : n ≤ 1000000) :
    ∃ oa cap w2, w2.ownsRow B E size (.slice oa (n + 1) cap) (n + 1) (xs ++ news) ∧ W.grownBy w2 v.ownBlock ∧ (Builtin.append_ #[T, T] ot #[v, .slice (some ⟨W.heap.size, 0, none⟩) 1 1]).run Tryz.prog (W.alloc (.cells news.toArray E)) = .ok (.slice oa (n + 1) cap) w2 := by
  obtain ⟨i, z, h2, h3, h4, h5, h6⟩ := k.inf
  have hb := k.by'
  obtain ⟨v', w', hr, e2, e3, _⟩ := run_append_own (P := Tryz.prog) (W.alloc (.cells news.toArray E)) B T ot E i z size bytes k.ut h2 h3 h4 h5 h6 k.sz v n xs (hT.alloc _) ⟨W.heap.size, 0, none⟩ 1 1 news (by omega) (World.news_of_block (cs := news.toArray) (heap_new _ _)) h1 (by unfold maxLen; omega) (Nat.le_trans (Nat.mul_le_mul (show n + 1 ≤ 1000001 by omega) hb) (by omega)) (by simp; omega)
  obtain ⟨oa, cap, rfl⟩ := own_shp e2
  exact ⟨oa, cap, w', e2, O.grown_trans (O.grown_below _ ((Below.refl _ W).alloc (Nat.le_refl _) _)) e3, hr⟩
set_option maxRecDepth 10000 in
theorem app1 {ops : Array Oper} {rest : List Oper} {o : Oper} {a : Act} {Q : Exit → Act → World → Prop} {T E : TypeId} {size bytes : Nat} (k : ElT T E size bytes) (hgd : o.guard = none) (s x : Operand) (ho : o.op = .call { callee := .builtin .append, args := #[s, x], argTypes := #[T, T] }) (B : Nat) (W : World) (v : Value) (n : Nat) (xs news : List Value)
    (es : a.eval s = v) (ex : a.eval x = .slice (some ⟨W.heap.size, 0, none⟩) 1 1) (hT : W.ownsRow B E size v n xs) (hl : news.length = size) (h1 : ∀ u ∈ news, u.oneCell' = true) (hB : B ≤ W.heap.size) (hn : n ≤ 1000000)
    (hK : ∀ oa cap w2, w2.ownsRow B E size (.slice oa (n + 1) cap) (n + 1) (xs ++ news) → W.grownBy w2 v.ownBlock → wpList Tryz.prog ops Q rest (a.put o.dst (.slice oa (n + 1) cap)) w2) : wpList Tryz.prog ops Q (o :: rest) a (W.alloc (.cells news.toArray E)) := by
  obtain ⟨oa, cap, w2, e1, e2, hr⟩ := run_app1 k o.type B W v n xs news hT hl h1 hB hn
  refine wpList_plain hgd fun _ hK2 => ?_
  unfold Oper.wp execOp
  simp only [ho, resolve, invoke, builtin, Sem.run_bind, Sem.run_pure, Result.andThen_ok, List.map_toArray, List.map_cons, List.map_nil, es, ex, hr]
  exact hK2 _ _ (hK oa cap w2 e1 e2)
set_option maxRecDepth 10000 in
theorem app1w {o : Oper} {a : Act} {K : Act → World → Prop} {Q : Exit → Act → World → Prop} {T E : TypeId} {size bytes : Nat} (k : ElT T E size bytes) (s x : Operand) (ho : o.op = .call { callee := .builtin .append, args := #[s, x], argTypes := #[T, T] }) (B : Nat) (W : World) (v : Value) (n : Nat) (xs news : List Value)
    (es : a.eval s = v) (ex : a.eval x = .slice (some ⟨W.heap.size, 0, none⟩) 1 1) (hT : W.ownsRow B E size v n xs) (hl : news.length = size) (h1 : ∀ u ∈ news, u.oneCell' = true) (hB : B ≤ W.heap.size) (hn : n ≤ 1000000)
    (hK : ∀ oa cap w2, w2.ownsRow B E size (.slice oa (n + 1) cap) (n + 1) (xs ++ news) → W.grownBy w2 v.ownBlock → K (a.put o.dst (.slice oa (n + 1) cap)) w2) : o.wp Tryz.prog a (W.alloc (.cells news.toArray E)) K Q := by
  obtain ⟨oa, cap, w2, e1, e2, hr⟩ := run_app1 k o.type B W v n xs news hT hl h1 hB hn
  unfold Oper.wp execOp
  simp only [ho, resolve, invoke, builtin, Sem.run_bind, Sem.run_pure, Result.andThen_ok, List.map_toArray, List.map_cons, List.map_nil, es, ex, hr]
  exact hK oa cap w2 e1 e2
theorem run_app1L {T E : TypeId} {size bytes : Nat} (k : ElT T E size bytes) (ot : TypeId) (B : Nat) (W : World) (v : Value) (n : Nat) (xs news : List Value) (hT : W.ownsRow B E size v n xs) (hl : news.length = size) (h1 : ∀ u ∈ news, u.oneCell' = true) (hB : B ≤ W.heap.size) (hn : n ≤ 1000000) :
    ∃ g cap w2, w2.ownsRow B E size (.slice (some ⟨g, 0, none⟩) (n + 1) cap) (n + 1) (xs ++ news) ∧ W.grownBy w2 v.ownBlock ∧ (v.ownBlock = some g ∨ W.heap.size ≤ g) ∧ (Builtin.append_ #[T, T] ot #[v, .slice (some ⟨W.heap.size, 0, none⟩) 1 1]).run Tryz.prog (W.alloc (.cells news.toArray E)) = .ok (.slice (some ⟨g, 0, none⟩) (n + 1) cap) w2 := by
  obtain ⟨i, z, h2, h3, h4, h5, h6⟩ := k.inf
  have hb := k.by'
  obtain ⟨g, cap, w', hr, e2, e3, e4, _⟩ := run_append_lies (P := Tryz.prog) (W.alloc (.cells news.toArray E)) T ot B E i z size bytes k.ut h2 h3 h4 h5 h6 k.sz v n xs (hT.alloc _) ⟨W.heap.size, 0, none⟩ 1 1 news (by omega) (World.news_of_block (cs := news.toArray) (heap_new _ _)) h1 (by decide) (by unfold maxLen; omega) (Nat.le_trans (Nat.mul_le_mul (show n + 1 ≤ 1000001 by omega) hb) (by omega)) (by simp; omega) _ rfl
  refine ⟨g, cap, w', e2, O.grown_trans (O.grown_below _ ((Below.refl _ W).alloc (Nat.le_refl _) _)) e3, ?_, hr⟩
  rcases e4 with e4 | e4
  · exact .inl e4
  · exact .inr (by rw [e4]; simp)
set_option maxRecDepth 10000 in
theorem app1L {ops : Array Oper} {rest : List Oper} {o : Oper} {a : Act} {Q : Exit → Act → World → Prop} {T E : TypeId} {size bytes : Nat} (k : ElT T E size bytes) (hgd : o.guard = none) (s x : Operand) (ho : o.op = .call { callee := .builtin .append, args := #[s, x], argTypes := #[T, T] }) (B : Nat) (W : World) (v : Value) (n : Nat) (xs news : List Value)
    (es : a.eval s = v) (ex : a.eval x = .slice (some ⟨W.heap.size, 0, none⟩) 1 1) (hT : W.ownsRow B E size v n xs) (hl : news.length = size) (h1 : ∀ u ∈ news, u.oneCell' = true) (hB : B ≤ W.heap.size) (hn : n ≤ 1000000)
    (hK : ∀ g cap w2, w2.ownsRow B E size (.slice (some ⟨g, 0, none⟩) (n + 1) cap) (n + 1) (xs ++ news) → W.grownBy w2 v.ownBlock → (v.ownBlock = some g ∨ W.heap.size ≤ g) → wpList Tryz.prog ops Q rest (a.put o.dst (.slice (some ⟨g, 0, none⟩) (n + 1) cap)) w2) : wpList Tryz.prog ops Q (o :: rest) a (W.alloc (.cells news.toArray E)) := by
  obtain ⟨g, cap, w2, e1, e2, e3, hr⟩ := run_app1L k o.type B W v n xs news hT hl h1 hB hn
  refine wpList_plain hgd fun _ hK2 => ?_
  unfold Oper.wp execOp
  simp only [ho, resolve, invoke, builtin, Sem.run_bind, Sem.run_pure, Result.andThen_ok, List.map_toArray, List.map_cons, List.map_nil, es, ex, hr]
  exact hK2 _ _ (hK g cap w2 e1 e2 e3)
set_option maxRecDepth 10000 in
theorem app1Lw {o : Oper} {a : Act} {K : Act → World → Prop} {Q : Exit → Act → World → Prop} {T E : TypeId} {size bytes : Nat} (k : ElT T E size bytes) (s x : Operand) (ho : o.op = .call { callee := .builtin .append, args := #[s, x], argTypes := #[T, T] }) (B : Nat) (W : World) (v : Value) (n : Nat) (xs news : List Value)
    (es : a.eval s = v) (ex : a.eval x = .slice (some ⟨W.heap.size, 0, none⟩) 1 1) (hT : W.ownsRow B E size v n xs) (hl : news.length = size) (h1 : ∀ u ∈ news, u.oneCell' = true) (hB : B ≤ W.heap.size) (hn : n ≤ 1000000)
    (hK : ∀ g cap w2, w2.ownsRow B E size (.slice (some ⟨g, 0, none⟩) (n + 1) cap) (n + 1) (xs ++ news) → W.grownBy w2 v.ownBlock → (v.ownBlock = some g ∨ W.heap.size ≤ g) → K (a.put o.dst (.slice (some ⟨g, 0, none⟩) (n + 1) cap)) w2) : o.wp Tryz.prog a (W.alloc (.cells news.toArray E)) K Q := by
  obtain ⟨g, cap, w2, e1, e2, e3, hr⟩ := run_app1L k o.type B W v n xs news hT hl h1 hB hn
  unfold Oper.wp execOp
  simp only [ho, resolve, invoke, builtin, Sem.run_bind, Sem.run_pure, Result.andThen_ok, List.map_toArray, List.map_cons, List.map_nil, es, ex, hr]
  exact hK g cap w2 e1 e2 e3
theorem own_le {w : World} {B : Nat} {e : TypeId} {size : Nat} {v : Value} {n : Nat} {xs : List Value} (h : w.ownsRow B e size v n xs) {m : Nat} (hm : m ≤ B) : ∀ g, v.ownBlock = some g → m ≤ g := fun _ hg => Nat.le_trans hm (own_ge' h hg)
theorem below_of_grown {W w2 : World} {B : Nat} {r : Option Nat} (h : W.grownBy w2 r) (hB : B ≤ W.heap.size) (hr : ∀ g, r = some g → B ≤ g) : Below B W w2 := (Below.refl B W).grown h hB hr
theorem elP : ElT 58 93 2 16 := ElT.mk' Tryz.underlying58 O.infoP rfl (by decide) (by decide)
end Go.Proofs.YtahfobbiaimoiaaGreatDoor
namespace Go.Proofs.YtahfobbiaimoiaaGreatDoor
open Go.RowKit
def sscells (s : SS) : List Value := [.int .i64 s.st, .int .i64 s.us, .int .i64 s.ca, .int .i64 s.da]
def cellsSS (S : List SS) : List Value := S.flatMap sscells
def evcells (e : Ev) : List Value := [.int .i64 e.tick, .int .i64 e.kind, .int .i64 e.step, .int .i64 e.user]
def cellsEv (L : List Ev) : List Value := L.flatMap evcells
theorem four_at {α : Type} (f : α → List Value) (hf : ∀ a, (f a).length = 4) : ∀ (L : List α) (i j : Nat), j < 4 → (L.flatMap f)[i * 4 + j]? = L[i]?.bind fun t => (f t)[j]?
  | [], i, j, _ => by simp
  | a :: l, 0, j, hj => by
    have e : (a :: l).flatMap f = f a ++ l.flatMap f := by simp
    rw [e, List.getElem?_append_left (by rw [hf]; omega)]
    simp
  | a :: l, i + 1, j, hj => by
    have h := four_at f hf l i j hj
    have e : (a :: l).flatMap f = f a ++ l.flatMap f := by simp
    rw [e, List.getElem?_append_right (by rw [hf]; omega), hf, show (i + 1) * 4 + j - 4 = i * 4 + j by omega, List.getElem?_cons_succ]
    exact h
theorem four_len {α : Type} (f : α → List Value) (hf : ∀ a, (f a).length = 4) : ∀ L : List α, (L.flatMap f).length = L.length * 4
  | [] => rfl
  | a :: l => by
    have := four_len f hf l
    simp only [List.flatMap_cons, List.length_append, List.length_cons, hf, this]
    omega
theorem four_set {α : Type} (f : α → List Value) (hf : ∀ a, (f a).length = 4) (L : List α) (i : Nat) (x : α) (M : List Value) (hM : M.length = L.length * 4) (h1 : ∀ j, j < 4 → i < L.length → M[i * 4 + j]? = (f x)[j]?) (h2 : ∀ k, (k < i * 4 ∨ i * 4 + 4 ≤ k) → M[k]? = (L.flatMap f)[k]?) : M = (L.set i x).flatMap f := by
  apply List.ext_getElem?
  intro k
  by_cases hk : k < i * 4 ∨ i * 4 + 4 ≤ k
  · rw [h2 k hk]
    have e : k = (k / 4) * 4 + k % 4 := by omega
    rw [e, four_at f hf L _ _ (by omega), four_at f hf _ _ _ (by omega), List.getElem?_set]
    have : ¬ i = k / 4 := by omega
    rw [if_neg this]
  · have hj : ∃ j, j < 4 ∧ k = i * 4 + j := ⟨k - i * 4, by omega, by omega⟩
    obtain ⟨j, hj, rfl⟩ := hj
    rw [four_at f hf _ _ _ hj, List.getElem?_set, if_pos rfl]
    by_cases hi : i < L.length
    · rw [if_pos hi, h1 j hj hi]; rfl
    · rw [if_neg hi]
      exact List.getElem?_eq_none (by omega)
theorem sscells_len (s : SS) : (sscells s).length = 4 := rfl
theorem evcells_len (s : Ev) : (evcells s).length = 4 := rfl
theorem elS : ElT 38 42 4 32 := ElT.mk' (z := .agg #[.int .i64 0, .int .i64 0, .int .i64 0, .int .i64 0]) Tryz.underlying38 (by kernel_rfl) rfl (by decide) (by decide)
theorem elE : ElT 26 76 4 32 := ElT.mk' (z := .agg #[.int .i64 0, .int .i64 0, .int .i64 0, .int .i64 0]) Tryz.underlying26 (by kernel_rfl) rfl (by decide) (by decide)
/-- A run at the block gr, its steps' states at gt. -/
structure RnAt (W : World) (B gr gt : Nat) (nm : ByteArray) (sv rv : Value) (go ct : Nat) (lv : Value) (R : Rs) : Prop where
  ob : W.heap[gr]? = some (.cells #[.string nm, sv, rv, .pointer (some ⟨go, 0, none⟩), .slice (some ⟨gt, 0, none⟩) R.S.length ct, .int .i64 R.stat, lv] 106 (0, 0))
  st : W.ownsRow B 42 4 (.slice (some ⟨gt, 0, none⟩) R.S.length ct) R.S.length (cellsSS R.S)
  lg : W.ownsRow B 76 4 lv R.log.length (cellsEv R.log)
section
variable {W W' : World} {B gr gt : Nat} {nm : ByteArray} {sv rv : Value} {go ct : Nat} {lv : Value} {R : Rs}
theorem RnAt.lt (h : RnAt W B gr gt nm sv rv go ct lv R) : gr < W.heap.size := (Array.getElem?_eq_some_iff.1 h.ob).1
theorem RnAt.gt_lt (h : RnAt W B gr gt nm sv rv go ct lv R) : gt < W.heap.size := own_lt' h.st rfl
theorem RnAt.gt_ge (h : RnAt W B gr gt nm sv rv go ct lv R) : B ≤ gt := own_ge' h.st rfl
theorem RnAt.kept (h : RnAt W B gr gt nm sv rv go ct lv R) (hk : ∀ k, k < W.heap.size → k = gr ∨ k = gt ∨ lv.ownBlock = some k → W'.heap[k]? = W.heap[k]?) : RnAt W' B gr gt nm sv rv go ct lv R :=
  ⟨(hk gr h.lt (.inl rfl)).trans h.ob, own_same h.st fun g hg e => hk g hg (.inr (.inl (by cases e; rfl))), own_same h.lg fun g hg e => hk g hg (.inr (.inr e))⟩
theorem RnAt.over (h : RnAt W B gr gt nm sv rv go ct lv R) (hb : Below W.heap.size W W') : RnAt W' B gr gt nm sv rv go ct lv R := h.kept fun k hk _ => hb.block k hk
theorem RnAt.c3 (h : RnAt W B gr gt nm sv rv go ct lv R) : W.cell? ⟨gr, 3, none⟩ = some (.pointer (some ⟨go, 0, none⟩)) := by simp [World.cell?, h.ob]
theorem RnAt.c4 (h : RnAt W B gr gt nm sv rv go ct lv R) : W.cell? ⟨gr, 4, none⟩ = some (.slice (some ⟨gt, 0, none⟩) R.S.length ct) := by simp [World.cell?, h.ob]
theorem RnAt.c5 (h : RnAt W B gr gt nm sv rv go ct lv R) : W.cell? ⟨gr, 5, none⟩ = some (.int .i64 R.stat) := by simp [World.cell?, h.ob]
theorem RnAt.c6 (h : RnAt W B gr gt nm sv rv go ct lv R) : W.cell? ⟨gr, 6, none⟩ = some lv := by simp [World.cell?, h.ob]
theorem RnAt.frz (h : RnAt W B gr gt nm sv rv go ct lv R) (i : Nat) : W.frozen? ⟨gr, i, none⟩ = false := by simp [World.frozen?, h.ob]
theorem RnAt.cap (h : RnAt W B gr gt nm sv rv go ct lv R) : R.S.length ≤ ct := by
  rcases h.st.2 with ⟨e, _⟩ | ⟨g, cap, cur, e, _, _, hcap, _⟩
  · cases e
  · cases e; exact hcap
/-- A step's four cells. -/
theorem RnAt.at (h : RnAt W B gr gt nm sv rv go ct lv R) {i : Nat} {s : SS} (hs : R.S[i]? = some s) : W.cell? ⟨gt, i * 4, none⟩ = some (.int .i64 s.st) ∧ W.cell? ⟨gt, i * 4 + 1, none⟩ = some (.int .i64 s.us) ∧ W.cell? ⟨gt, i * 4 + 2, none⟩ = some (.int .i64 s.ca) ∧ W.cell? ⟨gt, i * 4 + 3, none⟩ = some (.int .i64 s.da) := by
  have hi := (List.getElem?_eq_some_iff.1 hs).1
  have a0 := h.st.cellAt (i * 4 + 0) (by omega)
  have a1 := h.st.cellAt (i * 4 + 1) (by omega)
  have a2 := h.st.cellAt (i * 4 + 2) (by omega)
  have a3 := h.st.cellAt (i * 4 + 3) (by omega)
  unfold cellsSS at a0 a1 a2 a3
  rw [four_at sscells sscells_len R.S i _ (by decide), hs] at a0 a1 a2 a3
  exact ⟨a0, a1, a2, a3⟩
end
end Go.Proofs.YtahfobbiaimoiaaGreatDoor

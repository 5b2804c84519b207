/- A problem that is being made: its box and its three rows. -/
import Derived.Test.YtfajgbdnfphajaaSHolds
namespace Go.Proofs.Ytfajgbdnfphajaa.S
open Go.RowKit Go.Shelf
def qF (u : Int) (a b c : Value) : Nat → Value := fun i => if i = 0 then .int .i64 u else if i = 1 then a else if i = 2 then b else c
def QAt (W : World) (g : Nat) (u : Int) (a b c : Value) : Prop := W.rowIs g 27 4 (qF u a b c)
section
variable {W W' : World} {g : Nat} {u : Int} {a b c : Value}
theorem QAt.lt (h : QAt W g u a b c) : g < W.heap.size := World.rowIs.lt h
theorem QAt.of (h : QAt W g u a b c) (e : W'.heap[g]? = W.heap[g]?) : QAt W' g u a b c := World.rowIs.of_block h e
theorem QAt.c0 (h : QAt W g u a b c) : W.cell? ⟨g, 0, none⟩ = some (.int .i64 u) := World.rowIs.cell h (i := 0) (by decide)
theorem QAt.c1 (h : QAt W g u a b c) : W.cell? ⟨g, 1, none⟩ = some a := World.rowIs.cell h (i := 1) (by decide)
theorem QAt.c2 (h : QAt W g u a b c) : W.cell? ⟨g, 2, none⟩ = some b := World.rowIs.cell h (i := 2) (by decide)
theorem QAt.c3 (h : QAt W g u a b c) : W.cell? ⟨g, 3, none⟩ = some c := World.rowIs.cell h (i := 3) (by decide)
theorem QAt.frz (h : QAt W g u a b c) (i : Nat) : W.frozen? ⟨g, i, none⟩ = false := World.rowIs.frozen h i
theorem QAt.s1 (h : QAt W g u a b c) (v : Value) : QAt (W.setCell ⟨g, 1, none⟩ v) g u v b c :=
  World.rowIs.congr (World.rowIs.set h 1 _) fun i hi => by
    match i, hi with
    | 0, _ => rfl
    | 1, _ => rfl
    | 2, _ => rfl
    | 3, _ => rfl
theorem QAt.s2 (h : QAt W g u a b c) (v : Value) : QAt (W.setCell ⟨g, 2, none⟩ v) g u a v c :=
  World.rowIs.congr (World.rowIs.set h 2 _) fun i hi => by
    match i, hi with
    | 0, _ => rfl
    | 1, _ => rfl
    | 2, _ => rfl
    | 3, _ => rfl
theorem QAt.s3 (h : QAt W g u a b c) (v : Value) : QAt (W.setCell ⟨g, 3, none⟩ v) g u a b v :=
  World.rowIs.congr (World.rowIs.set h 3 _) fun i hi => by
    match i, hi with
    | 0, _ => rfl
    | 1, _ => rfl
    | 2, _ => rfl
    | 3, _ => rfl
theorem QAt.block (h : W.heap[g]? = some (.cells #[.int .i64 u, a, b, c] 27 (0, 0))) : QAt W g u a b c :=
  ⟨_, h, rfl, fun i hi => by
    match i, hi with
    | 0, _ => rfl
    | 1, _ => rfl
    | 2, _ => rfl
    | 3, _ => rfl⟩
end
theorem owns_lowS {W : World} {B B' : Nat} {e : TypeId} {size : Nat} {v : Value} {n : Nat} {xs : List Value} (h : W.ownsRow B e size v n xs) (hB : B' ≤ B) : W.ownsRow B' e size v n xs := by
  refine ⟨h.1, ?_⟩
  rcases h.2 with h | ⟨g, cap, cur, e, h0, h1⟩
  · exact .inl h
  · exact .inr ⟨g, cap, cur, e, Nat.le_trans hB h0, h1⟩
/-- How great a problem may be. -/
structure Pok (P : Pb) : Prop where
  w : P.who.length ≤ 1000
  f : P.fixed.length ≤ 1000
  r : P.rules.length ≤ 1000
  s : ∀ r ∈ P.rules, r.steps.length ≤ 1000
  b : ∀ z ∈ P.who, z < 18446744073709551616
def cellsW (L : List Nat) : List Value := L.map fun z : Nat => Value.int .u64 (z : Int)
theorem RowW.of_owns {W : World} {B : Nat} {v : Value} {L : List Nat} (h : W.ownsRow B 51 1 v L.length (cellsW L)) : RowW W v L := by
  rcases h.2 with ⟨rfl, h0⟩ | ⟨g, cap, cur, rfl, _, _, hcap, _⟩
  · refine ⟨none, 0, by rw [h0], ⟨by omega, fun _ => rfl⟩, fun i z hz => ?_⟩
    have := (List.getElem?_eq_some_iff.1 hz).1
    omega
  · refine ⟨_, cap, rfl, ⟨hcap, fun e => by cases e⟩, fun i z hz => ⟨g, 0, rfl, ?_⟩⟩
    have hi := (List.getElem?_eq_some_iff.1 hz).1
    have := h.cellAt i (by omega)
    rw [Nat.zero_add, this]
    simp [cellsW, hz]
theorem kept_kind {W w2 : World} {B B' : Nat} {e e' : TypeId} {size size' : Nat} {v v' : Value} {n n' : Nat} {xs xs' : List Value} (h : W.ownsRow B e size v n xs) (h' : W.ownsRow B' e' size' v' n' xs') (hne : e ≠ e') (hg : W.grownBy w2 v'.ownBlock) : w2.ownsRow B e size v n xs := by
  refine h.kept hg ?_
  cases hv : v.ownBlock with
  | none => exact .inl rfl
  | some k =>
    refine .inr fun q => ?_
    obtain ⟨c1, f1, h1⟩ := Go.Lib.ownsRow_kind h k hv
    obtain ⟨c2, f2, h2⟩ := Go.Lib.ownsRow_kind h' k q.symm
    rw [h1] at h2
    injection h2 with h2
    injection h2 with _ h2
    exact hne h2
/-- A problem that is being made: what lies in its box (ba, bb, bc), and the rows themselves (va, vb, vc). -/
structure Rq (w : World) (P : Pb) (wv fv rv : Value) (W : World) (ba bb bc va vb vc : Value) (L1 : List Nat) (L2 : List Int) (E : List (Rl × Value)) : Prop where
  pb : PbB W w.heap.size P wv fv rv
  zb : QAt W (w.heap.size + 1) 0 (.slice none 0 0) (.slice none 0 0) (.slice none 0 0)
  qb : QAt W (w.heap.size + 1 + 1) P.users ba bb bc
  r1 : W.ownsRow (w.heap.size + 3) 51 1 va L1.length (cellsW L1)
  r2 : W.ownsRow (w.heap.size + 3) 3 1 vb L2.length (cellsI L2)
  r3 : TwS (w.heap.size + 3) W vc E
  sz : w.heap.size + 3 ≤ W.heap.size
  be : Below w.heap.size w W
section
variable {w : World} {P : Pb} {wv fv rv : Value} {W W' : World} {ba bb bc va vb vc : Value} {L1 : List Nat} {L2 : List Int} {E : List (Rl × Value)}
theorem Rq.over (h : Rq w P wv fv rv W ba bb bc va vb vc L1 L2 E) (hb : Below W.heap.size W W') : Rq w P wv fv rv W' ba bb bc va vb vc L1 L2 E :=
  ⟨h.pb.below hb, h.zb.of (hb.block _ h.zb.lt), h.qb.of (hb.block _ h.qb.lt), own_below h.r1 hb (Nat.le_refl _), own_below h.r2 hb (Nat.le_refl _), h.r3.below hb (Nat.le_refl _), Nat.le_trans h.sz hb.size, h.be.trans (hb.mono h.be.size)⟩
theorem own_set {B : Nat} {e : TypeId} {size : Nat} {v : Value} {n : Nat} {xs : List Value} (h : W.ownsRow B e size v n xs) {g o : Nat} (hg : g < B) (u : Value) : (W.setCell ⟨g, o, none⟩ u).ownsRow B e size v n xs :=
  own_same h fun k _ hk => Below.heap_setCell W ⟨g, o, none⟩ u k (by have := own_ge' h hk; show k ≠ g; omega)
theorem Rq.put (h : Rq w P wv fv rv W ba bb bc va vb vc L1 L2 E) {o : Nat} {u : Value} {ba' bb' bc' : Value} (hq : QAt (W.setCell ⟨w.heap.size + 1 + 1, o, none⟩ u) (w.heap.size + 1 + 1) P.users ba' bb' bc') : Rq w P wv fv rv (W.setCell ⟨w.heap.size + 1 + 1, o, none⟩ u) ba' bb' bc' va vb vc L1 L2 E :=
  ⟨(Below.heap_setCell W ⟨w.heap.size + 1 + 1, o, none⟩ u _ (by show w.heap.size ≠ w.heap.size + 1 + 1; omega)).trans h.pb, h.zb.of (Below.heap_setCell W ⟨w.heap.size + 1 + 1, o, none⟩ u _ (by show w.heap.size + 1 ≠ w.heap.size + 1 + 1; omega)), hq, own_set h.r1 (by omega) u, own_set h.r2 (by omega) u, ⟨own_set h.r3.row (by omega) u, fun p hp => own_set (h.r3.inner p hp) (by omega) u⟩, by simpa [World.setCell] using h.sz, h.be.setCell (by show w.heap.size ≤ w.heap.size + 1 + 1; omega) u⟩
theorem Rq.grow (h : Rq w P wv fv rv W ba bb bc va vb vc L1 L2 E) {ob : Obj} {k : Option Nat} (hk : ∀ j, k = some j → w.heap.size + 3 ≤ j) (hg : (W.alloc ob).grownBy W' k) : Below (w.heap.size + 3) W W' :=
  ((Below.refl _ W).alloc h.sz ob).grown hg (by have := h.sz; simp; omega) hk
theorem Rq.boxes (h : Rq w P wv fv rv W ba bb bc va vb vc L1 L2 E) (hb : Below (w.heap.size + 3) W W') : PbB W' w.heap.size P wv fv rv ∧ QAt W' (w.heap.size + 1) 0 (.slice none 0 0) (.slice none 0 0) (.slice none 0 0) ∧ QAt W' (w.heap.size + 1 + 1) P.users ba bb bc ∧ w.heap.size + 3 ≤ W'.heap.size ∧ Below w.heap.size w W' :=
  ⟨(hb.block _ (by omega)).trans h.pb, h.zb.of (hb.block _ (by omega)), h.qb.of (hb.block _ (by omega)), Nat.le_trans h.sz hb.size, h.be.trans (hb.mono (by omega))⟩
theorem infoW : (Try.prog.info? 51).map (fun i => (i.zero, i.size, i.bytes)) = some (some (.int .u64 0), 1, 8) := by kernel_rfl
variable {ops : Array Oper} {rest : List Oper} {o : Oper} {a : Act} {Q : Exit → Act → World → Prop} {K : Act → World → Prop}
/-- A word more. -/
theorem Rq.wapp1 (s x : Operand) (h : Rq w P wv fv rv W ba bb bc va vb (.slice none 0 0) L1 L2 []) (z : Nat) (ho : o.op = .call { callee := .builtin .append, args := #[s, x], argTypes := #[23, 23] })
    (es : a.eval s = va) (ex : a.eval x = .slice (some ⟨W.heap.size, 0, none⟩) 1 1) (hn : L1.length ≤ 1000000)
    (hK : ∀ o5 n5 c5 w2, Rq w P wv fv rv w2 ba bb bc (.slice o5 n5 c5) vb (.slice none 0 0) (L1 ++ [z]) L2 [] → K (a.put o.dst (.slice o5 n5 c5)) w2) : o.wp Try.prog a (W.alloc (.cells #[.int .u64 (z : Int)] 51)) K Q := by
  obtain ⟨i0, hi, hz0, hz1, hz2⟩ := info_parts infoW
  refine wp_append_own _ s x 23 ho (w.heap.size + 3) 51 i0 (.int .u64 0) 1 8 Try.underlying23 hi hz0 hz1 hz2 rfl (by decide) va L1.length (cellsW L1) es (h.r1.alloc _) ⟨W.heap.size, 0, none⟩ 1 1 [.int .u64 (z : Int)] ex rfl (World.news_of_block (cs := #[.int .u64 (z : Int)]) (heap_new _ _)) (by simp [Value.oneCell']) (by unfold maxLen; omega) (by omega) (by have := h.sz; simp; omega) ?_
  intro v2 w2 hown hgrow _
  obtain ⟨o5, c5, rfl⟩ := own_shp hown
  obtain ⟨k1, k2, k3, k4, k5⟩ := h.boxes (h.grow (fun j ej => own_ge' h.r1 ej) hgrow)
  refine hK o5 _ c5 w2 ⟨k1, k2, k3, ?_, kept_kind (h.r2.alloc _) (h.r1.alloc _) (by decide) hgrow, TwS.nil _ _, k4, k5⟩
  rw [show cellsW (L1 ++ [z]) = cellsW L1 ++ [.int .u64 (z : Int)] by simp [cellsW], List.length_append]
  exact hown
theorem Rq.app1 (hgd : o.guard = none) (s x : Operand) (h : Rq w P wv fv rv W ba bb bc va vb (.slice none 0 0) L1 L2 []) (z : Nat) (ho : o.op = .call { callee := .builtin .append, args := #[s, x], argTypes := #[23, 23] })
    (es : a.eval s = va) (ex : a.eval x = .slice (some ⟨W.heap.size, 0, none⟩) 1 1) (hn : L1.length ≤ 1000000)
    (hK : ∀ o5 n5 c5 w2, Rq w P wv fv rv w2 ba bb bc (.slice o5 n5 c5) vb (.slice none 0 0) (L1 ++ [z]) L2 [] → wpList Try.prog ops Q rest (a.put o.dst (.slice o5 n5 c5)) w2) : wpList Try.prog ops Q (o :: rest) a (W.alloc (.cells #[.int .u64 (z : Int)] 51)) :=
  wpList_plain hgd fun _ hK' => Rq.wapp1 s x h z ho es ex hn fun o5 n5 c5 w2 h1 => hK' _ _ (hK o5 n5 c5 w2 h1)
/-- A user more. -/
theorem Rq.wapp2 (s x : Operand) (h : Rq w P wv fv rv W ba bb bc va vb (.slice none 0 0) L1 L2 []) (z : Int) (ho : o.op = .call { callee := .builtin .append, args := #[s, x], argTypes := #[24, 24] })
    (es : a.eval s = vb) (ex : a.eval x = .slice (some ⟨W.heap.size, 0, none⟩) 1 1) (hn : L2.length ≤ 1000000)
    (hK : ∀ o5 n5 c5 w2, Rq w P wv fv rv w2 ba bb bc va (.slice o5 n5 c5) (.slice none 0 0) L1 (L2 ++ [z]) [] → K (a.put o.dst (.slice o5 n5 c5)) w2) : o.wp Try.prog a (W.alloc (.cells #[.int .i64 z] 3)) K Q := by
  obtain ⟨i0, hi, hz0, hz1, hz2⟩ := info_parts info3
  refine wp_append_own _ s x 24 ho (w.heap.size + 3) 3 i0 (.int .i64 0) 1 8 Try.underlying24 hi hz0 hz1 hz2 rfl (by decide) vb L2.length (cellsI L2) es (h.r2.alloc _) ⟨W.heap.size, 0, none⟩ 1 1 [.int .i64 z] ex rfl (World.news_of_block (cs := #[.int .i64 z]) (heap_new _ _)) (by simp [Value.oneCell']) (by unfold maxLen; omega) (by omega) (by have := h.sz; simp; omega) ?_
  intro v2 w2 hown hgrow _
  obtain ⟨o5, c5, rfl⟩ := own_shp hown
  obtain ⟨k1, k2, k3, k4, k5⟩ := h.boxes (h.grow (fun j ej => own_ge' h.r2 ej) hgrow)
  refine hK o5 _ c5 w2 ⟨k1, k2, k3, kept_kind (h.r1.alloc _) (h.r2.alloc _) (by decide) hgrow, ?_, TwS.nil _ _, k4, k5⟩
  rw [show cellsI (L2 ++ [z]) = cellsI L2 ++ [.int .i64 z] by simp [cellsI], List.length_append]
  exact hown
theorem Rq.app2 (hgd : o.guard = none) (s x : Operand) (h : Rq w P wv fv rv W ba bb bc va vb (.slice none 0 0) L1 L2 []) (z : Int) (ho : o.op = .call { callee := .builtin .append, args := #[s, x], argTypes := #[24, 24] })
    (es : a.eval s = vb) (ex : a.eval x = .slice (some ⟨W.heap.size, 0, none⟩) 1 1) (hn : L2.length ≤ 1000000)
    (hK : ∀ o5 n5 c5 w2, Rq w P wv fv rv w2 ba bb bc va (.slice o5 n5 c5) (.slice none 0 0) L1 (L2 ++ [z]) [] → wpList Try.prog ops Q rest (a.put o.dst (.slice o5 n5 c5)) w2) : wpList Try.prog ops Q (o :: rest) a (W.alloc (.cells #[.int .i64 z] 3)) :=
  wpList_plain hgd fun _ hK' => Rq.wapp2 s x h z ho es ex hn fun o5 n5 c5 w2 h1 => hK' _ _ (hK o5 n5 c5 w2 h1)
/-- A rule more, whose steps are new memory. -/
theorem Rq.wapp3 (s x : Operand) (h : Rq w P wv fv rv W ba bb bc va vb vc L1 L2 E) (p : Rl × Value) (ho : o.op = .call { callee := .builtin .append, args := #[s, x], argTypes := #[25, 25] })
    (es : a.eval s = vc) (ex : a.eval x = .slice (some ⟨W.heap.size, 0, none⟩) 1 1) (hp : W.ownsRow (w.heap.size + 3) 3 1 p.2 p.1.steps.length (cellsI p.1.steps)) (hn : E.length ≤ 1000000)
    (hK : ∀ o5 n5 c5 w2, Rq w P wv fv rv w2 ba bb bc va vb (.slice o5 n5 c5) L1 L2 (E ++ [p]) → K (a.put o.dst (.slice o5 n5 c5)) w2) : o.wp Try.prog a (W.alloc (.cells #[.int .i64 p.1.kind, .int .i64 p.1.k, p.2] 62)) K Q := by
  obtain ⟨i0, hi, hz0, hz1, hz2⟩ := info_parts infoR
  have hT1 : TwS (w.heap.size + 3) (W.alloc (.cells #[.int .i64 p.1.kind, .int .i64 p.1.k, p.2] 62)) vc E := ⟨h.r3.row.alloc _, fun q hq => (h.r3.inner q hq).alloc _⟩
  have hne : ∀ g, vc.ownBlock = some g → p.2.ownBlock ≠ some g := fun g hg e => by
    obtain ⟨c1, f1, h1⟩ := Go.Lib.ownsRow_kind hp g e
    obtain ⟨c2, f2, h2⟩ := Go.Lib.ownsRow_kind h.r3.row g hg
    rw [h1] at h2
    simp at h2
  refine wp_append_own _ s x 25 ho (w.heap.size + 3) 62 i0 (.agg #[.int .i64 0, .int .i64 0, .slice none 0 0]) 3 40 Try.underlying25 hi hz0 hz1 hz2 rfl (by decide) vc E.length (cellsR E) es hT1.row ⟨W.heap.size, 0, none⟩ 1 1 (rcells p) ex rfl (World.news_of_block (cs := #[.int .i64 p.1.kind, .int .i64 p.1.k, p.2]) (heap_new _ _)) (rcells_one p (own_one hp)) (by unfold maxLen; omega) (by omega) (by have := h.sz; simp; omega) ?_
  intro v2 w2 hown hgrow _
  obtain ⟨o5, c5, rfl⟩ := own_shp hown
  obtain ⟨k1, k2, k3, k4, k5⟩ := h.boxes (h.grow (fun j ej => own_ge' h.r3.row ej) hgrow)
  exact hK o5 _ c5 w2 ⟨k1, k2, k3, kept_kind (h.r1.alloc _) hT1.row (by decide) hgrow, kept_kind (h.r2.alloc _) hT1.row (by decide) hgrow, hT1.push p (hp.alloc _) hne hown hgrow, k4, k5⟩
theorem Rq.app3 (hgd : o.guard = none) (s x : Operand) (h : Rq w P wv fv rv W ba bb bc va vb vc L1 L2 E) (p : Rl × Value) (ho : o.op = .call { callee := .builtin .append, args := #[s, x], argTypes := #[25, 25] })
    (es : a.eval s = vc) (ex : a.eval x = .slice (some ⟨W.heap.size, 0, none⟩) 1 1) (hp : W.ownsRow (w.heap.size + 3) 3 1 p.2 p.1.steps.length (cellsI p.1.steps)) (hn : E.length ≤ 1000000)
    (hK : ∀ o5 n5 c5 w2, Rq w P wv fv rv w2 ba bb bc va vb (.slice o5 n5 c5) L1 L2 (E ++ [p]) → wpList Try.prog ops Q rest (a.put o.dst (.slice o5 n5 c5)) w2) : wpList Try.prog ops Q (o :: rest) a (W.alloc (.cells #[.int .i64 p.1.kind, .int .i64 p.1.k, p.2] 62)) :=
  wpList_plain hgd fun _ hK' => Rq.wapp3 s x h p ho es ex hp hn fun o5 n5 c5 w2 h1 => hK' _ _ (hK o5 n5 c5 w2 h1)
end
theorem Rq.start (w : World) (P : Pb) (wv fv rv : Value) : Rq w P wv fv rv (((w.alloc (.cells #[.int .i64 P.users, wv, fv, rv] 27)).alloc (.cells #[.int .i64 0, .slice none 0 0, .slice none 0 0, .slice none 0 0] 27)).alloc (.cells #[.int .i64 P.users, .slice none 0 0, .slice none 0 0, .slice none 0 0] 27)) (.slice none 0 0) (.slice none 0 0) (.slice none 0 0) (.slice none 0 0) (.slice none 0 0) (.slice none 0 0) [] [] [] := by
  have n1 := heap_new w (.cells #[.int .i64 P.users, wv, fv, rv] 27)
  have b0 : Below w.heap.size w (w.alloc (.cells #[.int .i64 P.users, wv, fv, rv] 27)) := (Below.refl _ w).alloc (Nat.le_refl _) _
  have s1 : (w.alloc (.cells #[.int .i64 P.users, wv, fv, rv] 27)).heap.size = w.heap.size + 1 := by simp
  generalize w.alloc (.cells #[.int .i64 P.users, wv, fv, rv] 27) = V1 at *
  have n2 := heap_new V1 (.cells #[.int .i64 0, .slice none 0 0, .slice none 0 0, .slice none 0 0] 27)
  have b1 : Below V1.heap.size V1 (V1.alloc (.cells #[.int .i64 0, .slice none 0 0, .slice none 0 0, .slice none 0 0] 27)) := (Below.refl _ V1).alloc (Nat.le_refl _) _
  have s2 : (V1.alloc (.cells #[.int .i64 0, .slice none 0 0, .slice none 0 0, .slice none 0 0] 27)).heap.size = w.heap.size + 1 + 1 := by simp [s1]
  rw [s1] at n2
  generalize V1.alloc (.cells #[.int .i64 0, .slice none 0 0, .slice none 0 0, .slice none 0 0] 27) = V2 at *
  have n3 := heap_new V2 (.cells #[.int .i64 P.users, .slice none 0 0, .slice none 0 0, .slice none 0 0] 27)
  have b2 : Below V2.heap.size V2 (V2.alloc (.cells #[.int .i64 P.users, .slice none 0 0, .slice none 0 0, .slice none 0 0] 27)) := (Below.refl _ V2).alloc (Nat.le_refl _) _
  rw [s2] at n3
  refine ⟨(b2.block _ (by omega)).trans ((b1.block _ (by omega)).trans n1), QAt.block ((b2.block _ (by omega)).trans n2), QAt.block n3, World.ownsRow_nil _ _ _ _, World.ownsRow_nil _ _ _ _, TwS.nil _ _, by simp [s2], (b0.trans (b1.mono b0.size)).trans (b2.mono (by omega))⟩
end Go.Proofs.Ytfajgbdnfphajaa.S

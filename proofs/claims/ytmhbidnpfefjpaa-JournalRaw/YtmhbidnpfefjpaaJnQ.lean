/- Rows of records in memory; records, one behind the other: plain. -/
import Derived.Test.YtmhbidnpfefjpaaJnR
import Derived.Deep.AppendLies
namespace Go.Proofs.Ytmhbidnpfefjpaa
open Go.RowKit
def cellsG (G : List (Nat × List Nat)) : List Value := G.map fun p => .slice (some ⟨p.1, 0, none⟩) p.2.length p.2.length
theorem cellsG_len (G : List (Nat × List Nat)) : (cellsG G).length = G.length := by simp [cellsG]
/-- A row of rows of bytes, each in a block of its own. -/
structure RsB (W : World) (B : Nat) (v : Value) (G : List (Nat × List Nat)) : Prop where
  own : W.ownsRow B 34 1 v G.length (cellsG G)
  inn : ∀ p ∈ G, BkB W p.1 p.2 ∧ B ≤ p.1
  nod : (G.map (·.1)).Nodup
theorem RsB.nil (W : World) (B : Nat) : RsB W B (.slice none 0 0) [] := ⟨World.ownsRow_nil _ _ _ _, (fun p h => by cases h), by simp⟩
/-- The outer row's block is none of the inner ones'. -/
theorem RsB.out {W : World} {B : Nat} {v : Value} {G : List (Nat × List Nat)} (h : RsB W B v G) {x : Nat} {L : List Nat} (hx : BkB W x L) : v.ownBlock ≠ some x := by
  intro e
  rcases h.own.2 with ⟨rfl, _⟩ | ⟨g, cap, cur, rfl, _, hg, _⟩
  · cases e
  · cases e
    unfold BkB at hx
    rw [hg] at hx
    injection hx with hx
    injection hx with _ hx
    exact absurd hx (by decide)
theorem RsB.move {W W' : World} {B : Nat} {v : Value} {G : List (Nat × List Nat)} (h : RsB W B v G) (hb : ∀ k, k < W.heap.size → B ≤ k → W'.heap[k]? = W.heap[k]?) : RsB W' B v G := by
  refine ⟨⟨h.own.1, ?_⟩, fun p hp => ?_, h.nod⟩
  · rcases h.own.2 with q | ⟨g, cap, cur, e, h1, hg, h3⟩
    · exact .inl q
    · exact .inr ⟨g, cap, cur, e, h1, (hb g (blk_lt hg) h1).trans hg, h3⟩
  · obtain ⟨h1, h2⟩ := h.inn p hp
    exact ⟨(hb p.1 (blk_lt h1) h2).trans h1, h2⟩
theorem RsB.below {W W' : World} {B : Nat} {v : Value} {G : List (Nat × List Nat)} (h : RsB W B v G) (hb : Below W.heap.size W W') : RsB W' B v G := h.move fun k hk _ => hb.block k hk
theorem RsB.kp {W W' : World} {B x y : Nat} {v : Value} {G : List (Nat × List Nat)} (h : RsB W B v G) (k : Kp x y W W') (hx : x < B) (hy : y < B) : RsB W' B v G := h.move fun i hi hB => k.block i hi (by omega) (by omega)
theorem RsB.shp {W : World} {B : Nat} {v : Value} {G : List (Nat × List Nat)} (h : RsB W B v G) : ∃ oa cap, v = .slice oa G.length cap := own_shp h.own
theorem infoBs : (Try.prog.info? 34).map (fun i => (i.zero, i.size, i.bytes)) = some (some (.slice none 0 0), 1, 24) := by kernel_rfl
/-- A row more. -/
theorem RsB.app {W : World} {ops : Array Oper} {rest : List Oper} {o : Oper} {a : Act} {Q : Exit → Act → World → Prop} {B : Nat} {v : Value} {G : List (Nat × List Nat)} (h : RsB W B v G) (hgd : o.guard = none) (s x : Operand) (ho : o.op = .call { callee := .builtin .append, args := #[s, x], argTypes := #[44, 44] })
    (es : a.eval s = v) (ex : a.eval x = .slice (some ⟨W.heap.size, 0, none⟩) 1 1) (hB : B ≤ W.heap.size) (hn : G.length ≤ 1000000) (gr : Nat) (r : List Nat) (hr : BkB W gr r) (hgr : B ≤ gr) (hnew : gr ∉ G.map (·.1))
    (hK : ∀ o2 n2 c2 w2 G2, Hid (G2 = G ++ [(gr, r)]) → Hid (n2 = G2.length) → Hid (RsB w2 B (.slice o2 n2 c2) G2) → Hid (Below B W w2) → wpList Try.prog ops Q rest (a.put o.dst (.slice o2 n2 c2)) w2) : wpList Try.prog ops Q (o :: rest) a (W.alloc (.cells #[.slice (some ⟨gr, 0, none⟩) r.length r.length] 34)) := by
  obtain ⟨i0, hi, hz0, hz1, hz2⟩ := info_parts infoBs
  have hal : Below W.heap.size W (W.alloc (.cells #[.slice (some ⟨gr, 0, none⟩) r.length r.length] 34)) := (Below.refl _ _).alloc (Nat.le_refl _) _
  have h' := h.below hal
  have hr' : BkB (W.alloc (.cells #[.slice (some ⟨gr, 0, none⟩) r.length r.length] 34)) gr r := hr.below hal (blk_lt hr)
  refine wpList_append_own _ hgd s x 44 ho B 34 i0 (.slice none 0 0) 1 24 Try.underlying44 hi hz0 hz1 hz2 rfl (by decide) v G.length (cellsG G) es h'.own ⟨W.heap.size, 0, none⟩ 1 1 [.slice (some ⟨gr, 0, none⟩) r.length r.length] ex rfl (World.news_of_block (cs := #[.slice (some ⟨gr, 0, none⟩) r.length r.length]) (heap_new _ _)) (by simp [Value.oneCell']) (by unfold maxLen; omega) (by omega) (by simp; omega) ?_
  intro v2 w2 hown hgrow _
  obtain ⟨o2, c2, rfl⟩ := own_shp hown
  have hkeep : ∀ y L, BkB (W.alloc (.cells #[.slice (some ⟨gr, 0, none⟩) r.length r.length] 34)) y L → BkB w2 y L := fun y L hy =>
    (hgrow.block y (blk_lt hy) (fun e => h'.out hy e.symm)).trans hy
  have key : RsB w2 B (.slice o2 (G.length + 1) c2) (G ++ [(gr, r)]) := by
    refine ⟨?_, fun p hp => ?_, ?_⟩
    · rw [List.length_append, List.length_singleton]
      simpa [cellsG] using hown
    · rcases List.mem_append.1 hp with hp | hp
      · exact ⟨hkeep _ _ (h'.inn p hp).1, (h'.inn p hp).2⟩
      · simp only [List.mem_singleton] at hp
        subst hp
        exact ⟨hkeep _ _ hr', hgr⟩
    · rw [List.map_append]
      exact List.nodup_append.2 ⟨h.nod, by simp, fun a ha b hb => by simp at hb; subst hb; intro e; subst e; exact hnew ha⟩
  exact hK o2 _ c2 w2 (G ++ [(gr, r)]) rfl (show _ = _ by simp) key (((Below.refl B W).alloc hB _).grown hgrow (by simp; omega) (fun j ej => (h'.own.lt j ej).1))
def joinP (G : List (Nat × List Nat)) (o : Option (List (List Nat) × Nat)) : Option (List (List Nat) × Nat) := match o with
  | none => none
  | some (l, p) => some (G.map (·.2) ++ l, p)
theorem prs_zero {L : List Nat} {n f q c : Nat} (h : blkB L q = z16) : prs L n (f + 1) q c = some ([], q) := by
  rw [prs, if_pos h]
theorem prs_none {L : List Nat} {n f q c : Nat} (h : blkB L q ≠ z16) (h1 : oneR L n q c = none) : prs L n (f + 1) q c = none := by
  rw [prs, if_neg h, h1]
theorem prs_some {L : List Nat} {n f q c gr : Nat} {r : List Nat} (G : List (Nat × List Nat)) (h : blkB L q ≠ z16) (h1 : oneR L n q c = some r) : joinP G (prs L n (f + 1) q c) = joinP (G ++ [(gr, r)]) (prs L n f (q + 1 + spn r.length) (c + 1)) := by
  rw [prs, if_neg h, h1]
  show joinP G (match prs L n f (q + 1 + spn r.length) (c + 1) with | none => none | some (l, p) => some (r :: l, p)) = _
  cases prs L n f (q + 1 + spn r.length) (c + 1) with
  | none => rfl
  | some x => obtain ⟨l, p⟩ := x; simp [joinP]
theorem oneR_next {L : List Nat} {n q c : Nat} {r : List Nat} (hL : L.length = 16 * n) (h : oneR L n q c = some r) : q + 1 + spn r.length < n ∧ r.length ≤ 131072 := by
  unfold oneR at h
  split at h
  · next hc =>
    cases h
    rw [recOf_len hL hc.2.1]
    exact ⟨hc.2.1, hc.1⟩
  · cases h
/-- The end, as it lies in memory. -/
def endAt (gj : Nat) (W : World) : Int := intOf ((W.cell? ⟨gj, 1, none⟩).getD undef)
theorem JnA.endAt {W : World} {gj g : Nat} {J : Jn} (h : JnA W gj g J) : endAt gj W = (J.e : Int) := by
  unfold Go.Proofs.Ytmhbidnpfefjpaa.endAt
  rw [h.cells.2.1]
  rfl
/-- How many blocks a disk has. -/
def n1 (D : Dk) : Nat := D.bytes.length / 16
/-- What stands while records are read. -/
structure Rt (W : World) (gj g gb : Nat) (J : Jn) (D : Dk) (q c : Nat) (v : Value) (G : List (Nat × List Nat)) (V : World) : Prop where
  jn : JnA V gj g { J with e := q, c := c }
  dk : DkA V g gb D
  rs : RsB V W.heap.size v G
  kp : Kp gj gj W V
theorem Rt.up {W : World} {gj g gb : Nat} {J : Jn} {D : Dk} {q c : Nat} {v : Value} {G : List (Nat × List Nat)} {V V' : World} (h : Rt W gj g gb J D q c v G V) (hb : Below V.heap.size V V') : Rt W gj g gb J D q c v G V' :=
  ⟨h.jn.below hb (blk_lt h.jn), h.dk.below hb (Nat.le_refl _), h.rs.below hb, h.kp.trans (Kp.of_below hb)⟩
theorem Rt.kn {W : World} {gj g gb x : Nat} {J : Jn} {D : Dk} {q c : Nat} {v : Value} {G : List (Nat × List Nat)} {V V' : World} (h : Rt W gj g gb J D q c v G V) (k : Kp x x V V') (hx : V.heap.size ≤ x) : Rt W gj g gb J D q c v G V' :=
  h.up (k.below hx hx (Nat.le_refl _))
end Go.Proofs.Ytmhbidnpfefjpaa

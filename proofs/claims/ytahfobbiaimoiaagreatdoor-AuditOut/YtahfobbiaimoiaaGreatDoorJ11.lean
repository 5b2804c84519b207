/- Twin: rules in new memory, cut. -/
import Derived.Test.YtahfobbiaimoiaaGreatDoorJ10
import Derived.Deep.AppendLies
import Derived.Deep.RegionHeld3
namespace Go.Proofs.YtahfobbiaimoiaaGreatDoor
open Go.RowKit
theorem infoR : (Tryz.prog.info? 82).map (fun i => (i.zero, i.size, i.bytes)) = some (some (.agg #[.int .i64 0, .int .i64 0, .slice none 0 0]), 3, 40) := by kernel_rfl
def cutR (r : Rl) : Rl := ⟨r.kind, r.k, r.steps.take 30⟩
def twin (L : List Rl) : List Rl := (L.take 60).map cutR
theorem twin_twin (L : List Rl) : twin (twin L) = twin L := by
  unfold twin
  rw [List.take_of_length_le (by rw [List.length_map, List.length_take]; omega), List.map_map]
  refine List.map_congr_left fun r _ => ?_
  simp [cutR, List.take_take]
theorem twin_len (L : List Rl) : (twin L).length ≤ 60 := by unfold twin; rw [List.length_map, List.length_take]; omega
theorem twin_steps {L : List Rl} {r : Rl} (h : r ∈ twin L) : r.steps.length ≤ 30 := by
  unfold twin at h
  obtain ⟨q, _, rfl⟩ := List.mem_map.1 h
  simp [cutR]; omega
theorem rcells_one (p : Rl × Value) (h : p.2.oneCell' = true) : ∀ u ∈ rcells p, u.oneCell' = true := by
  intro u hu
  simp [rcells] at hu
  rcases hu with rfl | rfl | rfl
  · rfl
  · rfl
  · exact h
/-- What was made behind a world of a row of rules. -/
theorem own_far {w : World} {B g : Nat} {e : TypeId} {size : Nat} {v : Value} {n : Nat} {xs : List Value} (h : w.ownsRow B e size v n xs) (hg : g < B) : v.ownBlock ≠ some g := by
  intro e1
  rcases h.2 with ⟨rfl, _⟩ | ⟨g', cap, cur, rfl, hb, _⟩
  · cases e1
  · have : g' = g := by simpa [Value.ownBlock] using e1
    omega
theorem own_lt' {w : World} {B : Nat} {e : TypeId} {size : Nat} {v : Value} {n : Nat} {xs : List Value} (h : w.ownsRow B e size v n xs) {g : Nat} (hg : v.ownBlock = some g) : g < w.heap.size := by
  obtain ⟨_, _, h1⟩ := Go.Lib.ownsRow_kind h g hg
  exact (Array.getElem?_eq_some_iff.1 h1).1
theorem own_ge' {w : World} {B : Nat} {e : TypeId} {size : Nat} {v : Value} {n : Nat} {xs : List Value} (h : w.ownsRow B e size v n xs) {g : Nat} (hg : v.ownBlock = some g) : B ≤ g := by
  rcases h.2 with ⟨rfl, _⟩ | ⟨g', cap, cur, rfl, hb, _⟩
  · cases hg
  · cases hg; exact hb
theorem own_one {w : World} {B : Nat} {e : TypeId} {size : Nat} {v : Value} {n : Nat} {xs : List Value} (h : w.ownsRow B e size v n xs) : v.oneCell' = true := by
  rcases h.2 with ⟨rfl, _⟩ | ⟨g', cap, cur, rfl, hb, _⟩ <;> rfl
theorem own_down {w : World} {B C : Nat} {e : TypeId} {size : Nat} {v : Value} {n : Nat} {xs : List Value} (h : w.ownsRow B e size v n xs) (hc : C ≤ B) : w.ownsRow C e size v n xs := by
  rcases h with ⟨h1, h2⟩
  refine ⟨h1, ?_⟩
  rcases h2 with h2 | ⟨g', cap, cur, a, hb, c⟩
  · exact .inl h2
  · exact .inr ⟨g', cap, cur, a, Nat.le_trans hc hb, c⟩
/-- The numbers of a row, in new memory. -/
theorem app_new {o : Oper} {a : Act} {K : Act → World → Prop} {Q : Exit → Act → World → Prop} (s x : Operand) (W : World) (oa : Option Addr) (cap : Nat) (l : List Int) (ho : o.op = .call { callee := .builtin .append, args := #[s, x], argTypes := #[53, 53] })
    (es : a.eval s = .slice (some ⟨W.heap.size, 0, none⟩) 0 0) (ex : a.eval x = .slice oa l.length cap) (hr : RowI W (.slice oa l.length cap) l) (hn : l.length ≤ 1000000)
    (hK : ∀ v1 w1, w1.ownsRow W.heap.size 3 1 v1 l.length (cellsI l) → Below W.heap.size W w1 → K (a.put o.dst v1) w1) : o.wp Tryz.prog a (W.alloc (.cells #[] 3)) K Q := by
  obtain ⟨i0, hi, hz0, hz1, hz2⟩ := info_parts info3
  obtain ⟨oa', cap', e, hcap, hc⟩ := hr
  cases e
  cases oa with
  | none =>
    have := hcap.2 rfl
    subst this
    have : l = [] := List.eq_nil_of_length_eq_zero (by omega)
    subst this
    have hrun := run_append_owned_none (P := Tryz.prog) (w := W.alloc (.cells #[] 3)) W.heap.size 53 o.type 3 i0 1 Tryz.underlying53 hi _ 0 (cellsI []) (owns_zero W _)
    have ex' : a.eval x = .slice none 0 0 := ex
    unfold Oper.wp
    simp [execOp, ho, resolve, invoke, builtin, es, ex', hrun, Result.andThen]
    exact hK _ _ (owns_zero W _) ((Below.refl _ W).alloc (Nat.le_refl _) _)
  | some ad =>
    have hnews : ∀ j u, (cellsI l)[j]? = some u → (W.alloc (.cells #[] 3)).cell? (ad.add j) = some u := fun j u hu => by
      obtain ⟨z, hz, rfl⟩ := cellsI_at hu
      obtain ⟨g, o, e, hcell⟩ := hc j z hz
      cases e
      rw [Addr.add_lit]; exact cell_new hcell
    refine wp_append_own _ s x 53 ho W.heap.size 3 i0 (.int .i64 0) 1 8 Tryz.underlying53 hi hz0 hz1 hz2 rfl (by decide) _ 0 (cellsI []) es (owns_zero W _) ad l.length cap (cellsI l) ex (by simp [cellsI]) hnews (one_cells _) (by unfold maxLen; omega) (by omega) (by simp) ?_
    intro v1 w1 hown1 hgrow1 _
    have hown : w1.ownsRow W.heap.size 3 1 v1 (0 + l.length) (cellsI l) := hown1
    rw [Nat.zero_add] at hown
    exact hK _ _ hown (((Below.refl _ W).alloc (Nat.le_refl _) _).grown hgrow1 (by simp) (fun j ej => by cases ej; exact Nat.le_refl _))
/-- A rule laid behind a row of rules. -/
theorem app_rule {o : Oper} {a : Act} {K : Act → World → Prop} {Q : Exit → Act → World → Prop} (s x : Operand) (B : Nat) (W : World) (v : Value) (P : List (Rl × Value)) (p : Rl × Value) (ho : o.op = .call { callee := .builtin .append, args := #[s, x], argTypes := #[23, 23] })
    (es : a.eval s = v) (ex : a.eval x = .slice (some ⟨W.heap.size, 0, none⟩) 1 1) (hT : TwS B W v P) (hp : W.ownsRow B 3 1 p.2 p.1.steps.length (cellsI p.1.steps)) (hne : ∀ g, v.ownBlock = some g → p.2.ownBlock ≠ some g) (hB : B ≤ W.heap.size) (hn : P.length ≤ 1000000)
    (hK : ∀ v2 w2, TwS B w2 v2 (P ++ [p]) → Below B W w2 → K (a.put o.dst v2) w2) : o.wp Tryz.prog a (W.alloc (.cells #[.int .i64 p.1.kind, .int .i64 p.1.k, p.2] 82)) K Q := by
  obtain ⟨i0, hi, hz0, hz1, hz2⟩ := info_parts infoR
  have hT1 : TwS B (W.alloc (.cells #[.int .i64 p.1.kind, .int .i64 p.1.k, p.2] 82)) v P := ⟨hT.row.alloc _, fun q hq => (hT.inner q hq).alloc _⟩
  refine wp_append_own _ s x 23 ho B 82 i0 (.agg #[.int .i64 0, .int .i64 0, .slice none 0 0]) 3 40 Tryz.underlying23 hi hz0 hz1 hz2 rfl (by decide) v P.length (cellsR P) es hT1.row ⟨W.heap.size, 0, none⟩ 1 1 (rcells p) ex rfl (World.news_of_block (cs := #[.int .i64 p.1.kind, .int .i64 p.1.k, p.2]) (heap_new _ _)) (rcells_one p (own_one hp)) (by unfold maxLen; omega) (by omega) (by simp; omega) ?_
  intro v2 w2 hown hgrow _
  exact hK _ _ (hT1.push p (hp.alloc _) hne hown hgrow) (((Below.refl B W).alloc hB _).grown hgrow (by simp; omega) (fun j ej => own_ge' hT.row ej))
theorem own_same {w w' : World} {b : Nat} {e : TypeId} {size : Nat} {v : Value} {n : Nat} {xs : List Value} (h : w.ownsRow b e size v n xs) (hs : ∀ g, g < w.heap.size → v.ownBlock = some g → w'.heap[g]? = w.heap[g]?) : w'.ownsRow b e size v n xs := by
  rcases h with ⟨h1, h2⟩
  refine ⟨h1, ?_⟩
  rcases h2 with h2 | ⟨g, cap, cur, hv, hb, hg, c⟩
  · exact .inl h2
  · subst hv
    exact .inr ⟨g, cap, cur, rfl, hb, (hs g (Array.getElem?_eq_some_iff.1 hg).1 rfl).trans hg, c⟩
theorem own_below {w w' : World} {b m : Nat} {e : TypeId} {size : Nat} {v : Value} {n : Nat} {xs : List Value} (h : w.ownsRow b e size v n xs) (hb : Below m w w') (hm : w.heap.size ≤ m) : w'.ownsRow b e size v n xs :=
  own_same h fun g hg _ => hb.block g (Nat.lt_of_lt_of_le hg hm)
theorem TwS.below {B m : Nat} {w w' : World} {v : Value} {P : List (Rl × Value)} (h : TwS B w v P) (hb : Below m w w') (hm : w.heap.size ≤ m) : TwS B w' v P := ⟨own_below h.row hb hm, fun p hp => own_below (h.inner p hp) hb hm⟩
theorem own_shp {W : World} {base : Nat} {e : TypeId} {sz : Nat} {v : Value} {n : Nat} {xs : List Value} (h : W.ownsRow base e sz v n xs) : ∃ oa cap, v = .slice oa n cap := by
  rcases h.2 with ⟨rfl, h2⟩ | ⟨g, cap, cur, rfl, _⟩
  · exact ⟨none, 0, by rw [h2]⟩
  · exact ⟨_, _, rfl⟩
theorem app_new' {o : Oper} {a : Act} {K : Act → World → Prop} {Q : Exit → Act → World → Prop} (s x : Operand) (W : World) (oa : Option Addr) (m cap : Nat) (l : List Int) (hl : l.length = m) (ho : o.op = .call { callee := .builtin .append, args := #[s, x], argTypes := #[53, 53] })
    (es : a.eval s = .slice (some ⟨W.heap.size, 0, none⟩) 0 0) (ex : a.eval x = .slice oa m cap) (hr : RowI W (.slice oa m cap) l) (hn : m ≤ 1000000)
    (hK : ∀ oa1 cap1 w1, w1.ownsRow W.heap.size 3 1 (.slice oa1 m cap1) l.length (cellsI l) → Below W.heap.size W w1 → K (a.put o.dst (.slice oa1 m cap1)) w1) : o.wp Tryz.prog a (W.alloc (.cells #[] 3)) K Q := by
  subst hl
  refine app_new s x W oa cap l ho es ex hr hn fun v1 w1 h1 h2 => ?_
  obtain ⟨oa1, cap1, rfl⟩ := own_shp h1
  exact hK _ _ _ h1 h2
theorem row_take {w : World} {oa : Option Addr} {cap : Nat} {l : List Int} (h : RowI w (.slice oa l.length cap) l) {n : Nat} (hn : n ≤ l.length) : RowI w (.slice oa n cap) (l.take n) := by
  obtain ⟨oa', cap', e, h0, h1⟩ := h
  cases e
  refine ⟨oa, cap, by rw [List.length_take, Nat.min_eq_left hn], ⟨by rw [List.length_take]; omega, h0.2⟩, fun i z hz => ?_⟩
  rw [List.getElem?_take] at hz
  split at hz
  · exact h1 i z hz
  · cases hz
end Go.Proofs.YtahfobbiaimoiaaGreatDoor

/- timesOf, count: what they answer. -/
import Derived.Test.YtlijlelejobchaaGreatDoorJ14
import Derived.Deep.AppendLies
import Derived.Deep.RegionHeld3
namespace Go.Proofs.YtlijlelejobchaaGreatDoor
open Go.RowKit
theorem infoR : (Tryz.prog.info? 44).map (fun i => (i.zero, i.size, i.bytes)) = some (some (.agg #[.int .i64 0, .int .i64 0, .slice none 0 0]), 3, 40) := by kernel_rfl
def cutR (r : Rl) : Rl := ⟨r.kind, r.k, r.steps.take 30⟩
def twin (L : List Rl) : List Rl := (L.take 60).map cutR
theorem twin_twin (L : List Rl) : twin (twin L) = twin L := by
  unfold twin
  rw [List.take_of_length_le (by rw [List.length_map, List.length_take]; omega), List.map_map]
  refine List.map_congr_left fun r _ => ?_
  simp [cutR, List.take_take]
theorem twin_len (L : List Rl) : (twin L).length ≤ 60 := by unfold twin; rw [List.length_map, List.length_take]; omega
theorem twin_steps {L : List Rl} {r : Rl} (h : r ∈ twin L) : r.steps.length ≤ 30 := by
  unfold twin at h
  obtain ⟨q, _, rfl⟩ := List.mem_map.1 h
  simp [cutR]; omega
theorem rcells_one (p : Rl × Value) (h : p.2.oneCell' = true) : ∀ u ∈ rcells p, u.oneCell' = true := by
  intro u hu
  simp [rcells] at hu
  rcases hu with rfl | rfl | rfl
  · rfl
  · rfl
  · exact h
/-- What was made behind a world of a row of rules. -/
theorem own_far {w : World} {B g : Nat} {e : TypeId} {size : Nat} {v : Value} {n : Nat} {xs : List Value} (h : w.ownsRow B e size v n xs) (hg : g < B) : v.ownBlock ≠ some g := by
  intro e1
  rcases h.2 with ⟨rfl, _⟩ | ⟨g', cap, cur, rfl, hb, _⟩
  · cases e1
  · have : g' = g := by simpa [Value.ownBlock] using e1
    omega
theorem own_lt' {w : World} {B : Nat} {e : TypeId} {size : Nat} {v : Value} {n : Nat} {xs : List Value} (h : w.ownsRow B e size v n xs) {g : Nat} (hg : v.ownBlock = some g) : g < w.heap.size := by
  obtain ⟨_, _, h1⟩ := Go.Lib.ownsRow_kind h g hg
  exact (Array.getElem?_eq_some_iff.1 h1).1
theorem own_ge' {w : World} {B : Nat} {e : TypeId} {size : Nat} {v : Value} {n : Nat} {xs : List Value} (h : w.ownsRow B e size v n xs) {g : Nat} (hg : v.ownBlock = some g) : B ≤ g := by
  rcases h.2 with ⟨rfl, _⟩ | ⟨g', cap, cur, rfl, hb, _⟩
  · cases hg
  · cases hg; exact hb
theorem own_one {w : World} {B : Nat} {e : TypeId} {size : Nat} {v : Value} {n : Nat} {xs : List Value} (h : w.ownsRow B e size v n xs) : v.oneCell' = true := by
  rcases h.2 with ⟨rfl, _⟩ | ⟨g', cap, cur, rfl, hb, _⟩ <;> rfl
theorem own_down {w : World} {B C : Nat} {e : TypeId} {size : Nat} {v : Value} {n : Nat} {xs : List Value} (h : w.ownsRow B e size v n xs) (hc : C ≤ B) : w.ownsRow C e size v n xs := by
  rcases h with ⟨h1, h2⟩
  refine ⟨h1, ?_⟩
  rcases h2 with h2 | ⟨g', cap, cur, a, hb, c⟩
  · exact .inl h2
  · exact .inr ⟨g', cap, cur, a, Nat.le_trans hc hb, c⟩
/-- The numbers of a row, in new memory. -/
theorem app_new {o : Oper} {a : Act} {K : Act → World → Prop} {Q : Exit → Act → World → Prop} (s x : Operand) (W : World) (oa : Option Addr) (cap : Nat) (l : List Int) (ho : o.op = .call { callee := .builtin .append, args := #[s, x], argTypes := #[23, 23] })
    (es : a.eval s = .slice (some ⟨W.heap.size, 0, none⟩) 0 0) (ex : a.eval x = .slice oa l.length cap) (hr : RowI W (.slice oa l.length cap) l) (hn : l.length ≤ 1000000)
    (hK : ∀ v1 w1, w1.ownsRow W.heap.size 3 1 v1 l.length (cellsI l) → Below W.heap.size W w1 → K (a.put o.dst v1) w1) : o.wp Tryz.prog a (W.alloc (.cells #[] 3)) K Q := by
  obtain ⟨i0, hi, hz0, hz1, hz2⟩ := info_parts info3
  obtain ⟨oa', cap', e, hcap, hc⟩ := hr
  cases e
  cases oa with
  | none =>
    have := hcap.2 rfl
    subst this
    have : l = [] := List.eq_nil_of_length_eq_zero (by omega)
    subst this
    have hrun := run_append_owned_none (P := Tryz.prog) (w := W.alloc (.cells #[] 3)) W.heap.size 23 o.type 3 i0 1 Tryz.underlying23 hi _ 0 (cellsI []) (owns_zero W _)
    have ex' : a.eval x = .slice none 0 0 := ex
    unfold Oper.wp
    simp [execOp, ho, resolve, invoke, builtin, es, ex', hrun, Result.andThen]
    exact hK _ _ (owns_zero W _) ((Below.refl _ W).alloc (Nat.le_refl _) _)
  | some ad =>
    have hnews : ∀ j u, (cellsI l)[j]? = some u → (W.alloc (.cells #[] 3)).cell? (ad.add j) = some u := fun j u hu => by
      obtain ⟨z, hz, rfl⟩ := cellsI_at hu
      obtain ⟨g, o, e, hcell⟩ := hc j z hz
      cases e
      rw [Addr.add_lit]; exact cell_new hcell
    refine wp_append_own _ s x 23 ho W.heap.size 3 i0 (.int .i64 0) 1 8 Tryz.underlying23 hi hz0 hz1 hz2 rfl (by decide) _ 0 (cellsI []) es (owns_zero W _) ad l.length cap (cellsI l) ex (by simp [cellsI]) hnews (one_cells _) (by unfold maxLen; omega) (by omega) (by simp) ?_
    intro v1 w1 hown1 hgrow1 _
    have hown : w1.ownsRow W.heap.size 3 1 v1 (0 + l.length) (cellsI l) := hown1
    rw [Nat.zero_add] at hown
    exact hK _ _ hown (((Below.refl _ W).alloc (Nat.le_refl _) _).grown hgrow1 (by simp) (fun j ej => by cases ej; exact Nat.le_refl _))
/-- A rule laid behind a row of rules. -/
theorem app_rule {o : Oper} {a : Act} {K : Act → World → Prop} {Q : Exit → Act → World → Prop} (s x : Operand) (B : Nat) (W : World) (v : Value) (P : List (Rl × Value)) (p : Rl × Value) (ho : o.op = .call { callee := .builtin .append, args := #[s, x], argTypes := #[24, 24] })
    (es : a.eval s = v) (ex : a.eval x = .slice (some ⟨W.heap.size, 0, none⟩) 1 1) (hT : TwS B W v P) (hp : W.ownsRow B 3 1 p.2 p.1.steps.length (cellsI p.1.steps)) (hne : ∀ g, v.ownBlock = some g → p.2.ownBlock ≠ some g) (hB : B ≤ W.heap.size) (hn : P.length ≤ 1000000)
    (hK : ∀ v2 w2, TwS B w2 v2 (P ++ [p]) → Below B W w2 → K (a.put o.dst v2) w2) : o.wp Tryz.prog a (W.alloc (.cells #[.int .i64 p.1.kind, .int .i64 p.1.k, p.2] 44)) K Q := by
  obtain ⟨i0, hi, hz0, hz1, hz2⟩ := info_parts infoR
  have hT1 : TwS B (W.alloc (.cells #[.int .i64 p.1.kind, .int .i64 p.1.k, p.2] 44)) v P := ⟨hT.row.alloc _, fun q hq => (hT.inner q hq).alloc _⟩
  refine wp_append_own _ s x 24 ho B 44 i0 (.agg #[.int .i64 0, .int .i64 0, .slice none 0 0]) 3 40 Tryz.underlying24 hi hz0 hz1 hz2 rfl (by decide) v P.length (cellsR P) es hT1.row ⟨W.heap.size, 0, none⟩ 1 1 (rcells p) ex rfl (World.news_of_block (cs := #[.int .i64 p.1.kind, .int .i64 p.1.k, p.2]) (heap_new _ _)) (rcells_one p (own_one hp)) (by unfold maxLen; omega) (by omega) (by simp; omega) ?_
  intro v2 w2 hown hgrow _
  exact hK _ _ (hT1.push p (hp.alloc _) hne hown hgrow) (((Below.refl B W).alloc hB _).grown hgrow (by simp; omega) (fun j ej => own_ge' hT.row ej))
theorem own_same {w w' : World} {b : Nat} {e : TypeId} {size : Nat} {v : Value} {n : Nat} {xs : List Value} (h : w.ownsRow b e size v n xs) (hs : ∀ g, g < w.heap.size → v.ownBlock = some g → w'.heap[g]? = w.heap[g]?) : w'.ownsRow b e size v n xs := by
  rcases h with ⟨h1, h2⟩
  refine ⟨h1, ?_⟩
  rcases h2 with h2 | ⟨g, cap, cur, hv, hb, hg, c⟩
  · exact .inl h2
  · subst hv
    exact .inr ⟨g, cap, cur, rfl, hb, (hs g (Array.getElem?_eq_some_iff.1 hg).1 rfl).trans hg, c⟩
theorem own_below {w w' : World} {b m : Nat} {e : TypeId} {size : Nat} {v : Value} {n : Nat} {xs : List Value} (h : w.ownsRow b e size v n xs) (hb : Below m w w') (hm : w.heap.size ≤ m) : w'.ownsRow b e size v n xs :=
  own_same h fun g hg _ => hb.block g (Nat.lt_of_lt_of_le hg hm)
theorem TwS.below {B m : Nat} {w w' : World} {v : Value} {P : List (Rl × Value)} (h : TwS B w v P) (hb : Below m w w') (hm : w.heap.size ≤ m) : TwS B w' v P := ⟨own_below h.row hb hm, fun p hp => own_below (h.inner p hp) hb hm⟩
theorem own_shp {W : World} {base : Nat} {e : TypeId} {sz : Nat} {v : Value} {n : Nat} {xs : List Value} (h : W.ownsRow base e sz v n xs) : ∃ oa cap, v = .slice oa n cap := by
  rcases h.2 with ⟨rfl, h2⟩ | ⟨g, cap, cur, rfl, _⟩
  · exact ⟨none, 0, by rw [h2]⟩
  · exact ⟨_, _, rfl⟩
theorem app_new' {o : Oper} {a : Act} {K : Act → World → Prop} {Q : Exit → Act → World → Prop} (s x : Operand) (W : World) (oa : Option Addr) (m cap : Nat) (l : List Int) (hl : l.length = m) (ho : o.op = .call { callee := .builtin .append, args := #[s, x], argTypes := #[23, 23] })
    (es : a.eval s = .slice (some ⟨W.heap.size, 0, none⟩) 0 0) (ex : a.eval x = .slice oa m cap) (hr : RowI W (.slice oa m cap) l) (hn : m ≤ 1000000)
    (hK : ∀ oa1 cap1 w1, w1.ownsRow W.heap.size 3 1 (.slice oa1 m cap1) l.length (cellsI l) → Below W.heap.size W w1 → K (a.put o.dst (.slice oa1 m cap1)) w1) : o.wp Tryz.prog a (W.alloc (.cells #[] 3)) K Q := by
  subst hl
  refine app_new s x W oa cap l ho es ex hr hn fun v1 w1 h1 h2 => ?_
  obtain ⟨oa1, cap1, rfl⟩ := own_shp h1
  exact hK _ _ _ h1 h2
theorem row_take {w : World} {oa : Option Addr} {cap : Nat} {l : List Int} (h : RowI w (.slice oa l.length cap) l) {n : Nat} (hn : n ≤ l.length) : RowI w (.slice oa n cap) (l.take n) := by
  obtain ⟨oa', cap', e, h0, h1⟩ := h
  cases e
  refine ⟨oa, cap, by rw [List.length_take, Nat.min_eq_left hn], ⟨by rw [List.length_take]; omega, h0.2⟩, fun i z hz => ?_⟩
  rw [List.getElem?_take] at hz
  split at hz
  · exact h1 i z hz
  · cases hz
end Go.Proofs.YtlijlelejobchaaGreatDoor
namespace Go.Proofs.YtlijlelejobchaaGreatDoor
open Go.RowKit
theorem ris_nat {n lo : Int} {S : List Int} (h : ris n lo S = true) (h0 : 0 ≤ lo) : ∃ T : List Nat, S = ints T := by
  induction S generalizing lo with
  | nil => exact ⟨[], rfl⟩
  | cons a l ih =>
    simp [ris] at h
    obtain ⟨T, hT⟩ := ih h.2 (by omega)
    exact ⟨a.toNat :: T, by rw [hT]; simp [ints]; omega⟩
/-- Numbers that rise. -/
def Rise (T : List Nat) : Prop := ∀ (i j x y : Nat), i < j → T[i]? = some x → T[j]? = some y → x < y
theorem rise_of {n lo : Int} {T : List Nat} (h : ris n lo (ints T) = true) : Rise T := fun i j x y hij hx hy => by
  have := ris_pair h hij (ints_at hx) (ints_at hy)
  omega
theorem ints_take (T : List Nat) (c : Nat) : ints (T.take c) = (ints T).take c := by simp [ints, List.map_take]
theorem labs_more {L : List Int} {T : List Nat} {c t : Nat} {y : Int} (ht : T[c]? = some t) (hy : L[t]? = some y) : labs L (ints (T.take (c + 1))) = labs L (ints (T.take c)) ++ [y] := by
  rw [take_snoc ht, show ints (T.take c ++ [t]) = ints (T.take c) ++ [(t : Int)] by simp [ints], labs_snoc, Int.toNat_natCast, hy]
theorem labs_same {L : List Int} {T : List Nat} {c t : Nat} (ht : T[c]? = some t) (hy : L[t]? = none) : labs L (ints (T.take (c + 1))) = labs L (ints (T.take c)) := by
  rw [take_snoc ht, show ints (T.take c ++ [t]) = ints (T.take c) ++ [(t : Int)] by simp [ints], labs_snoc, Int.toNat_natCast, hy]
  simp
theorem labs_le (L : List Int) (T : List Nat) (c : Nat) : (labs L (ints (T.take c))).length ≤ c := by
  refine Nat.le_trans (labs_len _ _) ?_
  rw [ints_len, List.length_take]; omega
theorem labs_count (L : List Int) (T : List Nat) (c : Nat) (x : Int) : (labs L (ints (T.take c))).count x ≤ c := Nat.le_trans List.count_le_length (labs_le L T c)
set_option maxRecDepth 100000 in
set_option maxHeartbeats 2000000 in
theorem timesOf (x : Int) (T : List Nat) (L : List Int) (sv lv : Value) (w : World) (hs : RowI w sv (ints T)) (hl : RowI w lv L) (hT : ∀ t ∈ T, t < L.length) (hn : T.length ≤ 1000000) :
    Calls Tryz.prog 118 #[.int .i64 x, sv, lv] w fun e w' => e = .returned (.int .i64 (((labs L (ints T)).count x : Nat) : Int)) ∧ w' = w := by
  obtain ⟨oa, ca, rfl, _, hca⟩ := hs
  obtain ⟨ob, cb, rfl, _, hcb⟩ := hl
  rw [ints_len]
  have hca' := hide' hca
  have hcb' := hide' hcb
  have hT' := hide' hT
  clear hca hcb hT
  go_enter Tryz.func118, Tryz.ntmps118
  go_wp2
  go_loop [7, 9, 12] (fun m _ k => ∃ (c q : Nat), c ≤ T.length ∧ k = .int .i64 c ∧ m = .int .i64 q ∧ q ≤ c ∧ Hid (q = (labs L (ints (T.take c))).count x)) (fun _ _ k => ((T.length : Int) - intOf k).toNat)
  case atStart => exact ⟨0, 0, Nat.zero_le _, rfl, rfl, Nat.le_refl _, by show _ = _; simp [ints, labs]⟩
  case round =>
    obtain ⟨c, q, hc, rfl, rfl, hqc, hq⟩ := hrel
    by_cases hlt : c < T.length
    · obtain ⟨t, ht⟩ : ∃ t, T[c]? = some t := ⟨_, List.getElem?_eq_getElem hlt⟩
      have htl := hT'.out t (List.mem_of_getElem? ht)
      obtain ⟨y, hy⟩ : ∃ y, L[t]? = some y := ⟨_, List.getElem?_eq_getElem htl⟩
      obtain ⟨g, o, rfl, c1⟩ := hca'.out c t (ints_at ht)
      obtain ⟨g2, o2, rfl, c2⟩ := hcb'.out t y hy
      have hN : Hid ((labs L (ints (T.take (c + 1)))).count x = q + if y = x then 1 else 0) := by
        show _ = _
        rw [labs_more ht hy, List.count_append, ← hq.out, List.count_singleton]
        simp
      have htl' : (t : Int) < (L.length : Int) := by omega
      clear ht hy hq hca' hcb' hT'
      by_cases hxy : y = x
      · subst hxy
        rw [if_pos rfl] at hN
        go_wp2
        exact ⟨⟨c + 1, q + 1, by omega, by go_num, by go_num, by omega, hN.out.symm⟩, by simp [intOf]; omega⟩
      · have hd : (y == x) = false := by simpa using hxy
        rw [if_neg hxy] at hN
        clear hxy
        go_wp2
        exact ⟨⟨c + 1, q, by omega, by go_num, by go_num, by omega, hN.out.symm⟩, by simp [intOf]; omega⟩
    · obtain rfl : c = T.length := by omega
      rw [List.take_length] at hq
      clear hca' hcb' hT'
      go_wp2
      go_ret
      exact ⟨ret_int (by rw [hq.out]), rfl⟩
/-- What was counted, as a value. -/
def cv (k : Int) (m u o : Nat) : Value := .agg #[.int .i64 k, .int .i64 (m : Int), .int .i64 (u : Int), .int .i64 (o : Int)]
/-- The boxes of count: the rule, what is told, what is counted. -/
structure Cb (w wr : World) (a b : Int) (oa : Option Addr) (n cap : Nat) (m u o : Nat) : Prop where
  rule : wr.heap[w.heap.size]? = some (.cells #[.int .i64 a, .int .i64 b, .slice oa n cap] 44 (0, 0))
  told : wr.heap[w.heap.size + 1]? = some (.cells #[.int .i64 0, .int .i64 0, .int .i64 0, .int .i64 0] 153 (0, 0))
  cnt : wr.heap[w.heap.size + 2]? = some (.cells #[.int .i64 b, .int .i64 (m : Int), .int .i64 (u : Int), .int .i64 (o : Int)] 153 (0, 0))
  bl : Below w.heap.size w wr
theorem Cb.drew {w wr : World} {a b : Int} {oa : Option Addr} {n cap m u o : Nat} (h : Cb w wr a b oa n cap m u o) : Cb w wr.drew a b oa n cap m u o := ⟨h.rule, h.told, h.cnt, h.bl.drew⟩
theorem Cb.cells {w wr : World} {a b : Int} {oa : Option Addr} {n cap m u o : Nat} (h : Cb w wr a b oa n cap m u o) :
    wr.cell? ⟨w.heap.size, 2, none⟩ = some (.slice oa n cap) ∧ wr.cell? ⟨w.heap.size + 2, 0, none⟩ = some (.int .i64 b) ∧ wr.cell? ⟨w.heap.size + 2, 1, none⟩ = some (.int .i64 (m : Int)) ∧ wr.cell? ⟨w.heap.size + 2, 2, none⟩ = some (.int .i64 (u : Int)) ∧ wr.cell? ⟨w.heap.size + 2, 3, none⟩ = some (.int .i64 (o : Int)) := by
  simp [World.cell?, h.rule, h.cnt]
theorem Cb.toldc {w wr : World} {a b : Int} {oa : Option Addr} {n cap m u o : Nat} (h : Cb w wr a b oa n cap m u o) :
    wr.cell? ⟨w.heap.size + 1, 0, none⟩ = some (.int .i64 0) ∧ wr.cell? ⟨w.heap.size + 1, 1, none⟩ = some (.int .i64 0) ∧ wr.cell? ⟨w.heap.size + 1, 2, none⟩ = some (.int .i64 0) ∧ wr.cell? ⟨w.heap.size + 1, 3, none⟩ = some (.int .i64 0) := by
  simp [World.cell?, h.told]
theorem push3 (h : Array Obj) (a b c : Obj) : (((h.push a).push b).push c)[h.size]? = some a ∧ (((h.push a).push b).push c)[h.size + 1]? = some b ∧ (((h.push a).push b).push c)[h.size + 2]? = some c := by
  refine ⟨?_, ?_, ?_⟩
  · rw [Array.getElem?_push, if_neg (by simp; omega), Array.getElem?_push, if_neg (by simp), Array.getElem?_push, if_pos rfl]
  · rw [Array.getElem?_push, if_neg (by simp), Array.getElem?_push, if_pos (by simp)]
  · rw [Array.getElem?_push, if_pos (by simp)]
theorem Cb.drewN {w wr : World} {a b : Int} {oa : Option Addr} {n cap m u o : Nat} (h : Cb w wr a b oa n cap m u o) (k : Nat) : Cb w (wr.drewN k) a b oa n cap m u o := ⟨h.rule, h.told, h.cnt, ⟨h.bl.1, h.bl.2, h.bl.3, h.bl.4, h.bl.5⟩⟩
theorem drew_belowR (w : World) (n : Nat) : Below w.heap.size w (w.drewN n) := ⟨rfl, rfl, rfl, Nat.le_refl _, fun _ _ => rfl⟩
theorem wr1R (k : Nat) (h : k < 1000000) : IntKind.i64.wrap ((k : Int) + 1) = (k : Int) + 1 := by
  rw [IntKind.wrap_i64]
  omega
theorem Cb.frozen {w wr : World} {a b : Int} {oa : Option Addr} {n cap m u o : Nat} (h : Cb w wr a b oa n cap m u o) (i : Nat) : wr.frozen? ⟨w.heap.size + 2, i, none⟩ = false ∧ wr.frozen? ⟨w.heap.size + 1, i, none⟩ = false := by
  simp [World.frozen?, h.cnt, h.told]
theorem Cb.set {w wr : World} {a b : Int} {oa : Option Addr} {n cap m u o m' u' o' : Nat} (h : Cb w wr a b oa n cap m u o) (i : Nat) (v : Value) (e : (#[Value.int .i64 b, .int .i64 (m : Int), .int .i64 (u : Int), .int .i64 (o : Int)] : Array Value).setIfInBounds i v = #[.int .i64 b, .int .i64 (m' : Int), .int .i64 (u' : Int), .int .i64 (o' : Int)]) : Cb w (wr.setCell ⟨w.heap.size + 2, i, none⟩ v) a b oa n cap m' u' o' := by
  refine ⟨(heap_setCell_other wr _ _ v (by show w.heap.size ≠ w.heap.size + 2; omega)).trans h.rule, (heap_setCell_other wr _ _ v (by show w.heap.size + 1 ≠ w.heap.size + 2; omega)).trans h.told, ?_, h.bl.setCell (by show w.heap.size ≤ w.heap.size + 2; omega) v⟩
  rw [← e]
  exact heap_setCell_same wr _ i _ _ v h.cnt
set_option maxRecDepth 100000 in
set_option maxHeartbeats 4000000 in
theorem countF (a b : Int) (T : List Nat) (L : List Int) (sv lv : Value) (w : World) (hs : RowI w sv (ints T)) (hl : RowI w lv L) (hR : Rise T) (hn : T.length ≤ 1000) :
    Calls Tryz.prog 106 #[.agg #[.int .i64 a, .int .i64 b, sv], lv] w fun e w' => e = .returned (cv b (mst (labs L (ints T))) (unl (labs L (ints T))) (T.length - (labs L (ints T)).length)) ∧ Below w.heap.size w w' := by
  have hs0 := hide' hs
  have hl0 := hide' hl
  obtain ⟨oa, ca, rfl, hcapa, hca⟩ := hs
  obtain ⟨ob, cb, rfl, hcapb, hcb⟩ := hl
  rw [ints_len] at hs0 ⊢
  have hca' := hide' hca
  have hcb' := hide' hcb
  have hR' := hide' hR
  clear hca hcb hR
  go_enter Tryz.func106, Tryz.ntmps106
  go_wp2
  go_loopw [6, 7, 8, 15] (fun _ _ _ k wr => ∃ (c m u o : Nat), c ≤ T.length ∧ k = .int .i64 c ∧ Hid (Cb w wr a b oa T.length ca m u o) ∧ m ≤ c ∧ u ≤ c ∧ o ≤ c ∧ Hid (m = mst (labs L (ints (T.take c))) ∧ u = unl (labs L (ints (T.take c))) ∧ o + (labs L (ints (T.take c))).length = c)) (fun _ _ _ k _ => ((T.length : Int) - intOf k).toNat)
  case atStart =>
    refine ⟨0, 0, 0, 0, Nat.zero_le _, rfl, ?_, Nat.le_refl _, Nat.le_refl _, Nat.le_refl _, ⟨rfl, rfl, rfl⟩⟩
    refine ⟨?_, ?_, ?_, (((Below.refl _ w).alloc (Nat.le_refl _) _).alloc (by simp) _).alloc (by simp; omega) _⟩
    · exact (push3 w.heap _ _ _).1
    · exact (push3 w.heap _ _ _).2.1
    · exact (push3 w.heap _ _ _).2.2
  case round =>
    obtain ⟨c, m, u, o, hc, rfl, hC, hm1, hu1, ho1, hq⟩ := hrel
    obtain ⟨k0, k1, k2, k3, k4⟩ := hC.out.cells
    by_cases hlt : c < T.length
    · obtain ⟨t, ht⟩ : ∃ t, T[c]? = some t := ⟨_, List.getElem?_eq_getElem hlt⟩
      obtain ⟨g, p, rfl, c1'⟩ := hca'.out c t (ints_at ht)
      have c1 := (hC.out.bl.cell (p := ⟨g, p + c, none⟩) (cell_lt c1')).trans c1'
      by_cases htl : t < L.length
      · obtain ⟨y, hy⟩ : ∃ y, L[t]? = some y := ⟨_, List.getElem?_eq_getElem htl⟩
        obtain ⟨g2, p2, rfl, c2'⟩ := hcb'.out t y hy
        have c2 := (hC.out.bl.cell (p := ⟨g2, p2 + t, none⟩) (cell_lt c2')).trans c2'
        have htl' : (t : Int) < (L.length : Int) := by omega
        have htl2 : decide ((L.length : Int) ≤ (t : Int)) = false := decide_eq_false (by omega)
        have hcca : c ≤ ca := by have := hcapa.1; rw [ints_len] at this; omega
        have hcca' : (c : Int) ≤ (ca : Int) := by omega
        have hall : ∀ t' ∈ T.take c, t' < L.length := fun t' h' => by
          obtain ⟨i, hi⟩ := List.getElem?_of_mem h'
          rw [List.getElem?_take] at hi
          split at hi
          · have := hR'.out i c t' t (by omega) hi ht; omega
          · cases hi
        obtain ⟨q, hqe⟩ : ∃ q, q = (labs L (ints (T.take c))).count y := ⟨_, rfl⟩
        have hqc : q ≤ c := by rw [hqe]; exact labs_count L T c y
        have KT : Hid (∀ n, Calls Tryz.prog 118 #[.int .i64 y, .slice (some ⟨g, p, none⟩) c ca, .slice (some ⟨g2, p2, none⟩) L.length cb] (wr.drewN n) fun e w' => e = .returned (.int .i64 (q : Int)) ∧ w' = wr.drewN n) := fun n => by
          have hB : Below w.heap.size w (wr.drewN n) := hC.out.bl.trans ((drew_belowR wr n).mono hC.out.bl.size)
          have hs1 : RowI w (.slice (some ⟨g, p, none⟩) (ints T).length ca) (ints T) := by rw [ints_len]; exact hs0.out
          have := timesOf y (T.take c) L _ _ (wr.drewN n) (by rw [ints_take]; exact (row_take hs1 (n := c) (by rw [ints_len]; omega)).below hB (Nat.le_refl _)) (hl0.out.below hB (Nat.le_refl _)) hall (by rw [List.length_take]; omega)
          rwa [← hqe] at this
        obtain ⟨hq1, hq2, hq3⟩ := hq.out
        have hM : Hid (mst (labs L (ints (T.take (c + 1)))) = max m (q + 1)) := by show _ = _; rw [labs_more ht hy, mst_snoc, ← hq1, ← hqe]
        have hU : Hid (unl (labs L (ints (T.take (c + 1)))) = u + if q = 0 then 1 else 0) := by
          show _ = _
          rw [labs_more ht hy, unl_snoc, ← hq2]
          by_cases h0 : q = 0
          · rw [if_pos h0, if_neg (by rw [← List.count_pos_iff]; omega)]
          · rw [if_neg h0, if_pos (by rw [← List.count_pos_iff]; omega)]
        have hO : Hid (o + (labs L (ints (T.take (c + 1)))).length = c + 1) := by show _ = _; rw [labs_more ht hy, List.length_append, List.length_singleton]; omega
        have hwr : IntKind.i64.wrap (1 + (q : Int)) = 1 + (q : Int) := by rw [Int.add_comm]; exact wr1R q (by omega)
        have hwr2 : IntKind.i64.wrap ((q : Int) + 1) = (q : Int) + 1 := wr1R q (by omega)
        clear hs0 hl0 hca' hcb' hR' ht hy c1' c2' hq hq1 hq2 hq3 hqe hall hcapa hcapb
        have hS : Hid (wr.drew.cell? ⟨g2, p2 + t, none⟩ = some (.int .i64 y) ∧ wr.drew.cell? ⟨w.heap.size, 2, none⟩ = some (.slice (some ⟨g, p, none⟩) T.length ca)) := ⟨c2, k0⟩
        have hC' := hide' (hC.out.drewN 1)
        clear hC
        go_wp2_with fail
        go_region_held3 (fun V => V.cell? ⟨g2, p2 + t, none⟩ = some (.int .i64 y) ∧ V.cell? ⟨w.heap.size, 2, none⟩ = some (.slice (some ⟨g, p, none⟩) T.length ca)) (first | (assumption) | (exact hS.out)) (first | (go_at_call 118; refine (KT.out 1).mono ?_; rintro e w3 ⟨rfl, rfl⟩))
        obtain ⟨k0', k1', k2', k3', k4'⟩ := hC'.out.cells
        have f1 := (hC'.out.frozen 1).1
        have f2 := (hC'.out.frozen 2).1
        clear k0 k1 k2 k3 k4 KT hS c1 c2
        generalize wr.drewN 1 = w3 at *
        by_cases h0 : q = 0
        · have e0 : (1 + (q : Int) == 1) = true := by simp; omega
          rw [if_pos h0] at hU
          by_cases hmq : m < q + 1
          · have hmq' : (m : Int) < 1 + (q : Int) := by omega
            have hM' : Hid (mst (labs L (ints (T.take (c + 1)))) = q + 1) := by show _ = _; rw [hM.out]; omega
            go_wp2
            exact ⟨⟨c + 1, q + 1, u + 1, o, by omega, by go_num, (hC'.out.set (m' := m) (u' := u + 1) (o' := o) 2 _ (by simp)).set 1 _ (by simp; omega), by omega, by omega, by omega, ⟨hM'.out.symm, hU.out.symm, hO.out⟩⟩, by simp [intOf]; omega⟩
          · have hmq' : ¬ (m : Int) < 1 + (q : Int) := by omega
            have hM' : Hid (mst (labs L (ints (T.take (c + 1)))) = m) := by show _ = _; rw [hM.out]; omega
            go_wp2
            exact ⟨⟨c + 1, m, u + 1, o, by omega, by go_num, (hC'.out.set (m' := m) (u' := u + 1) (o' := o) 2 _ (by simp)).set 1 _ (by simp), by omega, by omega, by omega, ⟨hM'.out.symm, hU.out.symm, hO.out⟩⟩, by simp [intOf]; omega⟩
        · have e0 : (1 + (q : Int) == 1) = false := by simp; omega
          rw [if_neg h0] at hU
          by_cases hmq : m < q + 1
          · have hmq' : (m : Int) < 1 + (q : Int) := by omega
            have hM' : Hid (mst (labs L (ints (T.take (c + 1)))) = q + 1) := by show _ = _; rw [hM.out]; omega
            go_wp2
            exact ⟨⟨c + 1, q + 1, u, o, by omega, by go_num, hC'.out.set 1 _ (by simp; omega), by omega, by omega, by omega, ⟨hM'.out.symm, hU.out.symm, hO.out⟩⟩, by simp [intOf]; omega⟩
          · have hmq' : ¬ (m : Int) < 1 + (q : Int) := by omega
            have hM' : Hid (mst (labs L (ints (T.take (c + 1)))) = m) := by show _ = _; rw [hM.out]; omega
            go_wp2
            exact ⟨⟨c + 1, m, u, o, by omega, by go_num, hC'.out.set 1 _ (by simp), by omega, by omega, by omega, ⟨hM'.out.symm, hU.out.symm, hO.out⟩⟩, by simp [intOf]; omega⟩
      · have htl' : ¬ (t : Int) < (L.length : Int) := by omega
        have hO : Hid (mst (labs L (ints (T.take (c + 1)))) = m ∧ unl (labs L (ints (T.take (c + 1)))) = u ∧ o + 1 + (labs L (ints (T.take (c + 1)))).length = c + 1) := by
          obtain ⟨hq1, hq2, hq3⟩ := hq.out
          rw [labs_same ht (List.getElem?_eq_none (by omega))]
          exact ⟨hq1.symm, hq2.symm, by omega⟩
        have f3 := (hC.out.frozen 3).1
        clear hs0 hl0 hca' hcb' hR' ht hq c1'
        go_wp2
        exact ⟨⟨c + 1, m, u, o + 1, by omega, by go_num, hC.out.set 3 _ (by simp), by omega, by omega, by omega, ⟨hO.out.1.symm, hO.out.2.1.symm, hO.out.2.2⟩⟩, by simp [intOf]; omega⟩
    · obtain rfl : c = T.length := by omega
      rw [List.take_length] at hq
      clear hs0 hl0 hca' hcb' hR'
      have f0 := (hC.out.frozen 0).2
      have f1 := (hC.out.frozen 1).2
      have f2 := (hC.out.frozen 2).2
      have f3 := (hC.out.frozen 3).2
      obtain ⟨t0, t1, t2, t3⟩ := hC.out.toldc
      go_wp2
      refine bodyPost_ret (v := .agg #[.int .i64 b, .int .i64 (m : Int), .int .i64 (u : Int), .int .i64 (o : Int)]) (by simp [results, Tryz.results106, go_sem, t0, t1, t2, t3]) rfl ?_
      refine ⟨?_, (((hC.out.bl.setCell (Nat.le_succ _) _).setCell (Nat.le_succ _) _).setCell (Nat.le_succ _) _).setCell (Nat.le_succ _) _⟩
      obtain ⟨q1, q2, q3⟩ := hq.out
      rw [← q1, ← q2, show T.length - (labs L (ints T)).length = o by omega]
      rfl
end Go.Proofs.YtlijlelejobchaaGreatDoor

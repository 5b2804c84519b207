/- Copies of a problem that are written over: words joined, a rule taken out. -/
import Derived.Test.YtdcenbkminbpgaaDoorJ26
import Derived.Test.YtdcenbkminbpgaaDoorJ28
namespace Go.Proofs.YtdcenbkminbpgaaDoor.S
open Go.RowKit Go.Shelf
/-- Cut, its rows one's own. -/
theorem cutG (P : Pb) (wv fv rv : Value) (w : World) (h : PbV w (cutP P) wv fv rv) :
    Calls Tryd.prog 7 #[pbV (cutP P) wv fv rv] w fun e w' => ∃ oa ca ob cb oc cc E, e = .returned (.agg #[.int .i64 (cutP P).users, .slice oa (cutP P).who.length ca, .slice ob (cutP P).fixed.length cb, .slice oc (cutP P).rules.length cc]) ∧ Hid (w'.ownsRow w.heap.size 34 1 (.slice oa (cutP P).who.length ca) (cutP P).who.length (cellsW (cutP P).who) ∧ w'.ownsRow w.heap.size 3 1 (.slice ob (cutP P).fixed.length cb) (cutP P).fixed.length (cellsI (cutP P).fixed) ∧ TwS w.heap.size w' (.slice oc (cutP P).rules.length cc) E ∧ E.map Prod.fst = (cutP P).rules) ∧ Hid (Below w.heap.size w w') := by
  refine (cutF (cutP P) wv fv rv w h).mono ?_
  rintro e w' ⟨va, vb, vc, E, rfl, hO, hB⟩
  obtain ⟨o1, o2, o3, o4⟩ := hO.out
  have e1 : (cutP P).who.take 20 = (cutP P).who := congrArg Pb.who (cutP_cut P)
  have e2 : (cutP P).fixed.take 20 = (cutP P).fixed := congrArg Pb.fixed (cutP_cut P)
  have e3 : ((cutP P).rules.take 40).map cutR = (cutP P).rules := congrArg Pb.rules (cutP_cut P)
  rw [e1] at o1
  rw [e2] at o2
  rw [e3] at o4
  obtain ⟨oa, ca, rfl⟩ := own_shp o1
  obtain ⟨ob, cb, rfl⟩ := own_shp o2
  have o3' := o3.row
  have el : E.length = (cutP P).rules.length := by rw [← o4, List.length_map]
  obtain ⟨oc, cc, rfl⟩ := own_shp o3'
  rw [el] at o3 ⊢
  exact ⟨oa, ca, ob, cb, oc, cc, E, rfl, ⟨o1, o2, o3, o4⟩, hB⟩
/-- A copy and its box. -/
structure Cp (B : Nat) (X : Pb) (gx : Nat) (va vb vc : Value) (E : List (Rl × Value)) (W : World) : Prop where
  r1 : W.ownsRow B 34 1 va X.who.length (cellsW X.who)
  r2 : W.ownsRow B 3 1 vb X.fixed.length (cellsI X.fixed)
  r3 : TwS B W vc E
  e3 : E.map Prod.fst = X.rules
  bx : QAt W gx X.users va vb vc
  ge : B ≤ gx
section
variable {B : Nat} {X : Pb} {gx : Nat} {va vb vc : Value} {E : List (Rl × Value)} {W W' : World}
theorem Cp.pv (h : Cp B X gx va vb vc E W) : PbV W X va vb vc := by
  have := h.r3.rowR
  rw [h.e3] at this
  exact ⟨RowW.of_owns h.r1, RowI.of_owns h.r2, this⟩
theorem Cp.over (h : Cp B X gx va vb vc E W) (hb : Below W.heap.size W W') : Cp B X gx va vb vc E W' :=
  ⟨own_below h.r1 hb (Nat.le_refl _), own_below h.r2 hb (Nat.le_refl _), h.r3.below hb (Nat.le_refl _), h.e3, h.bx.of (hb.block _ h.bx.lt), h.ge⟩
theorem Cp.new (h1 : W.ownsRow B 34 1 va X.who.length (cellsW X.who)) (h2 : W.ownsRow B 3 1 vb X.fixed.length (cellsI X.fixed)) (h3 : TwS B W vc E) (h4 : E.map Prod.fst = X.rules) (hB : B ≤ W.heap.size) : Cp B X W.heap.size va vb vc E (W.alloc (.cells #[.int .i64 X.users, va, vb, vc] 26)) := by
  have hb : Below W.heap.size W (W.alloc (.cells #[.int .i64 X.users, va, vb, vc] 26)) := (Below.refl _ W).alloc (Nat.le_refl _) _
  exact ⟨own_below h1 hb (Nat.le_refl _), own_below h2 hb (Nat.le_refl _), h3.below hb (Nat.le_refl _), h4, QAt.block (heap_new W _), hB⟩
/-- A word written. -/
theorem Cp.setW {gw cw : Nat} (h : Cp B X gx (.slice (some ⟨gw, 0, none⟩) X.who.length cw) vb vc E W) (j z : Nat) : Cp B ⟨X.users, X.who.set j z, X.fixed, X.rules⟩ gx (.slice (some ⟨gw, 0, none⟩) X.who.length cw) vb vc E (W.setCell ⟨gw, j, none⟩ (.int .u64 (z : Int))) ∧ B ≤ gw := by
  have hge : B ≤ gw := own_ge' h.r1 rfl
  have hs := h.r1.stored j (.int .u64 (z : Int))
  have hne : gw ≠ gx := own_ne_q h.r1 h.bx (by decide) rfl
  refine ⟨⟨?_, kept_kind h.r2 h.r1 (by decide) hs.2, ⟨kept_kind h.r3.row h.r1 (by decide) hs.2, fun p hp => kept_kind (h.r3.inner p hp) h.r1 (by decide) hs.2⟩, h.e3, h.bx.of (Below.heap_setCell _ _ _ _ (fun e => hne e.symm)), h.ge⟩, hge⟩
  have := hs.1
  rw [cellsW_setQ] at this
  show World.ownsRow _ _ _ _ _ (X.who.set j z).length (cellsW (X.who.set j z))
  rw [List.length_set]
  exact this
end
/-- Where l[k+1:] begins. -/
def adr3 (g cap k : Nat) : Addr := if cap = k + 1 then ⟨g, 0, none⟩ else ⟨g, (k + 1) * 3, none⟩
theorem sliceH3 (g k l cap : Nat) (h1 : k < l) (h2 : l ≤ cap) (W : World) : (Instr.sliceAt 24 (.slice (some ⟨g, 0, none⟩) l cap) none (some (.int .i64 (k : Int))) none).run Tryd.prog W = .ok (.slice (some ⟨g, 0, none⟩) k cap) W := by
  have e1 : ¬ cap = 0 := by omega
  rw [run_sliceAt_slice _ _ _ _ _ _ (by kernel_rfl), run_slice_h _ _ _ _ _ (by kernel_rfl) _ _ (by omega) (by omega)]
  simp [go_sem, sliced, e1, Addr.add]
theorem sliceL3 (g k l cap : Nat) (h1 : k < l) (W : World) : (Instr.sliceAt 24 (.slice (some ⟨g, 0, none⟩) l cap) (some (.int .i64 ((k : Int) + 1))) none none).run Tryd.prog W = .ok (.slice (some (adr3 g cap k)) (l - (k + 1)) (cap - (k + 1))) W := by
  rw [run_sliceAt_slice _ _ _ _ _ _ (by kernel_rfl), run_slice_l _ _ _ _ _ (by kernel_rfl) _ _ (by omega) (by omega)]
  have e2 : ((k : Int) + 1).toNat = k + 1 := by omega
  unfold adr3
  by_cases h : cap = k + 1
  · simp [go_sem, sliced, h, e2]
  · simp [go_sem, sliced, h, e2, Addr.add]
theorem cellsR_app (L M : List (Rl × Value)) : cellsR (L ++ M) = cellsR L ++ cellsR M := by unfold cellsR; rw [List.flatMap_append]
theorem cellsR_one {B : Nat} {W : World} {v : Value} {E : List (Rl × Value)} (h : TwS B W v E) : ∀ u ∈ cellsR E, u.oneCell' = true := fun u hu => by
  unfold cellsR at hu
  obtain ⟨p, hp, hq⟩ := List.mem_flatMap.1 hu
  exact rcells_one p (own_one (h.inner p hp)) u hq
/-- A rule taken out. -/
theorem app_less {o : Oper} {a : Act} {K : Act → World → Prop} {Q : Exit → Act → World → Prop} (s x : Operand) (W : World) (B : Nat) (X : Pb) (gx : Nat) (va vb : Value) (E : List (Rl × Value)) (g n cap k : Nat) (hk : k < n) (hn : n = X.rules.length) (hn2 : n ≤ 1000)
    (ho : o.op = .call { callee := .builtin .append, args := #[s, x], argTypes := #[24, 24] }) (hs : a.eval s = .slice (some ⟨g, 0, none⟩) k cap) (hx : a.eval x = .slice (some (adr3 g cap k)) (n - (k + 1)) (cap - (k + 1))) (h : Cp B X gx va vb (.slice (some ⟨g, 0, none⟩) n cap) E W) (hB : B ≤ W.heap.size)
    (hK : ∀ o2 n2 c2 w', Hid (QAt w' gx X.users va vb (.slice (some ⟨g, 0, none⟩) n cap)) → Hid (Cp B (lsR X k) gx va vb (.slice o2 n2 c2) (E.take k ++ E.drop (k + 1)) (w'.setCell ⟨gx, 3, none⟩ (.slice o2 n2 c2))) → Hid (Below B W (w'.setCell ⟨gx, 3, none⟩ (.slice o2 n2 c2))) → K (a.put o.dst (.slice o2 n2 c2)) w') : o.wp Tryd.prog a W K Q := by
  obtain ⟨i0, hi0, hz0, hz1, hz2⟩ := info_parts infoR
  have hel : E.length = n := by rw [hn, ← h.e3, List.length_map]
  have hrow := h.r3.row
  rcases hrow.2 with ⟨e, _⟩ | ⟨g', cap', cur, e, hge, hcur, hnc, hcm, hcs, htk⟩
  · cases e
  simp only [Value.slice.injEq, Option.some.injEq, Addr.mk.injEq, and_true] at e
  obtain ⟨rfl, en, rfl⟩ := e
  have hown : W.ownsRow B 53 3 (.slice (some ⟨g, 0, none⟩) k cap) k (cellsR (E.take k)) := by
    refine ⟨by rw [cellsR_len, List.length_take]; omega, .inr ⟨g, cap, cur, rfl, hge, hcur, by omega, hcm, hcs, ?_⟩⟩
    have e1 : (cellsR E).take (k * 3) = cellsR (E.take k) := by
      conv => lhs; rw [← List.take_append_drop k E, cellsR_app]
      exact List.take_left' (by rw [cellsR_len, List.length_take]; omega)
    rw [← e1, ← htk, List.take_take, Nat.min_eq_left (by omega)]
  have hcell : ∀ (i : Nat) u, (cellsR E)[i]? = some u → W.cell? ⟨g, i, none⟩ = some u := fun i u hu => by
    have hi : i < n * 3 := by have := (List.getElem?_eq_some_iff.1 hu).1; rw [cellsR_len] at this; omega
    rw [← htk, List.getElem?_take, if_pos (by omega)] at hu
    have hu' : cur[i]? = some u := by rw [← Array.getElem?_toList]; exact hu
    simp [World.cell?, hcur, hu']
  refine wp_append_own W s x 24 ho B 53 i0 (.agg #[.int .i64 0, .int .i64 0, .slice none 0 0]) 3 40 Tryd.underlying24 hi0 hz0 hz1 hz2 rfl (by decide) _ k (cellsR (E.take k)) hs hown (adr3 g cap k) (n - (k + 1)) (cap - (k + 1)) (cellsR (E.drop (k + 1))) hx (by rw [cellsR_len, List.length_drop]; omega) ?_ (fun u hu => cellsR_one h.r3 u ?_) (by unfold maxLen; omega) (by omega) hB ?_
  · intro j u hu
    have hj : j < (n - (k + 1)) * 3 := by have := (List.getElem?_eq_some_iff.1 hu).1; rw [cellsR_len, List.length_drop] at this; omega
    unfold adr3
    rw [if_neg (by omega), Addr.add_lit]
    refine hcell _ _ ?_
    conv => lhs; rw [← List.take_append_drop (k + 1) E, cellsR_app]
    have hl : (cellsR (E.take (k + 1))).length = (k + 1) * 3 := by rw [cellsR_len, List.length_take]; omega
    rw [List.getElem?_append_right (by omega), hl, show (k + 1) * 3 + j - (k + 1) * 3 = j by omega]
    exact hu
  · rw [← List.take_append_drop (k + 1) E, cellsR_app]
    exact List.mem_append_right _ hu
  · intro v' w' h1 h2 _
    rw [← cellsR_app] at h1
    obtain ⟨o2, c2, rfl⟩ := own_shp h1
    have hkd : ∀ {e sz : Nat} {v : Value} {m : Nat} {xs : List Value}, W.ownsRow B e sz v m xs → e ≠ 53 → w'.ownsRow B e sz v m xs := fun hr he => kept_kind hr hrow he h2
    have hq : QAt w' gx X.users va vb (.slice (some ⟨g, 0, none⟩) n cap) := h.bx.of (h2.block gx h.bx.lt (fun q => own_ne_q hrow h.bx (by decide) rfl (Option.some.inj q).symm))
    have hm : (E.take k ++ E.drop (k + 1)).length = k + (n - (k + 1)) := by rw [List.length_append, List.length_take, List.length_drop]; omega
    have hT : TwS B w' (.slice o2 (k + (n - (k + 1))) c2) (E.take k ++ E.drop (k + 1)) := ⟨by rw [hm]; exact h1, fun p hp => hkd (h.r3.inner p (by rcases List.mem_append.1 hp with q | q; exact List.mem_of_mem_take q; exact List.mem_of_mem_drop q)) (by decide)⟩
    have hset : ∀ {e sz : Nat} {v : Value} {m : Nat} {xs : List Value} (u : Value), w'.ownsRow B e sz v m xs → e ≠ 26 → (w'.setCell ⟨gx, 3, none⟩ u).ownsRow B e sz v m xs := fun u hr he => own_same hr fun b _ eb => Below.heap_setCell _ _ _ _ (own_ne_q hr hq he eb)
    refine hK o2 _ c2 w' hq ⟨hset _ (hkd h.r1 (by decide)) (by decide), hset _ (hkd h.r2 (by decide)) (by decide), ⟨hset _ hT.row (by decide), fun p hp => hset _ (hT.inner p hp) (by decide)⟩, ?_, hq.s3 _, h.ge⟩ (((Below.refl B W).grown h2 hB (fun b e => by cases e; exact hge)).setCell (p := ⟨gx, 3, none⟩) h.ge _)
    show (E.take k ++ E.drop (k + 1)).map Prod.fst = X.rules.take k ++ X.rules.drop (k + 1)
    rw [← h.e3, List.map_append, List.map_take, List.map_drop]
end Go.Proofs.YtdcenbkminbpgaaDoor.S

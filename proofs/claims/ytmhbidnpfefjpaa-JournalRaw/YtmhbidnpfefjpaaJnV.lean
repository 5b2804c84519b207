/- few, rows; rows of rows of bytes that are one's own. -/
import Derived.Test.YtmhbidnpfefjpaaJnO
import Derived.Test.YtmhbidnpfefjpaaJnT
namespace Go.Proofs.Ytmhbidnpfefjpaa
open Go.RowKit
/-- All bytes of a row, laid behind an empty one. -/
theorem app_all {W : World} {ops : Array Oper} {rest : List Oper} {o : Oper} {a : Act} {Q : Exit → Act → World → Prop} (hgd : o.guard = none) (s x : Operand) (ho : o.op = .call { callee := .builtin .append, args := #[s, x], argTypes := #[34, 34] })
    (es : a.eval s = .slice (some ⟨W.heap.size, 0, none⟩) 0 0) (v : Value) (ex : a.eval x = v) (L : List Nat) (hr : RowC W v L) (hl : L.length ≤ 1000000)
    (hK : ∀ o1 n1 c1 w1, Hid (n1 = L.length) → Hid (w1.ownsRow W.heap.size 5 1 (.slice o1 n1 c1) L.length (cellsB L)) → Hid (Below W.heap.size W w1) → wpList Try.prog ops Q rest (a.put o.dst (.slice o1 n1 c1)) w1) : wpList Try.prog ops Q (o :: rest) a (W.alloc (.cells #[] 5)) := by
  obtain ⟨oa, cap, rfl, hcap, hc⟩ := hr
  obtain ⟨i0, hi, hz0, hz1, hz2⟩ := info_parts infoU8
  cases oa with
  | none =>
    obtain ⟨h1, h2⟩ := hcap
    have := h2 rfl
    subst this
    obtain rfl : L = [] := List.eq_nil_of_length_eq_zero (by omega)
    refine wpList_append_own_none hgd s x 34 ho W.heap.size 5 i0 1 Try.underlying34 hi _ 0 (cellsB []) es (owns_zero W _) ex ?_
    exact hK _ _ _ _ rfl (owns_zero W _) ((Below.refl _ W).alloc (Nat.le_refl _) _)
  | some ad =>
    have hnews : ∀ j u, (cellsB L)[j]? = some u → W.cell? (ad.add j) = some u := fun j u hu => by
      obtain ⟨z, hz, rfl⟩ := cellsB_at hu
      obtain ⟨g, o, e, hcell⟩ := hc j z hz
      cases e
      rw [Addr.add_lit]; exact hcell
    refine wpList_append_own _ hgd s x 34 ho W.heap.size 5 i0 (.int .u8 0) 1 1 Try.underlying34 hi hz0 hz1 hz2 rfl (by decide) _ 0 (cellsB []) es (owns_zero W _) ad L.length cap (cellsB L) ex (by simp [cellsB]) (fun j u hu => cell_new (hnews j u hu)) (oneB _) (by unfold maxLen; omega) (by omega) (by simp) ?_
    intro v1 w1 hown1 hgrow1 hnil
    have hown : w1.ownsRow W.heap.size 5 1 v1 (0 + L.length) (cellsB L) := hown1
    rw [Nat.zero_add] at hown
    obtain ⟨o1, c1, rfl⟩ := own_shp hown
    exact hK _ _ _ _ rfl hown (((Below.refl _ W).alloc (Nat.le_refl _) _).grown hgrow1 (by simp) (fun j ej => by cases ej; exact Nat.le_refl _))
theorem RowC.take {W : World} {oa : Option Addr} {n cap : Nat} {L : List Nat} (h : RowC W (.slice oa n cap) L) (k : Nat) (hk : k ≤ L.length) : RowC W (.slice oa k cap) (L.take k) := by
  obtain ⟨oa', cap', e, e0, hc⟩ := h
  injection e with e1 e2 e3
  subst e1 e3
  refine ⟨oa, cap, by rw [List.length_take, Nat.min_eq_left hk], ⟨by rw [List.length_take]; omega, e0.2⟩, fun i z hz => ?_⟩
  rw [List.getElem?_take] at hz
  split at hz
  · exact hc i z hz
  · cases hz
set_option maxRecDepth 100000 in
set_option maxHeartbeats 1000000 in
theorem fewV (L : List Nat) (v : Value) (W : World) (most : Nat) (hm : most ≤ 10000) (hr : RowC W v L) :
    Calls Try.prog 12 #[v, .int .i64 (most : Int)] W fun e w' => ∃ o1 n1 c1, e = .returned (.slice o1 n1 c1) ∧ Hid (n1 = (L.take most).length) ∧ Hid (w'.ownsRow W.heap.size 5 1 (.slice o1 n1 c1) (L.take most).length (cellsB (L.take most))) ∧ Hid (Below W.heap.size W w') := by
  have hr' := hide' hr
  obtain ⟨oa, cap, rfl, hcap, _⟩ := hr
  have hcap1 := hcap.1
  clear hcap
  by_cases hlong : most < L.length
  · have h1 : (most : Int) < (L.length : Int) := by omega
    have hrt := hide' (hr'.out.take most (by omega))
    have hl1 : most ≤ cap := by omega
    have hlt : Hid ((L.take most).length ≤ 1000000) := by unfold Hid; rw [List.length_take]; omega
    generalize L.take most = M at *
    generalize L.length = ln at *
    go_enter Try.func12, Try.ntmps12
    go_wp2_with (at_builtin; refine app_all rfl (.tmp 12) (.tmp 13) rfl rfl _ rfl M hrt.out hlt.out ?_; intro o1 n1 c1 w1 hn1 hown1 hbe1)
    go_ret
    exact ⟨o1, n1, c1, rfl, hn1, hown1, hbe1⟩
  · have h1 : ¬ (most : Int) < (L.length : Int) := by omega
    rw [List.take_of_length_le (by omega)]
    have hlt : Hid (L.length ≤ 1000000) := by unfold Hid; omega
    generalize hln : L.length = ln at *
    have hln' := hide' hln
    clear hln
    go_enter Try.func12, Try.ntmps12
    go_wp2_with (at_builtin; refine app_all rfl (.tmp 12) (.tmp 13) rfl rfl _ rfl L hr'.out (by rw [hln'.out]; exact hlt.out) ?_; intro o1 n1 c1 w1 hn1 hown1 hbe1)
    go_ret
    rw [hln'.out] at hn1 hown1
    exact ⟨o1, n1, c1, rfl, hn1, hown1, hbe1⟩
/-- A row of rows of bytes, as it reads. -/
def RowR (W : World) (v : Value) (R : List (List Nat)) : Prop := ∃ oa cap, v = .slice oa R.length cap ∧ ∀ (i : Nat) (r : List Nat), R[i]? = some r → ∃ g o u, oa = some ⟨g, o, none⟩ ∧ W.cell? ⟨g, o + i, none⟩ = some u ∧ RowC W u r
theorem below_drewN {n : Nat} {w w' : World} (h : Below n w w') : ∀ k, Below n w (w'.drewN k) := by
  intro k
  induction k with
  | zero => exact h
  | succ k ih => exact ih.drew
theorem conv_drew {w : World} {v : Value} {L : List Nat} (h : RowC w v L) (q : Nat) : (convert 34 9 v).run Try.prog (w.drewN q) = .ok (.string (strB L)) (w.drewN q) :=
  conv_bytes (h.below (below_drewN (Below.refl w.heap.size w) q) (Nat.le_refl _))
theorem RowR.below {W W' : World} {v : Value} {R : List (List Nat)} (h : RowR W v R) (hb : Below W.heap.size W W') : RowR W' v R := by
  obtain ⟨oa, cap, e, hc⟩ := h
  refine ⟨oa, cap, e, fun i r hr => ?_⟩
  obtain ⟨g, o, u, e1, e2, e3⟩ := hc i r hr
  exact ⟨g, o, u, e1, (hb.cell (p := ⟨g, o + i, none⟩) (cell_lt e2)).trans e2, e3.below hb (Nat.le_refl _)⟩
set_option maxRecDepth 100000 in
set_option maxHeartbeats 2000000 in
theorem rowsF {W : World} {va vb : Value} {R : List (List Nat)} (ha : RowR W va R) (hb : RowR W vb R) (hn : R.length ≤ 1000000) : Calls Try.prog 22 #[va, vb] W fun e w' => e = .returned (.bool true) ∧ Below W.heap.size W w' := by
  obtain ⟨oa, ca, rfl, ha⟩ := ha
  obtain ⟨ob, cb, rfl, hb⟩ := hb
  have ha' := hide' ha
  have hb' := hide' hb
  clear ha hb
  generalize hm : R.length = m at *
  have hm' := hide' hm
  clear hm
  go_enter Try.func22, Try.ntmps22
  go_wp2
  go_loopw [5] (fun iv wr => Hid (Below W.heap.size W wr) ∧ ∃ i : Nat, iv = .int .i64 (i : Int) ∧ i ≤ m) (fun iv _ => ((m : Int) - intOf iv).toNat)
  case atStart => exact ⟨Below.refl _ _, 0, rfl, by omega⟩
  case round =>
    obtain ⟨hbe, i, rfl, hi⟩ := hrel
    by_cases hik : i < m
    · have hik' : (i : Int) < (m : Int) := by omega
      obtain ⟨r, hr⟩ : ∃ r, R[i]? = some r := ⟨_, List.getElem?_eq_getElem (by rw [hm'.out]; exact hik)⟩
      obtain ⟨g, o, u, rfl, hc, hrow⟩ := ha'.out i r hr
      obtain ⟨g2, o2, u2, rfl, hc2, hrow2⟩ := hb'.out i r hr
      have d1 := (hbe.out.cell (p := ⟨g, o + i, none⟩) (cell_lt hc)).trans hc
      have d2 := (hbe.out.cell (p := ⟨g2, o2 + i, none⟩) (cell_lt hc2)).trans hc2
      have cb1 := conv_drew (hrow.below hbe.out (Nat.le_refl _))
      have cb2 := conv_drew (hrow2.below hbe.out (Nat.le_refl _))
      generalize strB r = sb at *
      clear hc hc2 hrow hrow2 hr
      go_wp2_with fail
      go_quiet (fail)
      have hbe2 := hide' (below_drewN hbe.out nq)
      go_wp2
      exact ⟨⟨hbe2, i + 1, by go_num, by omega⟩, by simp [intOf]; omega⟩
    · have hik' : ¬ (i : Int) < (m : Int) := by omega
      go_wp2
      go_ret
      exact ⟨rfl, hbe.out⟩
/-- A row of rows of bytes, each in memory of its own. -/
structure RsO (W : World) (B : Nat) (v : Value) (G : List (Value × List Nat)) : Prop where
  own : W.ownsRow B 34 1 v G.length (G.map (·.1))
  inn : ∀ p ∈ G, W.ownsRow B 5 1 p.1 p.2.length (cellsB p.2)
theorem RsO.nil (W : World) (B : Nat) : RsO W B (.slice none 0 0) [] := ⟨World.ownsRow_nil _ _ _ _, (fun p h => by cases h)⟩
theorem own_kept {W W' : World} {B : Nat} {e : TypeId} {sz : Nat} {v : Value} {n : Nat} {xs : List Value} (h : W.ownsRow B e sz v n xs) (hb : ∀ k, k < W.heap.size → B ≤ k → (∃ cs, W.heap[k]? = some (.cells cs e (0, 0))) → W'.heap[k]? = W.heap[k]?) : W'.ownsRow B e sz v n xs := by
  refine ⟨h.1, ?_⟩
  rcases h.2 with q | ⟨g, cap, cur, e, h1, hg, h3⟩
  · exact .inl q
  · exact .inr ⟨g, cap, cur, e, h1, (hb g (blk_lt hg) h1 ⟨cur, hg⟩).trans hg, h3⟩
theorem own_lowB {W : World} {B B' : Nat} {e : TypeId} {sz : Nat} {v : Value} {n : Nat} {xs : List Value} (h : W.ownsRow B e sz v n xs) (hB : B' ≤ B) : W.ownsRow B' e sz v n xs := by
  refine ⟨h.1, ?_⟩
  rcases h.2 with q | ⟨g, cap, cur, e, h1, h3⟩
  · exact .inl q
  · exact .inr ⟨g, cap, cur, e, Nat.le_trans hB h1, h3⟩
theorem RsO.move {W W' : World} {B : Nat} {v : Value} {G : List (Value × List Nat)} (h : RsO W B v G) (hb : ∀ k, k < W.heap.size → B ≤ k → (∃ cs T, (T = 5 ∨ T = 34) ∧ W.heap[k]? = some (.cells cs T (0, 0))) → W'.heap[k]? = W.heap[k]?) : RsO W' B v G :=
  ⟨own_kept h.own fun k h1 h2 ⟨cs, h3⟩ => hb k h1 h2 ⟨cs, _, .inr rfl, h3⟩, fun p hp => own_kept (h.inn p hp) fun k h1 h2 ⟨cs, h3⟩ => hb k h1 h2 ⟨cs, _, .inl rfl, h3⟩⟩
theorem RsO.below {W W' : World} {B : Nat} {v : Value} {G : List (Value × List Nat)} (h : RsO W B v G) (hb : Below W.heap.size W W') : RsO W' B v G := h.move fun k hk _ _ => hb.block k hk
/-- What the journal writes is none of them. -/
theorem RsO.kj {W W' : World} {B g gb gj g' : Nat} {v : Value} {J : Jn} {G : List (Value × List Nat)} (h : RsO W B v G) (k : Kj g gb gj W W') (hg : g < B) (hb : gb < B) (hj : JnA W gj g' J) : RsO W' B v G := h.move fun i hi hB ⟨cs, T, hT, hc⟩ => k.block i hi (by omega) (by omega) (by
  rintro rfl
  unfold JnA at hj
  rw [hj] at hc
  injection hc with hc
  injection hc with _ hc
  rcases hT with rfl | rfl
  · exact absurd hc (by decide)
  · exact absurd hc (by decide))
theorem RsO.kp {W W' : World} {B g gb : Nat} {v : Value} {G : List (Value × List Nat)} (h : RsO W B v G) (k : Kp g gb W W') (hg : g < B) (hb : gb < B) : RsO W' B v G := h.move fun i hi hB _ => k.block i hi (by omega) (by omega)
theorem RsO.row {W : World} {B : Nat} {v : Value} {G : List (Value × List Nat)} (h : RsO W B v G) : RowR W v (G.map (·.2)) := by
  rcases h.own.2 with ⟨rfl, h0⟩ | ⟨g, cap, cur, rfl, _, hg, hcap, _⟩
  · obtain rfl : G = [] := List.eq_nil_of_length_eq_zero h0
    exact ⟨none, 0, rfl, fun i r hr => by cases hr⟩
  · refine ⟨some ⟨g, 0, none⟩, cap, by rw [List.length_map], fun i r hr => ?_⟩
    rw [List.getElem?_map] at hr
    cases hp : G[i]? with
    | none => rw [hp] at hr; cases hr
    | some p =>
      rw [hp] at hr
      cases hr
      have hi := (List.getElem?_eq_some_iff.1 hp).1
      have := h.own.cellAt i (by omega)
      refine ⟨g, 0, p.1, rfl, ?_, RowC.of_owns (own_lowB (h.inn p (List.mem_of_getElem? hp)) (Nat.zero_le _))⟩
      rw [Nat.zero_add, this, List.getElem?_map, hp]
      rfl
theorem RsB.row {W : World} {B : Nat} {v : Value} {G : List (Nat × List Nat)} (h : RsB W B v G) : RowR W v (G.map (·.2)) := by
  rcases h.own.2 with ⟨rfl, h0⟩ | ⟨g, cap, cur, rfl, _, hg, hcap, _⟩
  · obtain rfl : G = [] := List.eq_nil_of_length_eq_zero h0
    exact ⟨none, 0, rfl, fun i r hr => by cases hr⟩
  · refine ⟨some ⟨g, 0, none⟩, cap, by rw [List.length_map], fun i r hr => ?_⟩
    rw [List.getElem?_map] at hr
    cases hp : G[i]? with
    | none => rw [hp] at hr; cases hr
    | some p =>
      rw [hp] at hr
      cases hr
      have hi := (List.getElem?_eq_some_iff.1 hp).1
      have := h.own.cellAt i (by omega)
      refine ⟨g, 0, _, rfl, ?_, RowC.of_bk (o := 0) (h.inn p (List.mem_of_getElem? hp)).1 (fun j z hz => by rw [Nat.zero_add]; exact hz) rfl (Nat.le_refl _)⟩
      rw [Nat.zero_add, this]
      unfold cellsG
      rw [List.getElem?_map, hp]
      rfl
/-- Only rows of rows are written. -/
def KpS (W W' : World) : Prop := ∀ k, k < W.heap.size → (∀ cs, W.heap[k]? ≠ some (.cells cs 34 (0, 0))) → W'.heap[k]? = W.heap[k]?
/-- A row more. -/
theorem RsO.app {W : World} {ops : Array Oper} {rest : List Oper} {o : Oper} {a : Act} {Q : Exit → Act → World → Prop} {B : Nat} {v : Value} {G : List (Value × List Nat)} (h : RsO W B v G) (hgd : o.guard = none) (s x : Operand) (ho : o.op = .call { callee := .builtin .append, args := #[s, x], argTypes := #[44, 44] })
    (es : a.eval s = v) (ex : a.eval x = .slice (some ⟨W.heap.size, 0, none⟩) 1 1) (hB : B ≤ W.heap.size) (hn : G.length ≤ 1000000) (o1 : Option Addr) (n1 c1 : Nat) (r : List Nat) (hr : W.ownsRow B 5 1 (.slice o1 n1 c1) r.length (cellsB r))
    (hK : ∀ o2 n2 c2 w2 G2, Hid (G2 = G ++ [(.slice o1 n1 c1, r)]) → Hid (n2 = G2.length) → Hid (RsO w2 B (.slice o2 n2 c2) G2) → Hid (Below B W w2) → Hid (KpS W w2) → wpList Try.prog ops Q rest (a.put o.dst (.slice o2 n2 c2)) w2) : wpList Try.prog ops Q (o :: rest) a (W.alloc (.cells #[.slice o1 n1 c1] 34)) := by
  obtain ⟨i0, hi, hz0, hz1, hz2⟩ := info_parts infoBs
  have hal : Below W.heap.size W (W.alloc (.cells #[.slice o1 n1 c1] 34)) := (Below.refl _ _).alloc (Nat.le_refl _) _
  have h' := h.below hal
  have hr' : (W.alloc (.cells #[.slice o1 n1 c1] 34)).ownsRow B 5 1 (.slice o1 n1 c1) r.length (cellsB r) := own_kept hr fun k hk _ _ => hal.block k hk
  refine wpList_append_own _ hgd s x 44 ho B 34 i0 (.slice none 0 0) 1 24 Try.underlying44 hi hz0 hz1 hz2 rfl (by decide) v G.length (G.map (·.1)) es h'.own ⟨W.heap.size, 0, none⟩ 1 1 [.slice o1 n1 c1] ex rfl (World.news_of_block (cs := #[.slice o1 n1 c1]) (heap_new _ _)) (by simp [Value.oneCell']) (by unfold maxLen; omega) (by omega) (by simp; omega) ?_
  intro v2 w2 hown hgrow _
  obtain ⟨o2, c2, rfl⟩ := own_shp hown
  have hkeep : ∀ u (L : List Nat), (W.alloc (.cells #[.slice o1 n1 c1] 34)).ownsRow B 5 1 u L.length (cellsB L) → w2.ownsRow B 5 1 u L.length (cellsB L) := fun u L hu => own_kept hu fun k hk _ ⟨cs, hc⟩ => hgrow.block k hk (fun e => by
    rcases h'.own.2 with ⟨rfl, _⟩ | ⟨g, cap, cur, rfl, _, hg, _⟩
    · cases e
    · cases e
      rw [hg] at hc
      injection hc with hc
      injection hc with _ hc
      exact absurd hc (by decide))
  have key : RsO w2 B (.slice o2 (G.length + 1) c2) (G ++ [(.slice o1 n1 c1, r)]) := by
    refine ⟨?_, fun p hp => ?_⟩
    · rw [List.length_append, List.length_singleton, List.map_append]
      exact hown
    · rcases List.mem_append.1 hp with hp | hp
      · exact hkeep _ _ (h'.inn p hp)
      · simp only [List.mem_singleton] at hp
        subst hp
        exact hkeep _ _ hr'
  refine hK o2 _ c2 w2 _ rfl (show _ = _ by simp) key (((Below.refl B W).alloc hB _).grown hgrow (by simp; omega) (fun j ej => (h'.own.lt j ej).1)) fun k hk hne => ?_
  refine (hgrow.block k (Nat.lt_of_lt_of_le hk hal.size) (fun e => ?_)).trans (hal.block k hk)
  rcases h'.own.2 with ⟨rfl, _⟩ | ⟨g, cap, cur, rfl, _, hg, _⟩
  · cases e
  · cases e
    rw [hal.block _ hk] at hg
    exact hne cur hg
end Go.Proofs.Ytmhbidnpfefjpaa

/- The document's agenda: First, Due. -/
import Derived.Test.YtmjdecgijnodhaaGRefAll
import Derived.Test.YtmjdecgijnodhaaGTieM
namespace Go.Proofs.Ytmjdecgijnodhaa
open Go.RowKit Go.Maps
/-- What First tells of a row. -/
def fstT (A : List (Int × Int)) : Value := match A with
  | [] => .tuple #[.int .i64 0, .int .i64 0, .bool false]
  | x :: _ => .tuple #[.int .i64 x.1, .int .i64 x.2, .bool true]
set_option maxRecDepth 100000 in
set_option maxHeartbeats 2000000 in
theorem firstR (r : Nat) (L : List (Int × Int)) (rowv : Value) (w : World) (H : RefA w r L rowv) : Calls Try.prog 29 #[.pointer (some ⟨r, 0, none⟩)] w fun e w' => e = .returned (fstT (allP L)) ∧ Below w.heap.size w w' := by
  have KA := hide' (allR r L rowv w H)
  clear H
  generalize allP L = A at *
  cases A with
  | nil =>
    go_enter Try.func29, Try.ntmps29
    go_wp2_with (go_at_call 7; refine KA.out.mono ?_; rintro e w1 ⟨v1, rfl, hown, hb⟩; obtain ⟨o1, c1, hv⟩ := own_shapeG hown; subst hv; have hb' := hide' hb; clear hown hb)
    go_ret3
    exact ⟨rfl, hb'.out⟩
  | cons x A =>
    obtain ⟨xi, xt⟩ := x
    go_enter Try.func29, Try.ntmps29
    go_wp2_with (go_at_call 7; refine KA.out.mono ?_; rintro e w1 ⟨v1, rfl, hown, hb⟩; obtain ⟨o1, c1, hv⟩ := own_shapeG hown; subst hv; obtain ⟨g, hg, k1, k2⟩ := rowP hown (k := 0) (x := (xi, xt)) rfl; subst hg; have hb' := hide' hb; have hl : (((xi, xt) :: A).length : Int) = (A.length : Int) + 1 := (by simp); have hl0 : ((((xi, xt) :: A).length : Int) == 0) = false := (by simp <;> omega); have hlp : (0 : Int) < (((xi, xt) :: A).length : Int) := (by simp <;> omega); simp only [Nat.zero_mul] at k1 k2; clear hown hb)
    all_goals (try go_quiet (fail))
    all_goals (try go_wp2)
    go_ret3
    exact ⟨rfl, hb'.out.trans (by first | exact Below.refl _ _ | exact (below_drewN (Below.refl _ _) _))⟩
/-- What is left behind the first of a row are dropped, one after the other. -/
def dropN (L T : List (Int × Int)) : List (Int × Int) := T.foldl (fun L x => dropL L x.1) L
theorem dropN_snoc (L T : List (Int × Int)) (x : Int × Int) : dropN L (T ++ [x]) = dropL (dropN L T) x.1 := by simp [dropN]
theorem dropN_ids : ∀ (T L : List (Int × Int)), (L.map (·.1)).Nodup → ((dropN L T).map (·.1)).Nodup
  | [], _, h => h
  | x :: T, L, h => dropN_ids T (dropL L x.1) (h.sublist (List.Sublist.map _ List.filter_sublist))
def cellsF (T : List (Int × Int)) : List Value := T.map fun x => Value.int .i64 x.1
theorem cellsF_snoc (T : List (Int × Int)) (x : Int × Int) : cellsF T ++ [.int .i64 x.1] = cellsF (T ++ [x]) := by simp [cellsF]
/-- Where Due stops. -/
theorem dueK_stop (A : List (Int × Int)) (now most : Int) {c : Nat} (hc : c ≤ dueK A now most) : (c < dueK A now most ↔ (∃ x, A[c]? = some x ∧ x.2 ≤ now) ∧ (c : Int) < most) := by
  unfold dueK at *
  have hl := tw_len A now
  constructor
  · intro h
    have h1 : c < (A.takeWhile fun x => decide (x.2 ≤ now)).length := by omega
    obtain ⟨x, hx⟩ : ∃ x, (A.takeWhile fun x => decide (x.2 ≤ now))[c]? = some x := ⟨_, List.getElem?_eq_getElem h1⟩
    have hp := (List.takeWhile_prefix (l := A) fun x => decide (x.2 ≤ now))
    obtain ⟨t, ht⟩ := hp
    refine ⟨⟨x, by rw [← ht, List.getElem?_append_left h1]; exact hx, ?_⟩, by omega⟩
    have : ∀ (l : List (Int × Int)) y, y ∈ l.takeWhile (fun x => decide (x.2 ≤ now)) → y.2 ≤ now := fun l => by
      induction l with
      | nil => intro y hy; cases hy
      | cons a l ih =>
        intro y hy
        rw [List.takeWhile_cons] at hy
        split at hy
        · rename_i ha
          rcases List.mem_cons.1 hy with rfl | hy
          · simpa using ha
          · exact ih y hy
        · cases hy
    exact this A x (List.mem_of_getElem? hx)
  · rintro ⟨⟨x, hx, hle⟩, hm⟩
    have hcl := (List.getElem?_eq_some_iff.1 hx).1
    have h1 := tw_ge A now (c + 1) (by omega) fun y hy => by
      rw [List.take_add_one, hx] at hy
      rcases List.mem_append.1 hy with hy | hy
      · have hp := (List.takeWhile_prefix (l := A) fun x => decide (x.2 ≤ now))
        obtain ⟨t, ht⟩ := hp
        have e : A.take c = (A.takeWhile fun x => decide (x.2 ≤ now)).take c := by
          rw [← ht, List.take_append_of_le_length (by omega)]
          rw [ht]
        rw [e] at hy
        have hy2 := List.mem_of_mem_take hy
        have : ∀ (l : List (Int × Int)) y, y ∈ l.takeWhile (fun x => decide (x.2 ≤ now)) → y.2 ≤ now := fun l => by
          induction l with
          | nil => intro y hy; cases hy
          | cons a l ih =>
            intro y hy
            rw [List.takeWhile_cons] at hy
            split at hy
            · rename_i ha
              rcases List.mem_cons.1 hy with rfl | hy
              · simpa using ha
              · exact ih y hy
            · cases hy
        exact this A y hy2
      · simp at hy; subst hy; exact hle
    omega
theorem dropR_bool {r : Nat} {L : List (Int × Int)} {id : Int} {w w' : World} {e : Ending} (h : DropR r L id w e w') : ∃ b, e = .returned (.bool b) := by
  by_cases hx : ∃ x ∈ L, x.1 = id
  · exact ⟨true, h.1 hx⟩
  · exact ⟨false, h.2.1 fun x hx' e => hx ⟨x, hx', e⟩⟩
/-- Rows of unlike types lie apart. -/
theorem own_apart {W : World} {B B' : Nat} {e e' : TypeId} {s s' : Nat} {v v' : Value} {n n' : Nat} {xs xs' : List Value} (h : W.ownsRow B e s v n xs) (h' : W.ownsRow B' e' s' v' n' xs') (hne : e ≠ e') {g : Nat} (hg : v'.ownBlock = some g) : v.ownBlock ≠ some g := fun eq => by
  rcases h.2 with ⟨rfl, _⟩ | ⟨g1, cap1, cur1, rfl, _, h1, _⟩
  · cases eq
  · rcases h'.2 with ⟨rfl, _⟩ | ⟨g2, cap2, cur2, rfl, _, h2, _⟩
    · cases hg
    · have a1 : g1 = g := by simpa [Value.ownBlock] using eq
      have a2 : g2 = g := by simpa [Value.ownBlock] using hg
      subst a1 a2
      rw [h1] at h2
      cases h2
      exact hne rfl
theorem own_apart2 {W : World} {B B' : Nat} {e e' : TypeId} {s s' : Nat} {v v' : Value} {n n' : Nat} {xs xs' : List Value} (h : W.ownsRow B e s v n xs) (h' : W.ownsRow B' e' s' v' n' xs') (hne : e ≠ e') : v'.ownBlock ≠ v.ownBlock ∨ v'.ownBlock = none := by
  cases hg : v'.ownBlock with
  | none => exact .inr rfl
  | some g => exact .inl fun e => own_apart h h' hne hg e.symm
def DueR (r : Nat) (L : List (Int × Int)) (now most : Int) (rowv : Value) (w : World) (e : Ending) (w' : World) : Prop :=
  ∃ v rowv', e = .returned v ∧ w'.ownsRow w.heap.size 3 1 v (dueK (allP L) now most) (cellsF ((allP L).take (dueK (allP L) now most))) ∧ RefA w' r (dropN L ((allP L).take (dueK (allP L) now most))) rowv' ∧ Mv (fun k => k = r) w w' ∧ ∀ k, rowv'.ownBlock = some k → rowv.ownBlock = some k ∨ w.heap.size ≤ k
set_option maxRecDepth 100000 in
set_option maxHeartbeats 4000000 in
theorem dueR (r : Nat) (L : List (Int × Int)) (rowv : Value) (now most : Int) (hnd : (L.map (·.1)).Nodup) (w : World) (H : RefA w r L rowv) : Calls Try.prog 20 #[.pointer (some ⟨r, 0, none⟩), .int .i64 now, .int .i64 most] w (DueR r L now most rowv w) := by
  obtain ⟨i0, hi, hz0, hz1, hz2⟩ := info_parts infoI
  have KA := hide' (allR r L rowv w H)
  have hrl : r < w.heap.size := (Array.getElem?_eq_some_iff.1 H.box).1
  have hsm := H.small
  have H' := hide' H
  have hnd' := hide' hnd
  have hAl : Hid ((allP L).length = L.length) := by
    have key : ∀ (M acc : List (Int × Int)), (M.foldl insP acc).length = acc.length + M.length := by
      intro M
      induction M with
      | nil => intro acc; simp
      | cons x M ih => intro acc; rw [List.foldl_cons, ih, insP_len, List.length_cons]; omega
    show _ = _
    simpa [allP] using key L []
  unfold DueR
  have hKl : dueK (allP L) now most ≤ (allP L).length := by
    have := tw_len (allP L) now
    unfold dueK; omega
  clear H hnd
  have hstop := hide' (fun c => dueK_stop (allP L) now most (c := c))
  generalize hA : allP L = A at *
  clear hA
  generalize hK : dueK A now most = K at *
  clear hK
  go_enter Try.func20, Try.ntmps20
  go_wp2_with (go_at_call 7; refine KA.out.mono ?_; rintro e w1 ⟨v1, rfl, hown, hb⟩; obtain ⟨o1, c1, hv⟩ := own_shapeG hown; subst hv; have hO1 := hide' hown; have hb1 := hide' hb; clear hown hb)
  clear KA
  go_loopw [7, 9] (fun v k wr => ∃ c : Nat, k = .int .i64 c ∧ c ≤ K ∧ Hid (wr.ownsRow w.heap.size 3 1 v c (cellsF (A.take c))) ∧ Hid (∃ rowv', RefA wr r (dropN L (A.take c)) rowv' ∧ ∀ k, rowv'.ownBlock = some k → rowv.ownBlock = some k ∨ w.heap.size ≤ k) ∧ Hid (Mv (fun k => k = r) w wr) ∧ Hid (wr.ownsRow w.heap.size 39 2 (.slice o1 A.length c1) A.length (cellsP A))) (fun _ k _ => ((K : Int) - intOf k).toNat)
  case atStart => exact ⟨0, rfl, Nat.zero_le _, World.ownsRow_nil _ _ _ _, ⟨rowv, H'.out.below hb1.out, fun _ h => .inl h⟩, Mv.below hb1.out, hO1⟩
  case round =>
    clear hO1 hb1 H'
    obtain ⟨c, rfl, hc, hids, hR, hM, hl⟩ := hrel
    obtain ⟨o2, c2, hv2⟩ := own_shapeG hids.out
    subst hv2
    have hAb : A.length ≤ 1000000 := by have := hAl.out; omega
    have hsz := hM.out.size
    by_cases hlt : c < K
    · obtain ⟨⟨x, hx, hle⟩, hm⟩ := (hstop.out c hc).1 hlt
      have hcl := (List.getElem?_eq_some_iff.1 hx).1
      obtain ⟨g, hg, k1, k2⟩ := rowP hl.out hx
      subst hg
      have htk : Hid (A.take (c + 1) = A.take c ++ [x]) := by show _ = _; rw [List.take_add_one, hx]; rfl
      obtain ⟨rv, hRf, hown⟩ := hR.out
      have hRf' := hide' hRf
      have hown' := hide' hown
      have hnd2 := hide' (dropN_ids (A.take c) L hnd'.out)
      clear hR hx hRf hown hstop
      obtain ⟨xi, xt⟩ := x
      simp only [] at k1 k2 hle
      have hgl := cell_lt k1
      have hti : Hid ((Value.slice o2 c c2).ownBlock ≠ some g) := own_apart hids.out hl.out (by decide) rfl
      have htr : Hid (rv.ownBlock ≠ (Value.slice o2 c c2).ownBlock ∨ rv.ownBlock = none) := own_apart2 hids.out hRf'.out.row (by decide)
      have hge2 := hide' (fun q eq => (hids.out.lt q eq).1)
      have hgeg : Hid (w.heap.size ≤ g) := (hl.out.lt g rfl).1
      have hK4 : Hid (∀ (V : World) o, (wr.alloc o).grownBy V (Value.slice o2 c c2).ownBlock → V.cell? ⟨g, c * 2, none⟩ = some (.int .i64 xi) ∧ RefA V r (dropN L (A.take c)) rv ∧ V.ownsRow w.heap.size 39 2 (.slice (some ⟨g, 0, none⟩) A.length c1) A.length (cellsP A)) := fun V o hV => by
        have hal : Below wr.heap.size wr (wr.alloc o) := (Below.refl _ _).alloc (Nat.le_refl _) _
        have hrne : some r ≠ (Value.slice o2 c c2).ownBlock := fun e => by have := hge2.out r e.symm; omega
        have hRf2 := hRf'.out.below hal
        have hl2 := hl.out.alloc o
        refine ⟨hV.cell (cell_over k1 hal) (fun e => hti.out e.symm), ⟨(hV.block r (by simp; omega) hrne).trans hRf2.box, owns_same hRf2.row fun q hq eq => hV.block q hq (fun e => ?_), hRf2.ne, hRf2.small⟩, owns_same hl2 fun q hq eq => hV.block q hq (fun e => ?_)⟩
        · rcases htr.out with h' | h'
          · exact h' (eq.trans e)
          · rw [h'] at eq; cases eq
        · have : q = g := by simpa [Value.ownBlock] using eq.symm
          subst this
          exact hti.out e.symm
      have hcs := hide' (cellsF_snoc (A.take c) (xi, xt))
      have hmn : (c : Int) < (A.length : Int) := by omega
      have hdn : Hid (dropN L (A.take (c + 1)) = dropL (dropN L (A.take c)) xi) := by show _ = _; rw [htk.out, dropN_snoc]
      have hMM : Hid (∀ (V : World) o, (wr.alloc o).grownBy V (Value.slice o2 c c2).ownBlock → Mv (fun k => k = r) w V) := fun V o hV => (hM.out.trans (Mv.alloc (F := fun k => k = r) o) (fun _ _ e => e)).trans (Mv.grown (F := fun k => w.heap.size ≤ k) hV hge2.out (fun k ek => (ne_row hids.out ek (by decide)).same (Below.heap_alloc _ _ _ (hids.out.lt k ek).2))) (fun q hq e => by omega)
      clear hRf' htr hti hge2 hM hAl
      go_wp2_with (first
        | (at_builtin; refine wpList_append_lies _ rfl _ _ 51 rfl w.heap.size 3 i0 (.int .i64 0) 1 8 Try.underlying51 hi hz0 hz1 hz2 rfl (by decide) (.slice o2 c c2) c (cellsF (A.take c)) rfl (hids.out.alloc _) ⟨wr.heap.size, 0, none⟩ 1 1 [.int .i64 xi] rfl rfl (by intro j u hj; match j, hj with | 0, hj => cases hj; simp [Addr.add] | j + 1, hj => simp at hj) (by simp [Value.oneCell']) (by decide) (by unfold maxLen; omega) (by omega) (by simp; omega) _ rfl ?_; intro g4 cap4 w4 hown4 hgrow4 hat4 hlt4; obtain ⟨q1, q2, q3⟩ := hK4.out _ _ hgrow4; have hM4 := hide' (hMM.out _ _ hgrow4); have hO4 : Hid (w4.ownsRow w.heap.size 3 1 (.slice (some ⟨g4, 0, none⟩) (c + 1) cap4) (c + 1) (cellsF (A.take (c + 1)))) := (by show World.ownsRow _ _ _ _ _ _ _; rw [htk.out, ← hcs.out]; exact hown4); have hR4 := hide' q2; have hL4 := hide' q3; have KD := hide' (dropR r _ rv xi hnd2.out w4 q2); clear hown4 hgrow4 hat4 q2 q3 hlt4)
        | (go_at_call 13; refine KD.out.mono ?_; intro e w5 hD; obtain ⟨bv, hbv⟩ := dropR_bool hD; subst hbv; have hD' := hide' hD.2.2; clear hD))
      obtain ⟨rv5, hR5, hM5, hf5⟩ := hD'.out
      have hMs := hM4.out.size
      refine ⟨⟨c + 1, by go_num, by omega, row_mv hO4.out (fun k e => by omega) hM5, ⟨rv5, by rw [hdn.out]; exact hR5, fun k e => .inr (by have := hf5 k e; omega)⟩, hM4.out.trans hM5 (fun _ _ e => e), owns_same hL4.out fun q hq eq => hM5.block q hq (fun e => ?_)⟩, by simp [intOf]; omega⟩
      have : q = g := by simpa [Value.ownBlock] using eq.symm
      subst this
      have := hgeg.out
      omega
    · have hcK : c = K := by omega
      have hno : ¬ ((∃ x, A[c]? = some x ∧ x.2 ≤ now) ∧ (c : Int) < most) := fun hh => hlt ((hstop.out c hc).2 hh)
      obtain ⟨rv, hRf, hown⟩ := hR.out
      have hP : Hid (w.heap.size ≤ w.heap.size → ∃ v rowv', Ending.returned (.slice o2 c c2) = .returned v ∧ wr.ownsRow w.heap.size 3 1 v K (cellsF (A.take K)) ∧ RefA wr r (dropN L (A.take K)) rowv' ∧ Mv (fun k => k = r) w wr ∧ ∀ k, rowv'.ownBlock = some k → rowv.ownBlock = some k ∨ w.heap.size ≤ k) := fun _ => ⟨_, rv, rfl, by rw [← hcK]; exact hids.out, by rw [← hcK]; exact hRf, hM.out, hown⟩
      by_cases hcl : c < A.length
      · obtain ⟨x, hx⟩ : ∃ x, A[c]? = some x := ⟨_, List.getElem?_eq_getElem hcl⟩
        obtain ⟨g, hg, k1, k2⟩ := rowP hl.out hx
        subst hg
        by_cases hle : x.2 ≤ now
        · have hm : ¬ (c : Int) < most := fun hh => hno ⟨⟨x, hx, hle⟩, hh⟩
          have e1 : decide ((c : Int) < most) = false := by simpa using hm
          obtain ⟨xi, xt⟩ := x
          simp only [] at k1 k2 hle
          have e2 : decide (xt ≤ now) = true := by simpa using hle
          clear hno hRf hown hR hids hl hx hstop hM hlt hcK hm
          go_wp2
          go_ret
          exact hP.out (Nat.le_refl _)
        · obtain ⟨xi, xt⟩ := x
          simp only [] at k1 k2 hle
          have e2 : decide (xt ≤ now) = false := by simpa using hle
          clear hno hRf hown hR hids hl hx hstop hM hlt hcK hle
          go_wp2
          go_ret
          exact hP.out (Nat.le_refl _)
      · have e1 : decide ((c : Int) < (A.length : Int)) = false := by simp; omega
        have e2 : decide (c < A.length) = false := by simp; omega
        clear hno hRf hown hR hids hl hstop hM hlt hcK
        go_wp2
        go_ret
        exact hP.out (Nat.le_refl _)
end Go.Proofs.Ytmjdecgijnodhaa

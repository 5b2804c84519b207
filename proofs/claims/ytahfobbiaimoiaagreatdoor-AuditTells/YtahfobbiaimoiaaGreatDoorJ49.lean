/- The document's Loads. -/
import Derived.Test.YtahfobbiaimoiaaGreatDoorJ38
import Derived.Test.YtahfobbiaimoiaaGreatDoorJ42
import Derived.Test.YtahfobbiaimoiaaGreatDoorJ43
import Derived.Test.YtahfobbiaimoiaaGreatDoorJ48
import Derived.Deep.CutBlock
namespace Go.Proofs.YtahfobbiaimoiaaGreatDoor
open Go.RowKit
theorem pos_ex (u : Int) : ∀ l : List (Int × Int), ∃ k, k ≤ l.length ∧ (∀ i p, i < k → l[i]? = some p → p.1 < u) ∧ ∀ p, l[k]? = some p → ¬ p.1 < u := by
  intro l
  induction l with
  | nil => exact ⟨0, Nat.le_refl _, fun i p h => absurd h (Nat.not_lt_zero _), fun p h => by simp at h⟩
  | cons q l ih =>
    by_cases hq : q.1 < u
    · obtain ⟨k, h0, h1, h2⟩ := ih
      refine ⟨k + 1, by simpa using h0, fun i p hi hp => ?_, fun p hp => h2 p (by simpa using hp)⟩
      cases i with
      | zero => simp at hp; rw [← hp]; exact hq
      | succ i => exact h1 i p (by omega) (by simpa using hp)
    · exact ⟨0, Nat.zero_le _, fun i p h => absurd h (Nat.not_lt_zero _), fun p hp => by simp at hp; rw [← hp]; exact hq⟩
theorem ownP_at {W : World} {B n cp : Nat} {o : Option Addr} {l : List (Int × Int)} (h : W.ownsRow B 93 2 (.slice o n cp) n (O.cellsP l)) (hl : n = l.length) {i : Nat} {p : Int × Int} (hp : l[i]? = some p) :
    ∃ g, o = some ⟨g, 0, none⟩ ∧ B ≤ g ∧ W.cell? ⟨g, i * 2, none⟩ = some (.int .i64 p.1) ∧ W.cell? ⟨g, i * 2 + 1, none⟩ = some (.int .i64 p.2) := by
  have hi := (List.getElem?_eq_some_iff.1 hp).1
  have h0 := h
  rcases h.2 with ⟨_, rfl⟩ | ⟨g, cap, cur, e1, _⟩
  · omega
  · injection e1 with e1 _ e2
    subst e1
    refine ⟨g, rfl, own_ge' h0 rfl, ?_, ?_⟩
    · rw [h0.cellAt (i * 2) (by omega), (O.cellsP_at l i).1, hp]; rfl
    · rw [h0.cellAt (i * 2 + 1) (by omega), (O.cellsP_at l i).2, hp]; rfl
theorem ldL_snd {L : List Ev} (hn : L.length ≤ 1000) (c : Nat) : ∀ p ∈ ldL (L.take c), 0 ≤ p.2 ∧ p.2 ≤ 1000 := by
  intro p hp
  rw [ldL_eq] at hp
  obtain ⟨u, _, rfl⟩ := List.mem_map.1 hp
  have := cntE_le u (L.take c)
  rw [List.length_take] at this
  refine ⟨?_, ?_⟩
  · show (0 : Int) ≤ ((cntE u (L.take c) : Nat) : Int); omega
  · show ((cntE u (L.take c) : Nat) : Int) ≤ 1000; omega
set_option maxRecDepth 100000 in
set_option maxHeartbeats 8000000 in
theorem loadsQ (L : List Ev) (v : Value) (w : World) (h : EvQ w v L) (hn : L.length ≤ 1000) :
    Calls Tryz.prog 30 #[v] w fun e w' => ∃ v', e = .returned v' ∧ w'.ownsRow w.heap.size 93 2 v' (ldL L).length (O.cellsP (ldL L)) ∧ Below w.heap.size w w' := by
  obtain ⟨ol, cl, rfl, hcl, hC⟩ := evCells h
  clear h
  go_enter Tryz.func30, Tryz.ntmps30
  go_wp2
  go_loopw [3, 4] (fun lv k wr => ∃ (c n : Nat) (o : Option Addr) (cp : Nat), c ≤ L.length ∧ n ≤ c ∧ k = .int .i64 c ∧ lv = .slice o n cp ∧ Hid (n = (ldL (L.take c)).length) ∧ Hid (wr.ownsRow w.heap.size 93 2 (.slice o n cp) n (O.cellsP (ldL (L.take c)))) ∧ Hid (Below w.heap.size w wr)) (fun _ k _ => ((L.length : Int) - intOf k).toNat)
  case atStart => exact ⟨0, 0, none, 0, Nat.zero_le _, Nat.le_refl _, rfl, rfl, rfl, World.ownsRow_nil _ _ _ _, Below.refl _ _⟩
  case round =>
    obtain ⟨c, n, o, cp, hc, hnc, rfl, rfl, hln, hO, hB⟩ := hrel
    by_cases hlt : c < L.length
    · as_aux_lemma =>
      obtain ⟨e, hx⟩ : ∃ x, L[c]? = some x := ⟨_, List.getElem?_eq_getElem hlt⟩
      obtain ⟨g1, f1, rfl, a0, a1, a2, a3⟩ := hC.out wr hB.out c e hx
      have hN := hide' (ldL_next hx)
      have hcn := hide' (ldL_snd hn c)
      have hE : Hid (∀ V, Below w.heap.size w V → V.cell? ⟨g1, f1 + c * 4 + 3, none⟩ = some (.int .i64 e.user)) := fun V hV => by
        obtain ⟨_, _, e1, _, _, _, h3⟩ := hC.out V hV c e hx
        cases e1
        exact h3
      clear hC hx a0 a2 a3
      generalize ldL (L.take c) = l at *
      generalize e.kind = s1 at *
      generalize e.user = s3 at *
      by_cases hk : s1 = 2
      · subst hk
        have hI : Hid (ldL (L.take (c + 1)) = insL s3 l) := by show _ = _; rw [hN.out, if_pos rfl]
        clear hN
        obtain ⟨k, hkl, hlo, hhi⟩ := pos_ex s3 l
        have hlo' := hide' hlo
        have hhi' := hide' hhi
        have hkn : k ≤ n := by rw [hln.out]; exact hkl
        obtain ⟨W1, rfl⟩ : ∃ x, x = wr := ⟨_, rfl⟩
        clear hlo hhi
        go_upto_block 2 with fail
        go_cut [5] (fun s wx => s = .int .i64 (k : Int) ∧ Hid (Below W1.heap.size W1 wx))
        case first =>
          as_aux_lemma =>
          go_wp2_with fail
          go_loopw [5] (fun s wx => ∃ m : Nat, s = .int .i64 (m : Int) ∧ m ≤ k ∧ Hid (Below W1.heap.size W1 wx)) (fun s _ => ((k : Int) - intOf s).toNat)
          case atStart => exact ⟨0, rfl, Nat.zero_le _, Below.refl _ _⟩
          case round =>
            obtain ⟨m, rfl, hmk, hBx⟩ := hrel
            have b3 := hE.out wr (hB.out.trans (hBx.out.mono hB.out.size))
            by_cases hmn : m < n
            · obtain ⟨p, hp⟩ : ∃ x, l[m]? = some x := ⟨_, List.getElem?_eq_getElem (by rw [← hln.out]; exact hmn)⟩
              obtain ⟨g, rfl, hg, d1, _⟩ := ownP_at hO.out hln.out hp
              have d2 := (hBx.out.cell (cell_lt d1)).trans d1
              have hmn' : (m : Int) < (n : Int) := by omega
              by_cases hmk2 : m < k
              · have hlt2 : p.1 < s3 := hlo'.out m p hmk2 hp
                clear hO hE hlo' hhi' hI hcn hln hp d1 a1
                generalize p.1 = p1 at *
                go_upto_region 7 with fail
                go_quiet (fail)
                go_wp2
                exact ⟨⟨m + 1, by go_num, by omega, below_drewR hBx.out _⟩, by simp [intOf]; omega⟩
              · obtain rfl : m = k := by omega
                have hlt2 : ¬ p.1 < s3 := by have := hhi'.out p hp; omega
                clear hO hE hlo' hhi' hI hcn hln hp d1 a1
                generalize p.1 = p1 at *
                go_upto_region 7 with fail
                go_quiet (fail)
                go_wp2
                go_meet
                exact ⟨rfl, below_drewR hBx.out _⟩
            · obtain rfl : m = k := by omega
              have hmn' : ¬ (m : Int) < (n : Int) := by omega
              clear hO hE hlo' hhi' hI hcn hln a1
              go_upto_region 7 with fail
              go_quiet (fail)
              go_wp2
              go_meet
              exact ⟨rfl, below_drewR hBx.out _⟩
        case rest =>
          as_aux_lemma =>
          obtain ⟨rfl, hB2⟩ := hcut
          have hBc : Hid (Below w.heap.size w wc) := hB.out.trans (hB2.out.mono hB.out.size)
          have hOc : Hid (wc.ownsRow w.heap.size 93 2 (.slice o n cp) n (O.cellsP l)) := own_below hO.out hB2.out (Nat.le_refl _)
          have b3 := hE.out wc hBc.out
          clear hO hB hB2 a1
          by_cases hkn2 : k < n
          · obtain ⟨p, hp⟩ : ∃ x, l[k]? = some x := ⟨_, List.getElem?_eq_getElem (by rw [← hln.out]; exact hkn2)⟩
            obtain ⟨g, rfl, hg, d1, d2⟩ := ownP_at hOc.out hln.out hp
            have hkn' : (k : Int) < (n : Int) := by omega
            by_cases heq : p.1 = s3
            · have hp' : l[k]? = some (s3, p.2) := by rw [hp, ← heq]
              have hq := hide' (hI.out.trans (insL_hit s3 l k p.2 hlo'.out hp'))
              have hqc := hide' (cellsP_setC l k s3 p.2 (p.2 + 1) hp')
              have hb := hcn.out p (List.mem_of_getElem? hp)
              rw [heq] at d1
              have hO2 : Hid (∀ q, ((wc.drewN q).setCell ⟨g, k * 2 + 1, none⟩ (.int .i64 (p.2 + 1))).ownsRow w.heap.size 93 2 (.slice (some ⟨g, 0, none⟩) n cp) n (O.cellsP (ldL (L.take (c + 1))))) := fun q => by
                have := own_setcell (own_same hOc.out (w' := wc.drewN q) fun _ _ _ => rfl) (k * 2 + 1) (.int .i64 (p.2 + 1))
                rw [hqc.out, ← hq.out] at this
                exact this
              have hnl : Hid (n = (ldL (L.take (c + 1))).length) := by show _ = _; rw [hq.out, List.length_set]; exact hln.out
              have hBs : Hid (∀ q, Below w.heap.size w ((wc.drewN q).setCell ⟨g, k * 2 + 1, none⟩ (.int .i64 (p.2 + 1)))) := fun q => (below_drewR hBc.out q).setCell hg _
              have fz := hOc.out.frozenAt (k * 2 + 1)
              have hwr : wrap64 (p.2 + 1) = p.2 + 1 := by unfold wrap64; omega
              clear hlo' hhi' hI hcn hp hq hqc hE hln hp' heq hOc hBc
              generalize p.2 = p2 at *
              go_upto_region 9 with fail
              go_quiet (fail)
              go_upto_region 10 with fail
              refine wp_region_held_drew (S := (fun _ => True)) (by kernel_rfl) ?_ (fun hHeld => ?_)
              · trivial
              refine wpAnyH_take (i := 0) (oi := { dst := some 55, op := Op.move (Operand.tmp 3), type := 58, pos := "ref.go:128", after := #[], guard := none }) (v := ?_) rfl (by kernel_rfl) (by kernel_rfl) (by kernel_rfl) (fun _ _ _ h => h) (Or.inl ⟨by rfl, ?_⟩) (by assumption) ?_
              rotate_left
              · intro w hSw; (try dsimp only at hSw); go_simp <;> with_reducible rfl
              simp only [Act.put, List.setIfInBounds_toArray, List.set_cons_zero, List.set_cons_succ]
              refine wpAnyH_take (i := 1) (oi := { dst := some 56, op := Op.move (Operand.tmp 5), type := 3, pos := "ref.go:128", after := #[], guard := none }) (v := ?_) rfl (by kernel_rfl) (by kernel_rfl) (by kernel_rfl) (fun _ _ _ h => h) (Or.inl ⟨by rfl, ?_⟩) (by assumption) ?_
              rotate_left
              · intro w hSw; (try dsimp only at hSw); go_simp <;> with_reducible rfl
              simp only [Act.put, List.setIfInBounds_toArray, List.set_cons_zero, List.set_cons_succ]
              refine wpAnyH_take (i := 2) (oi := { dst := some 57, op := Op.indexAddr 58 (Operand.tmp 55) (Operand.tmp 56), type := 0, pos := "ref.go:128", after := #[{ on := 0, ground := Ground.data }, { on := 1, ground := Ground.data }], guard := none }) (v := ?_) rfl (by kernel_rfl) (by kernel_rfl) (by kernel_rfl) (fun _ _ _ h => h) (Or.inl ⟨by rfl, ?_⟩) (by assumption) ?_
              rotate_left
              · intro w hSw; (try dsimp only at hSw); go_simp <;> with_reducible rfl
              simp only [Act.put, List.setIfInBounds_toArray, List.set_cons_zero, List.set_cons_succ]
              refine wpAnyH_take (i := 3) (oi := { dst := some 58, op := Op.indexAddr 93 (Operand.tmp 57) (Operand.const (Value.int IntKind.i64 1)), type := 0, pos := "ref.go:128", after := #[{ on := 2, ground := Ground.data }], guard := none }) (v := ?_) rfl (by kernel_rfl) (by kernel_rfl) (by kernel_rfl) (fun _ _ _ h => h) (Or.inl ⟨by rfl, ?_⟩) (by assumption) ?_
              rotate_left
              · intro w hSw; (try dsimp only at hSw); go_simp <;> with_reducible rfl
              simp only [Act.put, List.setIfInBounds_toArray, List.set_cons_zero, List.set_cons_succ]
              refine wpAnyH_take (i := 6) (oi := { dst := some 61, op := Op.indexAddr 58 (Operand.tmp 55) (Operand.tmp 56), type := 0, pos := "ref.go:128", after := #[{ on := 0, ground := Ground.data }, { on := 1, ground := Ground.data }], guard := none }) (v := ?_) rfl (by kernel_rfl) (by kernel_rfl) (by kernel_rfl) (fun _ _ _ h => h) (Or.inl ⟨by rfl, ?_⟩) (by assumption) ?_
              rotate_left
              · intro w hSw; (try dsimp only at hSw); go_simp <;> with_reducible rfl
              simp only [Act.put, List.setIfInBounds_toArray, List.set_cons_zero, List.set_cons_succ]
              refine wpAnyH_ready (rs := [4]) (by kernel_rfl) (by simp) ?_
              refine AllReadyH.cons (o := { dst := some 59, op := Op.load 3 (Operand.tmp 58), type := 3, pos := "ref.go:128", after := #[{ on := 3, ground := Ground.data }], guard := none }) rfl (fun K hK => ?_) AllReadyH.nil
              go_simp
              refine hK.out _ _ ?_ (fun hHeld => ?_)
              · trivial
              clear hK K
              try simp only [Act.put, List.setIfInBounds_toArray, List.set_cons_zero, List.set_cons_succ]
              refine wpAnyH_take (i := 5) (oi := { dst := some 60, op := Op.binOp BinOp.add 3 (Operand.tmp 59) (Operand.const (Value.int IntKind.i64 1)) 3, type := 3, pos := "ref.go:128", after := #[{ on := 4, ground := Ground.data }], guard := none }) (v := ?_) rfl (by kernel_rfl) (by kernel_rfl) (by kernel_rfl) (fun _ _ _ h => h) (Or.inl ⟨by rfl, ?_⟩) (by assumption) ?_
              rotate_left
              · intro w hSw; (try dsimp only at hSw); go_simp <;> with_reducible rfl
              simp only [Act.put, List.setIfInBounds_toArray, List.set_cons_zero, List.set_cons_succ]
              refine wpAnyH_take (i := 7) (oi := { dst := some 62, op := Op.indexAddr 93 (Operand.tmp 61) (Operand.const (Value.int IntKind.i64 1)), type := 0, pos := "ref.go:128", after := #[{ on := 6, ground := Ground.data }, { on := 0, ground := Ground.phase }, { on := 1, ground := Ground.phase }, { on := 2, ground := Ground.phase }, { on := 3, ground := Ground.phase }, { on := 4, ground := Ground.phase }, { on := 5, ground := Ground.phase }], guard := none }) (v := ?_) rfl (by kernel_rfl) (by kernel_rfl) (by kernel_rfl) (fun _ _ _ h => h) (Or.inl ⟨by rfl, ?_⟩) (by assumption) ?_
              rotate_left
              · intro w hSw; (try dsimp only at hSw); go_simp <;> with_reducible rfl
              simp only [Act.put, List.setIfInBounds_toArray, List.set_cons_zero, List.set_cons_succ]
              refine wpAnyH_ready (rs := [8]) (by kernel_rfl) (by simp) ?_
              refine AllReadyH.cons (o := { dst := none, op := Op.store 3 (Operand.tmp 62) (Operand.tmp 60), type := 0, pos := "ref.go:128", after := #[{ on := 7, ground := Ground.data }, { on := 5, ground := Ground.data }, { on := 0, ground := Ground.phase }, { on := 1, ground := Ground.phase }, { on := 2, ground := Ground.phase }, { on := 3, ground := Ground.phase }, { on := 4, ground := Ground.phase }, { on := 5, ground := Ground.phase }], guard := none }) rfl (fun K hK => ?_) AllReadyH.nil
              go_simp
              refine hK.out _ _ ?_ (fun hHeld => ?_)
              · trivial
              clear hK K
              try simp only [Act.put, List.setIfInBounds_toArray, List.set_cons_zero, List.set_cons_succ]
              refine wpAnyH_done (by kernel_rfl) ?_ _
              skip
              go_wp2
              exact ⟨⟨c + 1, n, _, _, by omega, by omega, by go_num, rfl, hnl, hO2.out _, hBs.out _⟩, by simp [intOf]; omega⟩
            · have hne : (p.1 == s3) = false := by rw [beq_eq_false_iff_ne]; exact heq
              have hq := hide' (hI.out.trans (insL_new s3 l k hkl hlo'.out (fun q hq => by rw [hp] at hq; cases hq; have := hhi'.out p hp; omega)))
              clear hlo' hhi' hI hcn hp d2
              generalize p.1 = p1 at *
              go_upto_region 9 with fail
              go_quiet (fail)
              obtain rfl := hln.out
              generalize hW2 : wc.drewN nq = W2 at *
              have hB3 : Hid (Below w.heap.size w W2) := by show Below _ _ _; rw [← hW2]; exact below_drewR hBc.out _
              have hO3 : W2.ownsRow w.heap.size 93 2 (.slice (some ⟨g, 0, none⟩) l.length cp) l.length (O.cellsP l) := by rw [← hW2]; exact own_same hOc.out fun _ _ _ => rfl
              obtain ⟨sa, hsa, hga⟩ := seg_head hO3 hkl
              obtain ⟨sb, hsb, hgb⟩ := seg_rest hO3 hkl
              have hs3 := fun V => (run_sliceAt_slice V _ _ _ _ _ elem33).symm.trans (hsa V)
              have hs4 := fun V => (run_sliceAt_slice V _ _ _ _ _ elem33).symm.trans (hsb V)
              have hga' := hide' hga
              have hgb' := hide' hgb
              have hEnd : Hid (∀ (V : World) v, V.ownsRow W2.heap.size 93 2 v (k + 1 + (l.length - k)) ((O.cellsP (l.take k) ++ [.int .i64 s3, .int .i64 1]) ++ O.cellsP (l.drop k)) → V.ownsRow w.heap.size 93 2 v (k + 1 + (l.length - k)) (O.cellsP (ldL (L.take (c + 1))))) := fun V v h => by
                have e3 : O.cellsP (ldL (L.take (c + 1))) = (O.cellsP (l.take k) ++ [.int .i64 s3, .int .i64 1]) ++ O.cellsP (l.drop k) := by rw [hq.out]; simp [O.cellsP]
                rw [e3]
                exact own_down h hB3.out.size
              have hLn : Hid (k + 1 + (l.length - k) = (ldL (L.take (c + 1))).length) := by show _ = _; rw [hq.out, List.length_append, List.length_cons, List.length_take, List.length_drop]; omega
              clear hW2 hO3 hOc hBc hln hq hga hgb hsa hsb b3
              go_wp2_with (first
                | (at_builtin; refine app_seg rfl _ _ rfl W2.heap.size (.slice none 0 0) 0 [] rfl (World.ownsRow_nil _ _ _ _) sa k (l.take k) rfl hga'.out (by omega) (Nat.le_refl _) ?_; intro v5 w5 hown5 hgrow5; rw [Nat.zero_add, List.nil_append] at hown5; obtain ⟨o5, c5, hv5⟩ := own_shp hown5; subst hv5; have hB5 := hide' ((Below.refl _ W2).grown hgrow5 (Nat.le_refl _) (fun _ e => by cases e)); have hO5 := hide' hown5; have k3 := hE.out w5 (hB3.out.trans (hB5.out.mono hB3.out.size)); clear hown5 hgrow5)
                | (at_builtin; refine app1L elP rfl (.tmp 68) (.tmp 75) rfl W2.heap.size w5 (.slice o5 k c5) k (O.cellsP (l.take k)) [.int .i64 s3, .int .i64 1] rfl rfl hO5.out rfl (by simp [Value.oneCell']) hB5.out.size (by omega) ?_; intro g6 c6 w6 hown6 hgrow6 hnw6; have hB6 := hide' (hB5.out.grown hgrow6 hB5.out.size (fun _ e => own_ge' hO5.out e)); have hO6 := hide' hown6; clear hown6 hgrow6 hnw6)
                | (at_builtin; refine app_seg rfl _ _ rfl W2.heap.size (.slice (some ⟨g6, 0, none⟩) (k + 1) c6) (k + 1) (O.cellsP (l.take k) ++ [.int .i64 s3, .int .i64 1]) rfl hO6.out sb (l.length - k) (l.drop k) rfl (hgb'.out.over hB6.out) (by omega) hB6.out.size ?_; intro v7 w7 hown7 hgrow7; obtain ⟨o7, c7, hv7⟩ := own_shp hown7; subst hv7; have hB7 := hide' (hB6.out.grown hgrow7 hB6.out.size (fun _ e => own_ge' hO6.out e)); have hO7 := hide' (hEnd.out _ _ hown7); clear hown7 hgrow7))
              exact ⟨⟨c + 1, _, _, _, by omega, by omega, by go_num, rfl, hLn, hO7, hB3.out.trans (hB7.out.mono hB3.out.size)⟩, by simp [intOf]; omega⟩
          · have hkn' : ¬ (k : Int) < (n : Int) := by omega
            have hq := hide' (hI.out.trans (insL_new s3 l k hkl hlo'.out (fun q hq => by have := (List.getElem?_eq_some_iff.1 hq).1; rw [← hln.out] at this; omega)))
            clear hlo' hhi' hI hcn
            go_upto_region 9 with fail
            go_quiet (fail)
            obtain rfl := hln.out
            generalize hW2 : wc.drewN nq = W2 at *
            have hB3 : Hid (Below w.heap.size w W2) := by show Below _ _ _; rw [← hW2]; exact below_drewR hBc.out _
            have hO3 : W2.ownsRow w.heap.size 93 2 (.slice o l.length cp) l.length (O.cellsP l) := by rw [← hW2]; exact own_same hOc.out fun _ _ _ => rfl
            obtain ⟨sa, hsa, hga⟩ := seg_head hO3 hkl
            obtain ⟨sb, hsb, hgb⟩ := seg_rest hO3 hkl
            have hs3 := fun V => (run_sliceAt_slice V _ _ _ _ _ elem33).symm.trans (hsa V)
            have hs4 := fun V => (run_sliceAt_slice V _ _ _ _ _ elem33).symm.trans (hsb V)
            have hga' := hide' hga
            have hgb' := hide' hgb
            have hEnd : Hid (∀ (V : World) v, V.ownsRow W2.heap.size 93 2 v (k + 1 + (l.length - k)) ((O.cellsP (l.take k) ++ [.int .i64 s3, .int .i64 1]) ++ O.cellsP (l.drop k)) → V.ownsRow w.heap.size 93 2 v (k + 1 + (l.length - k)) (O.cellsP (ldL (L.take (c + 1))))) := fun V v h => by
              have e3 : O.cellsP (ldL (L.take (c + 1))) = (O.cellsP (l.take k) ++ [.int .i64 s3, .int .i64 1]) ++ O.cellsP (l.drop k) := by rw [hq.out]; simp [O.cellsP]
              rw [e3]
              exact own_down h hB3.out.size
            have hLn : Hid (k + 1 + (l.length - k) = (ldL (L.take (c + 1))).length) := by show _ = _; rw [hq.out, List.length_append, List.length_cons, List.length_take, List.length_drop]; omega
            clear hW2 hO3 hOc hBc hln hq hga hgb hsa hsb b3
            go_wp2_with (first
              | (at_builtin; refine app_seg rfl _ _ rfl W2.heap.size (.slice none 0 0) 0 [] rfl (World.ownsRow_nil _ _ _ _) sa k (l.take k) rfl hga'.out (by omega) (Nat.le_refl _) ?_; intro v5 w5 hown5 hgrow5; rw [Nat.zero_add, List.nil_append] at hown5; obtain ⟨o5, c5, hv5⟩ := own_shp hown5; subst hv5; have hB5 := hide' ((Below.refl _ W2).grown hgrow5 (Nat.le_refl _) (fun _ e => by cases e)); have hO5 := hide' hown5; have k3 := hE.out w5 (hB3.out.trans (hB5.out.mono hB3.out.size)); clear hown5 hgrow5)
              | (at_builtin; refine app1L elP rfl (.tmp 68) (.tmp 75) rfl W2.heap.size w5 (.slice o5 k c5) k (O.cellsP (l.take k)) [.int .i64 s3, .int .i64 1] rfl rfl hO5.out rfl (by simp [Value.oneCell']) hB5.out.size (by omega) ?_; intro g6 c6 w6 hown6 hgrow6 hnw6; have hB6 := hide' (hB5.out.grown hgrow6 hB5.out.size (fun _ e => own_ge' hO5.out e)); have hO6 := hide' hown6; clear hown6 hgrow6 hnw6)
              | (at_builtin; refine app_seg rfl _ _ rfl W2.heap.size (.slice (some ⟨g6, 0, none⟩) (k + 1) c6) (k + 1) (O.cellsP (l.take k) ++ [.int .i64 s3, .int .i64 1]) rfl hO6.out sb (l.length - k) (l.drop k) rfl (hgb'.out.over hB6.out) (by omega) hB6.out.size ?_; intro v7 w7 hown7 hgrow7; obtain ⟨o7, c7, hv7⟩ := own_shp hown7; subst hv7; have hB7 := hide' (hB6.out.grown hgrow7 hB6.out.size (fun _ e => own_ge' hO6.out e)); have hO7 := hide' (hEnd.out _ _ hown7); clear hown7 hgrow7))
            exact ⟨⟨c + 1, _, _, _, by omega, by omega, by go_num, rfl, hLn, hO7, hB3.out.trans (hB7.out.mono hB3.out.size)⟩, by simp [intOf]; omega⟩
      · have hk' : (s1 == 2) = false := by rw [beq_eq_false_iff_ne]; exact hk
        have hI : Hid (ldL (L.take (c + 1)) = l) := by show _ = _; rw [hN.out, if_neg hk]
        rw [← hI.out] at hln hO
        clear hN hE hcn
        go_wp2
        exact ⟨⟨c + 1, n, _, _, by omega, by omega, by go_num, rfl, hln, hO, hB⟩, by simp [intOf]; omega⟩
    · obtain rfl : c = L.length := by omega
      rw [List.take_length] at hln hO
      have hF : Hid (wr.ownsRow w.heap.size 93 2 (.slice o n cp) (ldL L).length (O.cellsP (ldL L))) := by show World.ownsRow _ _ _ _ _ _ _; rw [← hln.out]; exact hO.out
      clear hC hO hln
      go_wp2
      go_ret
      exact ⟨_, rfl, hF.out, hB.out⟩
end Go.Proofs.YtahfobbiaimoiaaGreatDoor

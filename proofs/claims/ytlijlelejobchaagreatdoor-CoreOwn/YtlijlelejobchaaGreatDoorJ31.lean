/- Book.Ints: it takes a list in, and leaves it as it reads. (Printed out of KInts.) -/
import Derived.Test.YtlijlelejobchaaGreatDoorJ19
import Derived.Deep.RegionHeld3
namespace Go.Proofs.YtlijlelejobchaaGreatDoor.K
open Go.RowKit
/-- The lists below i are marked, and k places of list i. -/
def rowsAt (rows : Nat → List Int) (i k j : Nat) : List Int := if j < i then List.replicate (rows j).length (mkA j) else if j = i then List.replicate k (mkA i) ++ (rows i).drop k else rows j
theorem rowsAt_i (rows : Nat → List Int) (i k : Nat) : rowsAt rows i k i = List.replicate k (mkA i) ++ (rows i).drop k := by rw [rowsAt, if_neg (Nat.lt_irrefl _), if_pos rfl]
theorem rowsAt_len (rows : Nat → List Int) (i k : Nat) (h : k ≤ (rows i).length) : (rowsAt rows i k i).length = (rows i).length := by
  rw [rowsAt_i, List.length_append, List.length_replicate, List.length_drop]; omega
theorem rowsAt_set (rows : Nat → List Int) (i k : Nat) (h : k < (rows i).length) : rowsAt rows i (k + 1) i = (rowsAt rows i k i).set k (mkA i) := by
  rw [rowsAt_i, rowsAt_i, List.set_append_right _ _ (by rw [List.length_replicate]; exact Nat.le_refl _), List.length_replicate, Nat.sub_self, List.drop_eq_getElem_cons h, List.set_cons_zero, List.replicate_succ', List.append_assoc]; rfl
theorem rowsAt_ne (rows : Nat → List Int) (i k j : Nat) (h : j ≠ i) : rowsAt rows i (k + 1) j = rowsAt rows i k j := by
  unfold rowsAt; rw [if_neg h, if_neg h]
theorem rowsAt_next (rows : Nat → List Int) (i j : Nat) : rowsAt rows (i + 1) 0 j = rowsAt rows i (rows i).length j := by
  unfold rowsAt
  by_cases h1 : j < i
  · rw [if_pos h1, if_pos (by omega)]
  · by_cases h2 : j = i
    · subst h2; rw [if_neg h1, if_pos (by omega), if_pos rfl, List.drop_length, List.append_nil]
    · rw [if_neg (by omega), if_neg h1, if_neg h2]
      by_cases h3 : j = i + 1
      · subst h3; rw [if_pos rfl]; rfl
      · rw [if_neg h3]
theorem rowsAt_zero (rows : Nat → List Int) (j : Nat) : rowsAt rows 0 0 j = rows j := by
  unfold rowsAt
  by_cases h : j = 0
  · subst h; rfl
  · rw [if_neg (by omega), if_neg h]
theorem Fam.store {w : World} {tag : Nat → Nat} {ov : Value} {m : Nat} {vs : List Value} {rows rows' : Nat → List Int} (h : Fam w tag 2 cL ov m vs rows) {i k g nn cap : Nat} {z : Int} (hv : vs[i]? = some (.slice (some ⟨g, 0, none⟩) nn cap)) (hr : rows' i = (rows i).set k z) (hr' : ∀ j, j < m → j ≠ i → rows' j = rows j) :
    Fam (w.setCell ⟨g, k, none⟩ (.int .i64 z)) tag 2 cL ov m vs rows' := by
  have s : Sm (· = cL i) tag w (w.setCell ⟨g, k, none⟩ (.int .i64 z)) := Sm.setCell _ (h.itag i _ g hv rfl)
  refine h.mvRow (i := i) s (by unfold cL; omega) (fun j _ hj => by unfold cL; omega) (fun v hv' => ?_) hr'
  rw [hv] at hv'
  cases hv'
  have hin := h.inner i _ hv
  obtain ⟨oa, cu, e⟩ := own_shape hin
  injection e with _ e2 _
  rw [← e2] at hin
  have h2 := (hin.stored k (.int .i64 z)).1
  rw [hr, List.length_set, ← e2]
  have e3 : cellsI ((rows i).set k z) = (cellsI (rows i)).set k (.int .i64 z) := by unfold cellsI; rw [List.map_set]
  rw [e3]; exact h2
theorem Fam.none (w : World) (tag : Nat → Nat) (t : Nat) (rows : Nat → List Int) : Fam w tag t cL (.slice none 0 0) 0 [] rows :=
  ⟨World.ownsRow_nil _ _ _ _, fun g e => by simp [Value.ownBlock] at e, fun j v hj => by simp at hj, fun j v g hj => by simp at hj⟩
theorem Rel.refl {w : World} {b : Nat} {e : TypeId} {size : Nat} {v : Value} {n : Nat} {xs : List Value} (h : w.ownsRow b e size v n xs) : Rel v v := fun g e1 _ => by
  rcases h.2 with ⟨rfl, _⟩ | ⟨g', cap, cur, rfl, _⟩
  · simp [Value.ownBlock] at e1
  · cases e1; exact ⟨n, n, cap, rfl, rfl⟩
theorem cellsI_snoc (l : List Int) (z : Int) : cellsI l ++ [.int .i64 z] = cellsI (l ++ [z]) := by simp [cellsI]
theorem take16 (k : Nat) (a z : Int) : (List.replicate k a ++ List.replicate 700 z).take (k + 16) = List.replicate k a ++ List.replicate 16 z := by
  rw [List.take_append, List.length_replicate, Nat.add_sub_cancel_left, List.take_of_length_le (by rw [List.length_replicate]; omega), List.take_replicate]
  congr 1
set_option maxRecDepth 100000 in
set_option maxHeartbeats 8000000 in
theorem closeInts (b : Nat) (tag : Nat → Nat) (w : World) (ov ow : Value) (m : Nat) (vs us : List Value) (rows : Nat → List Int) (N : Nat) (hk : Bk w b tag ov ow m vs us rows N) :
    Calls Tryz.prog 43 #[.pointer (some ⟨b, 0, none⟩)] w fun e w' => e = .returned (.bool true) ∧ (∃ o1 om, BoxB w' b ov ow o1 om N) ∧ Sm (· ≠ 0) tag w w' := by
  obtain ⟨iI, hiI, hzI0, hzI1, hzI2⟩ := info_parts infoI
  obtain ⟨iL, hiL, hzL0, hzL1, hzL2⟩ := info_parts infoL
  obtain ⟨hbx, hbt, hlive, hwant, hfresh, ⟨hN1, hN2⟩, hrow⟩ := hk
  have hm : m ≤ 1300000 := by omega
  have hrow' := hide' hrow
  have hfresh' := hide' hfresh
  have hlive0 : Hid (Fam w tag 2 cL ov m vs rows) := hlive
  have hbx' := hide' hbx
  clear hwant hlive hfresh hrow hN1 hN2
  obtain ⟨oa, cap, rfl⟩ := own_shape hlive0.out.outer
  have c4 := hbx.c4
  clear hbx
  go_enter Tryz.func43, Tryz.ntmps43
  go_wp2
  go_loopw [3] (fun i wr => ∃ (c : Nat), c ≤ m ∧ i = .int .i64 c ∧ BoxB wr b (.slice oa m cap) ow (.slice none 0 0) (.slice none 0 0) N ∧ Fam wr tag 2 cL (.slice oa m cap) m vs (rowsAt rows c 0) ∧ Sm (· ≠ 0) tag w wr) (fun i _ => ((m : Int) - intOf i).toNat)
  case atStart => exact ⟨0, Nat.zero_le _, rfl, hbx'.out, hlive0.out.congr (fun j _ => rowsAt_zero rows j), Sm.refl _ _ _⟩
  case round =>
    obtain ⟨c, hc, rfl, hb, hL, hS⟩ := hrel
    have d4 := hb.c4
    by_cases hlt : c < m
    · obtain ⟨g, cap2, e, _, _⟩ := hL.outer.form (by omega)
      obtain ⟨rfl, rfl⟩ : oa = some ⟨g, 0, none⟩ ∧ cap = cap2 := by injection e with h1 h2 h3; exact ⟨h1, h3⟩
      obtain ⟨v, hv⟩ : ∃ v, vs[c]? = some v := ⟨_, List.getElem?_eq_getElem (by rw [hL.len]; exact hlt)⟩
      have hin := hL.inner c v hv
      rw [rowsAt_len rows c 0 (Nat.zero_le _)] at hin
      have hnc := hrow'.out c hlt
      obtain ⟨ox, cx, rfl⟩ := own_shape hin
      have hv' := hide' hv
      have hL' := hide' hL
      have hb' := hide' hb
      have hS' := hide' hS
      obtain ⟨nc, hnc'⟩ : ∃ nc, (rows c).length = nc := ⟨_, rfl⟩
      rw [hnc'] at hnc hin hv'
      rw [hnc'] at hv
      have hnE := hide' hnc'
      clear hL hb hS e c4 hin hnc' hv
      go_wp2
      go_loopw [4] (fun k wr2 => ∃ (f : Nat), f ≤ nc ∧ k = .int .i64 f ∧ BoxB wr2 b (.slice (some ⟨g, 0, none⟩) m cap) ow (.slice none 0 0) (.slice none 0 0) N ∧ Fam wr2 tag 2 cL (.slice (some ⟨g, 0, none⟩) m cap) m vs (rowsAt rows c f) ∧ Sm (· ≠ 0) tag w wr2) (fun k _ => ((nc : Int) - intOf k).toNat)
      case atStart => exact ⟨0, Nat.zero_le _, rfl, hb'.out, hL'.out, hS'.out⟩
      case round =>
        clear hb' hL' hS' d4
        obtain ⟨f, hf, rfl, hb, hL, hS⟩ := hrel
        have d4 := hb.c4
        have cv : wr.cell? ⟨g, c, none⟩ = some (.slice ox nc cx) := by rw [hL.outer.cellAt c (by omega)]; exact hv'.out
        by_cases hflt : f < nc
        · have hin := hL.inner c _ hv'.out
          rw [rowsAt_len rows c f (by rw [hnE.out]; omega), hnE.out] at hin
          obtain ⟨gx, cx2, e, _, _⟩ := hin.form (by omega)
          obtain ⟨rfl, rfl⟩ : ox = some ⟨gx, 0, none⟩ ∧ cx = cx2 := by injection e with h1 h2 h3; exact ⟨h1, h3⟩
          obtain ⟨z, hz⟩ : ∃ z, (rowsAt rows c f c)[f]? = some z := ⟨_, List.getElem?_eq_getElem (by rw [rowsAt_len rows c f (by rw [hnE.out]; omega), hnE.out]; exact hflt)⟩
          have cz := cell_in hin hz
          have fz := hin.frozenAt f
          have hL' := hide' hL
          have hb' := hide' hb
          have hS' := hide' hS
          have ht : Hid (tag gx = cL c) := hL.itag c _ gx hv'.out rfl
          clear hL hb hS e hin hz
          go_wp2
          have s1 : Sm (· = cL c) tag wr (wr.setCell ⟨gx, f, none⟩ (.int .i64 (-1000 - (c : Int)))) := Sm.setCell _ ht.out
          exact ⟨⟨f + 1, by omega, by go_num, hb'.out.mv s1 (by rw [hbt]; unfold cL; omega), hL'.out.store hv'.out (rowsAt_set rows c f (by rw [hnE.out]; exact hflt)) (fun j _ hj => rowsAt_ne rows c f j hj), hS'.out.trans (s1.mono fun t et => by rw [et]; unfold cL; omega) (fun _ _ => rfl)⟩, by simp [intOf]; omega⟩
        · obtain rfl : f = nc := by omega
          have hL' := hide' hL
          have hb' := hide' hb
          have hS' := hide' hS
          clear hL hb hS
          go_wp2
          exact ⟨⟨c + 1, by omega, by go_num, hb'.out, hL'.out.congr (fun j _ => by rw [rowsAt_next, hnE.out]), hS'.out⟩, by simp [intOf]; omega⟩
    · obtain rfl : m = c := by omega
      have hP0 : Hid (PC w tag wr tag b (.slice oa m cap) ow (.slice none 0 0) (.slice none 0 0) N m vs (fun j => (rows j).length) 0 [] 0 []) :=
        ⟨hb, hbt, hL.congr (fun j hj => by show _ = rowsAt rows m 0 j; rw [rowsAt, if_pos hj]), Fam.none _ _ _ _, Fam.none _ _ _ _, fun j v v1 _ h => by simp at h, fun g hg => hfresh'.out g (by have := hS.size; omega), hS, fun _ _ => rfl⟩
      clear hL hb hS hlive0 hbx' c4 hfresh'
      generalize hnn : (fun j => (rows j).length) = n at hP0
      have hn : Hid (∀ j, j < m → n j ≤ 1000000) := fun j hj => by rw [← hnn]; exact hrow'.out j hj
      clear hnn hrow'
      go_wp2
      go_loopw [5] (fun i wr2 => ∃ (c : Nat) (tagr : Nat → Nat) (o1 : Value) (vs1 : List Value), c ≤ m ∧ i = .int .i64 c ∧ PC w tag wr2 tagr b (.slice oa m cap) ow o1 (.slice none 0 0) N m vs n c vs1 0 []) (fun i _ => ((m : Int) - intOf i).toNat)
      case atStart => exact ⟨0, tag, _, _, Nat.zero_le _, rfl, hP0.out⟩
      case round =>
        clear hP0 d4
        obtain ⟨c, tagr, o1, vs1, hc, rfl, hP⟩ := hrel
        have d4 := hP.box.c4
        by_cases hlt2 : c < m
        · obtain ⟨g, cap2, e, _, _⟩ := hP.live.outer.form (by omega)
          obtain ⟨rfl, rfl⟩ : oa = some ⟨g, 0, none⟩ ∧ cap = cap2 := by injection e with h1 h2 h3; exact ⟨h1, h3⟩
          obtain ⟨v, hv⟩ : ∃ v, vs[c]? = some v := ⟨_, List.getElem?_eq_getElem (by rw [hP.live.len]; exact hlt2)⟩
          have hin := hP.live.inner c v hv
          rw [List.length_replicate] at hin
          have cv : wr.cell? ⟨g, c, none⟩ = some v := by rw [hP.live.outer.cellAt c (by omega)]; exact hv
          have hnc := hn.out c hlt2
          obtain ⟨nc, hnc'⟩ : ∃ nc, n c = nc := ⟨_, rfl⟩
          rw [hnc'] at hnc hin
          obtain ⟨ox, cx, rfl⟩ := own_shape hin
          have hnE := hide' hnc'
          have hv' := hide' hv
          have hP' := hide' hP
          have hin' := hide' hin
          clear hnc' hv hP hin e
          go_wp2
          go_loopw [6, 7] (fun lv k wr2 => ∃ (f : Nat) (tag2 : Nat → Nat), f ≤ 16 ∧ k = .int .i64 f ∧ PC w tag wr2 tag2 b (.slice (some ⟨g, 0, none⟩) m cap) ow o1 (.slice none 0 0) N m vs n c vs1 0 [] ∧ wr2.ownsRow 0 3 1 lv (nc + f) (cellsI (List.replicate nc (mkA c) ++ List.replicate f (mkB c))) ∧ (∀ q, lv.ownBlock = some q → tag2 q = cL c) ∧ Rel (.slice ox nc cx) lv) (fun _ k _ => ((16 : Int) - intOf k).toNat)
          case atStart => exact ⟨0, tagr, by decide, rfl, hP'.out, by simpa using hin'.out, fun q hq => hP'.out.live.itag c _ q hv'.out hq, Rel.refl hin'.out⟩
          case round =>
            clear hP' hin' d4 cv
            obtain ⟨f, tag2, hf, rfl, hP, hrow, hltg, hrel2⟩ := hrel
            have hP' := hide' hP
            have hrow' := hide' hrow
            have hltg' := hide' hltg
            have hrel2' := hide' hrel2
            by_cases hflt : f < 16
            · obtain ⟨ol, cl, rfl⟩ := own_shape hrow
              clear hP hrow hltg hrel2
              go_wp2_with (at_builtin; go_loud (refine wpList_append_two _ rfl _ _ 23 rfl 0 3 iI (.int .i64 0) 1 8 Tryz.underlying23 hiI hzI0 hzI1 hzI2 rfl (by decide) (.slice ol (nc + f) cl) (nc + f) (cellsI (List.replicate nc (mkA c) ++ List.replicate f (mkB c))) rfl (hrow'.out.alloc _) ⟨wr.heap.size, 0, none⟩ 1 1 [.int .i64 (-5000000 - (c : Int))] rfl rfl (cell_one_new _ _ _) (by simp [Value.oneCell']) (by decide) (by unfold maxLen; omega) (by omega) (Nat.zero_le _) ?_); intro g5 cap5 w5 hnew5 hold5 hat5)
              have hnew6 : w5.ownsRow 0 3 1 (.slice (some ⟨g5, 0, none⟩) (nc + (f + 1)) cap5) (nc + (f + 1)) (cellsI (List.replicate nc (mkA c) ++ List.replicate (f + 1) (mkB c))) := by
                have h := hnew5
                rw [show (-5000000 - (c : Int)) = mkB c from rfl, cellsI_snoc, List.append_assoc, ← List.replicate_succ'] at h
                exact h
              obtain ⟨tag3, hP3, ht3, hr3, _⟩ := (hP'.out.alloc _).grow hv'.out hltg'.out hrel2'.out hnew6 hat5 (by rw [hnE.out]; omega) (by rw [hnE.out]; exact List.take_left' (List.length_replicate ..)) (fun u hu => by rw [hP'.out.lenO c (Nat.le_refl _)] at hu; cases hu) (Nat.zero_le _)
              exact ⟨⟨f + 1, tag3, by omega, by go_num, hP3, hnew6, fun q hq => by cases hq; exact ht3, hr3⟩, by simp [intOf]; omega⟩
            · obtain rfl : f = 16 := by omega
              have d6 := hP.box.c6
              obtain ⟨ol, cl, rfl⟩ := own_shape hrow
              clear hP hrow hltg hrel2
              go_wp2_with (at_builtin; go_loud (refine wpList_append_two _ rfl _ _ 33 rfl 0 23 iL (.slice none 0 0) 1 24 Tryz.underlying33 hiL hzL0 hzL1 hzL2 rfl (by decide) o1 c vs1 rfl (hP'.out.one.outer.alloc _) ⟨wr.heap.size, 0, none⟩ 1 1 [.slice ol (nc + 16) cl] rfl rfl (cell_one_new _ _ _) (by simp [Value.oneCell']) (by decide) (by unfold maxLen; omega) (by omega) (Nat.zero_le _) ?_); intro g6 cap6 w6 hnew6 hold6 hat6; have hb6 := hide' ((hP'.out.alloc _).boxO hat6); have c66 := hb6.out.c6; have f66 := hb6.out.fz 6)
              obtain ⟨tag3, hP3⟩ := (hP'.out.alloc _).push1 hv'.out hrel2'.out hltg'.out (by unfold grA; rw [hnE.out]; exact hrow'.out.alloc _) hnew6 hold6 hat6
              exact ⟨⟨c + 1, tag3, _, _, by omega, by go_num, hP3⟩, by simp [intOf]; omega⟩
        · obtain rfl : m = c := by omega
          have d6 := hP.box.c6
          have KL := hide' (lookInts b wr tagr _ ow o1 (.slice none 0 0) o1 N m 4 16 cL n vs vs1 hP.box hP.live hP.one hm hn.out (by decide))
          have hP' := hide' hP
          clear hP
          go_wp2_with (go_at_call 70; refine KL.out.mono ?_; rintro e w7 ⟨rfl, hw7⟩; obtain rfl : wr = w7 := hw7.symm)
          go_loopw [8] (fun i wr2 => ∃ (c : Nat) (tagr : Nat → Nat) (om : Value) (vs2 : List Value), c ≤ m ∧ i = .int .i64 c ∧ PC w tag wr2 tagr b (.slice oa m cap) ow o1 om N m vs n m vs1 c vs2) (fun i _ => ((m : Int) - intOf i).toNat)
          case atStart => exact ⟨0, tagr, _, _, Nat.zero_le _, rfl, hP'.out⟩
          case round =>
            clear hP' d4 d6 KL
            obtain ⟨c, tagr, om, vs2, hc2, rfl, hP⟩ := hrel
            have d4 := hP.box.c4
            by_cases hlt3 : c < m
            · obtain ⟨g, cap2, e, _, _⟩ := hP.live.outer.form (by omega)
              obtain ⟨rfl, rfl⟩ : oa = some ⟨g, 0, none⟩ ∧ cap = cap2 := by injection e with h1 h2 h3; exact ⟨h1, h3⟩
              obtain ⟨v, hv⟩ : ∃ v, vs[c]? = some v := ⟨_, List.getElem?_eq_getElem (by rw [hP.live.len]; exact hlt3)⟩
              have hin := hP.live.inner c v hv
              rw [List.length_replicate] at hin
              have hnc := hn.out c hlt3
              obtain ⟨nc, hnc'⟩ : ∃ nc, n c = nc := ⟨_, rfl⟩
              rw [hnc'] at hnc hin
              obtain ⟨ox, cx, rfl⟩ := own_shape hin
              have hnE := hide' hnc'
              have hv' := hide' hv
              have hP' := hide' hP
              clear hnc' hv hP hin e
              obtain ⟨wr0, e0⟩ : ∃ x, x = wr := ⟨_, rfl⟩
              subst e0
              go_wp2
              go_loopw [9, 10] (fun mv k wr2 => ∃ (f : Nat), f ≤ 700 ∧ k = .int .i64 f ∧ wr2.ownsRow wr0.heap.size 3 1 mv f (cellsI (List.replicate f (mkB c))) ∧ Below wr0.heap.size wr0 wr2) (fun _ k _ => ((700 : Int) - intOf k).toNat)
              case atStart => exact ⟨0, by decide, rfl, World.ownsRow_nil _ _ _ _, Below.refl _ _⟩
              case round =>
                obtain ⟨f, hf, rfl, hrow, hB⟩ := hrel
                have hrow' := hide' hrow
                have hB' := hide' hB
                have hBs := hB.size
                by_cases hflt : f < 700
                · obtain ⟨ol, cl, rfl⟩ := own_shape hrow
                  clear hrow hB
                  go_wp2_with (at_builtin; go_loud (refine wpList_append_two _ rfl _ _ 23 rfl wr0.heap.size 3 iI (.int .i64 0) 1 8 Tryz.underlying23 hiI hzI0 hzI1 hzI2 rfl (by decide) (.slice ol f cl) f (cellsI (List.replicate f (mkB c))) rfl (hrow'.out.alloc _) ⟨wr.heap.size, 0, none⟩ 1 1 [.int .i64 (-5000000 - (c : Int))] rfl rfl (cell_one_new _ _ _) (by simp [Value.oneCell']) (by decide) (by unfold maxLen; omega) (by omega) (by simp; omega) ?_); intro g5 cap5 w5 hnew5 hold5 hat5)
                  have hnew6 : w5.ownsRow wr0.heap.size 3 1 (.slice (some ⟨g5, 0, none⟩) (f + 1) cap5) (f + 1) (cellsI (List.replicate (f + 1) (mkB c))) := by
                    have h := hnew5
                    rw [show (-5000000 - (c : Int)) = mkB c from rfl, cellsI_snoc, ← List.replicate_succ'] at h
                    exact h
                  have hB6 : Below wr0.heap.size wr0 w5 := by
                    have hBa := hB'.out.alloc hBs (.cells #[.int .i64 (-5000000 - (c : Int))] 3)
                    rcases hat5 with ⟨e, hg⟩ | ⟨_, hg⟩
                    · exact hBa.grown hg hBa.size (fun k ek => by cases ek; exact (hnew5.lt g5 rfl).1)
                    · exact hBa.grown hg hBa.size (fun k ek => by cases ek)
                  exact ⟨⟨f + 1, by omega, by go_num, hnew6, hB6⟩, by simp [intOf]; omega⟩
                · obtain rfl : f = 700 := by omega
                  have hP2 := hide' (hP'.out.below hB)
                  obtain ⟨gm, cm, rfl, _, _⟩ := hrow.form (by decide)
                  have c4a := hP2.out.drew.box.c4
                  have c7a := hP2.out.drew.box.c7
                  have cva : wr.drew.cell? ⟨g, c, none⟩ = some (.slice ox nc cx) := by rw [hP2.out.drew.live.outer.cellAt c (by omega)]; exact hv'.out
                  have hin : Hid (wr.drew.ownsRow 0 3 1 (.slice ox nc cx) nc (cellsI (List.replicate nc (mkA c)))) := by
                    have h := hP2.out.drew.live.inner c _ hv'.out
                    rwa [List.length_replicate, hnE.out] at h
                  have hnews : Hid (∀ j u, (cellsI (List.replicate 700 (mkB c)))[j]? = some u → wr.drew.cell? (Addr.add ⟨gm, 0, none⟩ j) = some u) := hrow.cells rfl
                  have hlen7 : Hid ((cellsI (List.replicate 700 (mkB c))).length = 700 * 1) := by show _ = _; rw [cellsI_len, List.length_replicate]
                  generalize hL7 : cellsI (List.replicate 700 (mkB c)) = L7 at *
                  have hone7 : Hid (∀ u ∈ L7, u.oneCell' = true) := by rw [← hL7]; exact one_cells _
                  have hL7' := hide' hL7
                  clear hP' hrow hB hrow' hB' hL7 d4
                  go_wp2
                  refine wp_region_held_drew (S := (fun _ => True)) (by kernel_rfl) ?_ (fun hHeld => ?_)
                  · trivial
                  refine wpAnyH_take (i := 0) (oi := { dst := some 103, op := Op.move (Operand.tmp 0), type := 31, pos := "keep.go:143", after := #[], guard := none }) (v := ?_) rfl (by kernel_rfl) (by kernel_rfl) (by kernel_rfl) (fun _ _ _ h => h) (Or.inl ⟨by rfl, ?_⟩) (by assumption) ?_
                  rotate_left
                  · intro w hSw; (try dsimp only at hSw); go_simp <;> with_reducible rfl
                  simp only [Act.put, List.setIfInBounds_toArray, List.set_cons_zero, List.set_cons_succ]
                  refine wpAnyH_take (i := 1) (oi := { dst := some 104, op := Op.move (Operand.tmp 0), type := 31, pos := "keep.go:143", after := #[], guard := none }) (v := ?_) rfl (by kernel_rfl) (by kernel_rfl) (by kernel_rfl) (fun _ _ _ h => h) (Or.inl ⟨by rfl, ?_⟩) (by assumption) ?_
                  rotate_left
                  · intro w hSw; (try dsimp only at hSw); go_simp <;> with_reducible rfl
                  simp only [Act.put, List.setIfInBounds_toArray, List.set_cons_zero, List.set_cons_succ]
                  refine wpAnyH_take (i := 2) (oi := { dst := some 105, op := Op.nilCheck (Operand.tmp 104), type := 0, pos := "keep.go:143", after := #[{ on := 1, ground := Ground.data }], guard := none }) (v := ?_) rfl (by kernel_rfl) (by kernel_rfl) (by kernel_rfl) (fun _ _ _ h => h) (Or.inl ⟨by rfl, ?_⟩) (by assumption) ?_
                  rotate_left
                  · intro w hSw; (try dsimp only at hSw); go_simp <;> with_reducible rfl
                  simp only [Act.put, List.setIfInBounds_toArray, List.set_cons_zero, List.set_cons_succ]
                  refine wpAnyH_take (i := 3) (oi := { dst := some 106, op := Op.fieldAddr 36 (Operand.tmp 105) 7, type := 0, pos := "keep.go:143", after := #[{ on := 2, ground := Ground.data }], guard := none }) (v := ?_) rfl (by kernel_rfl) (by kernel_rfl) (by kernel_rfl) (fun _ _ _ h => h) (Or.inl ⟨by rfl, ?_⟩) (by assumption) ?_
                  rotate_left
                  · intro w hSw; (try dsimp only at hSw); go_simp <;> with_reducible rfl
                  simp only [Act.put, List.setIfInBounds_toArray, List.set_cons_zero, List.set_cons_succ]
                  refine wpAnyH_take (i := 5) (oi := { dst := some 108, op := Op.move (Operand.tmp 0), type := 31, pos := "keep.go:143", after := #[], guard := none }) (v := ?_) rfl (by kernel_rfl) (by kernel_rfl) (by kernel_rfl) (fun _ _ _ h => h) (Or.inl ⟨by rfl, ?_⟩) (by assumption) ?_
                  rotate_left
                  · intro w hSw; (try dsimp only at hSw); go_simp <;> with_reducible rfl
                  simp only [Act.put, List.setIfInBounds_toArray, List.set_cons_zero, List.set_cons_succ]
                  refine wpAnyH_take (i := 6) (oi := { dst := some 109, op := Op.nilCheck (Operand.tmp 108), type := 0, pos := "keep.go:143", after := #[{ on := 5, ground := Ground.data }], guard := none }) (v := ?_) rfl (by kernel_rfl) (by kernel_rfl) (by kernel_rfl) (fun _ _ _ h => h) (Or.inl ⟨by rfl, ?_⟩) (by assumption) ?_
                  rotate_left
                  · intro w hSw; (try dsimp only at hSw); go_simp <;> with_reducible rfl
                  simp only [Act.put, List.setIfInBounds_toArray, List.set_cons_zero, List.set_cons_succ]
                  refine wpAnyH_take (i := 7) (oi := { dst := some 110, op := Op.fieldAddr 36 (Operand.tmp 109) 4, type := 0, pos := "keep.go:143", after := #[{ on := 6, ground := Ground.data }], guard := none }) (v := ?_) rfl (by kernel_rfl) (by kernel_rfl) (by kernel_rfl) (fun _ _ _ h => h) (Or.inl ⟨by rfl, ?_⟩) (by assumption) ?_
                  rotate_left
                  · intro w hSw; (try dsimp only at hSw); go_simp <;> with_reducible rfl
                  simp only [Act.put, List.setIfInBounds_toArray, List.set_cons_zero, List.set_cons_succ]
                  refine wpAnyH_take (i := 9) (oi := { dst := some 112, op := Op.move (Operand.tmp 8), type := 3, pos := "keep.go:143", after := #[], guard := none }) (v := ?_) rfl (by kernel_rfl) (by kernel_rfl) (by kernel_rfl) (fun _ _ _ h => h) (Or.inl ⟨by rfl, ?_⟩) (by assumption) ?_
                  rotate_left
                  · intro w hSw; (try dsimp only at hSw); go_simp <;> with_reducible rfl
                  simp only [Act.put, List.setIfInBounds_toArray, List.set_cons_zero, List.set_cons_succ]
                  refine wpAnyH_take (i := 12) (oi := { dst := some 115, op := Op.move (Operand.tmp 9), type := 23, pos := "keep.go:143", after := #[], guard := none }) (v := ?_) rfl (by kernel_rfl) (by kernel_rfl) (by kernel_rfl) (fun _ _ _ h => h) (Or.inl ⟨by rfl, ?_⟩) (by assumption) ?_
                  rotate_left
                  · intro w hSw; (try dsimp only at hSw); go_simp <;> with_reducible rfl
                  simp only [Act.put, List.setIfInBounds_toArray, List.set_cons_zero, List.set_cons_succ]
                  refine wpAnyH_ready (rs := [4, 8]) (by kernel_rfl) (by simp) ?_
                  refine AllReadyH.cons (o := { dst := some 107, op := Op.load 33 (Operand.tmp 106), type := 33, pos := "keep.go:143", after := #[{ on := 3, ground := Ground.data }], guard := none }) rfl (fun K hK => ?_) ?_
                  · skip
                    go_simp
                    refine hK.out _ _ ?_ (fun hHeld => ?_)
                    · trivial
                    clear hK K
                    try simp only [Act.put, List.setIfInBounds_toArray, List.set_cons_zero, List.set_cons_succ]
                    refine wpAnyH_ready (rs := [8]) (by kernel_rfl) (by simp) ?_
                    refine AllReadyH.cons (o := { dst := some 111, op := Op.load 33 (Operand.tmp 110), type := 33, pos := "keep.go:143", after := #[{ on := 7, ground := Ground.data }], guard := none }) rfl (fun K hK => ?_) AllReadyH.nil
                    go_simp
                    refine hK.out _ _ ?_ (fun hHeld => ?_)
                    · trivial
                    clear hK K
                    try simp only [Act.put, List.setIfInBounds_toArray, List.set_cons_zero, List.set_cons_succ]
                    refine wpAnyH_take (i := 10) (oi := { dst := some 113, op := Op.indexAddr 33 (Operand.tmp 111) (Operand.tmp 112), type := 0, pos := "keep.go:143", after := #[{ on := 8, ground := Ground.data }, { on := 9, ground := Ground.data }], guard := none }) (v := ?_) rfl (by kernel_rfl) (by kernel_rfl) (by kernel_rfl) (fun _ _ _ h => h) (Or.inl ⟨by rfl, ?_⟩) (by assumption) ?_
                    rotate_left
                    · intro w hSw; (try dsimp only at hSw); go_simp <;> with_reducible rfl
                    simp only [Act.put, List.setIfInBounds_toArray, List.set_cons_zero, List.set_cons_succ]
                    refine wpAnyH_ready (rs := [11]) (by kernel_rfl) (by simp) ?_
                    refine AllReadyH.cons (o := { dst := some 114, op := Op.load 23 (Operand.tmp 113), type := 23, pos := "keep.go:143", after := #[{ on := 10, ground := Ground.data }], guard := none }) rfl (fun K hK => ?_) AllReadyH.nil
                    go_simp
                    refine hK.out _ _ ?_ (fun hHeld => ?_)
                    · trivial
                    clear hK K
                    try simp only [Act.put, List.setIfInBounds_toArray, List.set_cons_zero, List.set_cons_succ]
                    refine wpAnyH_ready (rs := [13]) (by kernel_rfl) (by simp) ?_
                    refine AllReadyH.cons (o := { dst := some 116, op := Op.call { callee := Callee.builtin Builtin.append, args := #[Operand.tmp 114, Operand.tmp 115], argTypes := #[23, 23] }, type := 23, pos := "keep.go:143", after := #[{ on := 11, ground := Ground.data }, { on := 12, ground := Ground.data }], guard := none }) rfl (fun K hK => ?_) AllReadyH.nil
                    rw [if_pos (by rfl)]
                    refine wp_append_two _ (.tmp 114) (.tmp 115) 23 rfl 0 3 iI (.int .i64 0) 1 8 Tryz.underlying23 hiI hzI0 hzI1 hzI2 rfl (by decide) (.slice ox nc cx) nc (cellsI (List.replicate nc (mkA c))) rfl hin.out ⟨gm, 0, none⟩ 700 cm L7 rfl hlen7.out hnews.out hone7.out (by decide) (by unfold maxLen; omega) (by omega) (Nat.zero_le _) ?_; intro g5 cap5 w5 hnew5 hold5 hat5; have hnew5' : Hid (w5.ownsRow 0 3 1 (.slice (some ⟨g5, 0, none⟩) (nc + 700) cap5) (nc + 700) (cellsI (List.replicate nc (mkA c) ++ List.replicate 700 (mkB c)))) := (by have h := hnew5; rw [← hL7'.out] at h; unfold cellsI at h ⊢; rw [List.map_append]; exact h); clear hnew5; obtain ⟨tag5, hP5, ht5, hr5, _⟩ := hP2.out.drew.grow hv'.out (fun k ek => hP2.out.live.itag c _ k hv'.out ek) (Rel.refl hin.out) hnew5'.out hat5 (by rw [hnE.out]; omega) (by rw [hnE.out]; exact List.take_left' (List.length_replicate ..)) (fun u hu => ⟨(hP2.out.rel c _ u hv'.out hu).symm, by rw [hnE.out]; omega, by unfold grA; rw [hnE.out]; exact take16 _ _ _⟩) (Nat.le_refl _); have hP5' := hide' hP5; have ht5' := hide' ht5; clear hP5 hold5 hat5 hr5 ht5; have c7b := hP5'.out.box.c7; have c7c := (hP5'.out.alloc (.cells #[.slice (some ⟨g5, 0, none⟩) (nc + 700) cap5] 23)).box.c7; (try dsimp only)
                    refine hK.out _ _ ?_ (fun hHeld => ?_)
                    · trivial
                    clear hK K
                    try simp only [Act.put, List.setIfInBounds_toArray, List.set_cons_zero, List.set_cons_succ]
                    refine wpAnyH_ready (rs := [14]) (by kernel_rfl) (by simp) ?_
                    refine AllReadyH.cons (o := { dst := some 117, op := Op.buildSlice 33 1 #[(0, Operand.tmp 116)], type := 33, pos := "keep.go:143", after := #[{ on := 13, ground := Ground.data }], guard := none }) rfl (fun K hK => ?_) AllReadyH.nil
                    go_simp
                    refine hK.out _ _ ?_ (fun hHeld => ?_)
                    · trivial
                    clear hK K
                    try simp only [Act.put, List.setIfInBounds_toArray, List.set_cons_zero, List.set_cons_succ]
                    refine wpAnyH_ready (rs := [15]) (by kernel_rfl) (by simp) ?_
                    refine AllReadyH.cons (o := { dst := some 118, op := Op.call { callee := Callee.builtin Builtin.append, args := #[Operand.tmp 107, Operand.tmp 117], argTypes := #[33, 33] }, type := 33, pos := "keep.go:143", after := #[{ on := 4, ground := Ground.data }, { on := 14, ground := Ground.data }, { on := 13, ground := Ground.chain }], guard := none }) rfl (fun K hK => ?_) AllReadyH.nil
                    rw [if_pos (by rfl)]
                    refine wp_append_two _ (.tmp 107) (.tmp 117) 33 rfl 0 23 iL (.slice none 0 0) 1 24 Tryz.underlying33 hiL hzL0 hzL1 hzL2 rfl (by decide) om c vs2 rfl (hP5'.out.many.outer.alloc _) ⟨w5.heap.size, 0, none⟩ 1 1 [.slice (some ⟨g5, 0, none⟩) (nc + 700) cap5] rfl rfl (cell_one_new _ _ _) (by simp [Value.oneCell']) (by decide) (by unfold maxLen; omega) (by omega) (Nat.zero_le _) ?_; intro g6 cap6 w6 hnew6 hold6 hat6; have hb6 := hide' ((hP5'.out.alloc _).boxM hat6); have c66 := hb6.out.c7; have f66 := hb6.out.fz 7; (try dsimp only)
                    refine hK.out _ _ ?_ (fun hHeld => ?_)
                    · trivial
                    clear hK K
                    try simp only [Act.put, List.setIfInBounds_toArray, List.set_cons_zero, List.set_cons_succ]
                    refine wpAnyH_take (i := 16) (oi := { dst := some 119, op := Op.nilCheck (Operand.tmp 103), type := 0, pos := "keep.go:143", after := #[{ on := 0, ground := Ground.data }, { on := 0, ground := Ground.phase }, { on := 1, ground := Ground.phase }, { on := 2, ground := Ground.phase }, { on := 3, ground := Ground.phase }, { on := 4, ground := Ground.phase }, { on := 5, ground := Ground.phase }, { on := 6, ground := Ground.phase }, { on := 7, ground := Ground.phase }, { on := 8, ground := Ground.phase }, { on := 9, ground := Ground.phase }, { on := 10, ground := Ground.phase }, { on := 11, ground := Ground.phase }, { on := 12, ground := Ground.phase }, { on := 13, ground := Ground.phase }, { on := 14, ground := Ground.phase }, { on := 15, ground := Ground.phase }], guard := none }) (v := ?_) rfl (by kernel_rfl) (by kernel_rfl) (by kernel_rfl) (fun _ _ _ h => h) (Or.inl ⟨by rfl, ?_⟩) (by assumption) ?_
                    rotate_left
                    · intro w hSw; (try dsimp only at hSw); go_simp <;> with_reducible rfl
                    simp only [Act.put, List.setIfInBounds_toArray, List.set_cons_zero, List.set_cons_succ]
                    refine wpAnyH_take (i := 17) (oi := { dst := some 120, op := Op.fieldAddr 36 (Operand.tmp 119) 7, type := 0, pos := "keep.go:143", after := #[{ on := 16, ground := Ground.data }, { on := 0, ground := Ground.phase }, { on := 1, ground := Ground.phase }, { on := 2, ground := Ground.phase }, { on := 3, ground := Ground.phase }, { on := 4, ground := Ground.phase }, { on := 5, ground := Ground.phase }, { on := 6, ground := Ground.phase }, { on := 7, ground := Ground.phase }, { on := 8, ground := Ground.phase }, { on := 9, ground := Ground.phase }, { on := 10, ground := Ground.phase }, { on := 11, ground := Ground.phase }, { on := 12, ground := Ground.phase }, { on := 13, ground := Ground.phase }, { on := 14, ground := Ground.phase }, { on := 15, ground := Ground.phase }], guard := none }) (v := ?_) rfl (by kernel_rfl) (by kernel_rfl) (by kernel_rfl) (fun _ _ _ h => h) (Or.inl ⟨by rfl, ?_⟩) (by assumption) ?_
                    rotate_left
                    · intro w hSw; (try dsimp only at hSw); go_simp <;> with_reducible rfl
                    simp only [Act.put, List.setIfInBounds_toArray, List.set_cons_zero, List.set_cons_succ]
                    refine wpAnyH_ready (rs := [18]) (by kernel_rfl) (by simp) ?_
                    refine AllReadyH.cons (o := { dst := none, op := Op.store 33 (Operand.tmp 120) (Operand.tmp 118), type := 0, pos := "keep.go:143", after := #[{ on := 17, ground := Ground.data }, { on := 15, ground := Ground.data }, { on := 15, ground := Ground.chain }, { on := 0, ground := Ground.phase }, { on := 1, ground := Ground.phase }, { on := 2, ground := Ground.phase }, { on := 3, ground := Ground.phase }, { on := 4, ground := Ground.phase }, { on := 5, ground := Ground.phase }, { on := 6, ground := Ground.phase }, { on := 7, ground := Ground.phase }, { on := 8, ground := Ground.phase }, { on := 9, ground := Ground.phase }, { on := 10, ground := Ground.phase }, { on := 11, ground := Ground.phase }, { on := 12, ground := Ground.phase }, { on := 13, ground := Ground.phase }, { on := 14, ground := Ground.phase }, { on := 15, ground := Ground.phase }], guard := none }) rfl (fun K hK => ?_) AllReadyH.nil
                    go_simp
                    refine hK.out _ _ ?_ (fun hHeld => ?_)
                    · trivial
                    clear hK K
                    try simp only [Act.put, List.setIfInBounds_toArray, List.set_cons_zero, List.set_cons_succ]
                    refine wpAnyH_done (by kernel_rfl) ?_ _
                    skip
                    go_wp2
                    obtain ⟨tag6, hP6⟩ := (hP5'.out.alloc _).push2 (fun k ek => by cases ek; exact ht5'.out) (by unfold grA; rw [hnE.out]; exact hnew5'.out.alloc _) hnew6 hold6 hat6
                    exact ⟨⟨c + 1, tag6, _, _, by omega, by go_num, hP6⟩, by simp [intOf]; omega⟩
                  refine AllReadyH.cons (o := { dst := some 111, op := Op.load 33 (Operand.tmp 110), type := 33, pos := "keep.go:143", after := #[{ on := 7, ground := Ground.data }], guard := none }) rfl (fun K hK => ?_) AllReadyH.nil
                  go_simp
                  refine hK.out _ _ ?_ (fun hHeld => ?_)
                  · trivial
                  clear hK K
                  try simp only [Act.put, List.setIfInBounds_toArray, List.set_cons_zero, List.set_cons_succ]
                  refine wpAnyH_take (i := 10) (oi := { dst := some 113, op := Op.indexAddr 33 (Operand.tmp 111) (Operand.tmp 112), type := 0, pos := "keep.go:143", after := #[{ on := 8, ground := Ground.data }, { on := 9, ground := Ground.data }], guard := none }) (v := ?_) rfl (by kernel_rfl) (by kernel_rfl) (by kernel_rfl) (fun _ _ _ h => h) (Or.inl ⟨by rfl, ?_⟩) (by assumption) ?_
                  rotate_left
                  · intro w hSw; (try dsimp only at hSw); go_simp <;> with_reducible rfl
                  simp only [Act.put, List.setIfInBounds_toArray, List.set_cons_zero, List.set_cons_succ]
                  refine wpAnyH_ready (rs := [4, 11]) (by kernel_rfl) (by simp) ?_
                  refine AllReadyH.cons (o := { dst := some 107, op := Op.load 33 (Operand.tmp 106), type := 33, pos := "keep.go:143", after := #[{ on := 3, ground := Ground.data }], guard := none }) rfl (fun K hK => ?_) ?_
                  · skip
                    go_simp
                    refine hK.out _ _ ?_ (fun hHeld => ?_)
                    · trivial
                    clear hK K
                    try simp only [Act.put, List.setIfInBounds_toArray, List.set_cons_zero, List.set_cons_succ]
                    refine wpAnyH_ready (rs := [11]) (by kernel_rfl) (by simp) ?_
                    refine AllReadyH.cons (o := { dst := some 114, op := Op.load 23 (Operand.tmp 113), type := 23, pos := "keep.go:143", after := #[{ on := 10, ground := Ground.data }], guard := none }) rfl (fun K hK => ?_) AllReadyH.nil
                    go_simp
                    refine hK.out _ _ ?_ (fun hHeld => ?_)
                    · trivial
                    clear hK K
                    try simp only [Act.put, List.setIfInBounds_toArray, List.set_cons_zero, List.set_cons_succ]
                    refine wpAnyH_ready (rs := [13]) (by kernel_rfl) (by simp) ?_
                    refine AllReadyH.cons (o := { dst := some 116, op := Op.call { callee := Callee.builtin Builtin.append, args := #[Operand.tmp 114, Operand.tmp 115], argTypes := #[23, 23] }, type := 23, pos := "keep.go:143", after := #[{ on := 11, ground := Ground.data }, { on := 12, ground := Ground.data }], guard := none }) rfl (fun K hK => ?_) AllReadyH.nil
                    rw [if_pos (by rfl)]
                    refine wp_append_two _ (.tmp 114) (.tmp 115) 23 rfl 0 3 iI (.int .i64 0) 1 8 Tryz.underlying23 hiI hzI0 hzI1 hzI2 rfl (by decide) (.slice ox nc cx) nc (cellsI (List.replicate nc (mkA c))) rfl hin.out ⟨gm, 0, none⟩ 700 cm L7 rfl hlen7.out hnews.out hone7.out (by decide) (by unfold maxLen; omega) (by omega) (Nat.zero_le _) ?_; intro g5 cap5 w5 hnew5 hold5 hat5; have hnew5' : Hid (w5.ownsRow 0 3 1 (.slice (some ⟨g5, 0, none⟩) (nc + 700) cap5) (nc + 700) (cellsI (List.replicate nc (mkA c) ++ List.replicate 700 (mkB c)))) := (by have h := hnew5; rw [← hL7'.out] at h; unfold cellsI at h ⊢; rw [List.map_append]; exact h); clear hnew5; obtain ⟨tag5, hP5, ht5, hr5, _⟩ := hP2.out.drew.grow hv'.out (fun k ek => hP2.out.live.itag c _ k hv'.out ek) (Rel.refl hin.out) hnew5'.out hat5 (by rw [hnE.out]; omega) (by rw [hnE.out]; exact List.take_left' (List.length_replicate ..)) (fun u hu => ⟨(hP2.out.rel c _ u hv'.out hu).symm, by rw [hnE.out]; omega, by unfold grA; rw [hnE.out]; exact take16 _ _ _⟩) (Nat.le_refl _); have hP5' := hide' hP5; have ht5' := hide' ht5; clear hP5 hold5 hat5 hr5 ht5; have c7b := hP5'.out.box.c7; have c7c := (hP5'.out.alloc (.cells #[.slice (some ⟨g5, 0, none⟩) (nc + 700) cap5] 23)).box.c7; (try dsimp only)
                    refine hK.out _ _ ?_ (fun hHeld => ?_)
                    · trivial
                    clear hK K
                    try simp only [Act.put, List.setIfInBounds_toArray, List.set_cons_zero, List.set_cons_succ]
                    refine wpAnyH_ready (rs := [14]) (by kernel_rfl) (by simp) ?_
                    refine AllReadyH.cons (o := { dst := some 117, op := Op.buildSlice 33 1 #[(0, Operand.tmp 116)], type := 33, pos := "keep.go:143", after := #[{ on := 13, ground := Ground.data }], guard := none }) rfl (fun K hK => ?_) AllReadyH.nil
                    go_simp
                    refine hK.out _ _ ?_ (fun hHeld => ?_)
                    · trivial
                    clear hK K
                    try simp only [Act.put, List.setIfInBounds_toArray, List.set_cons_zero, List.set_cons_succ]
                    refine wpAnyH_ready (rs := [15]) (by kernel_rfl) (by simp) ?_
                    refine AllReadyH.cons (o := { dst := some 118, op := Op.call { callee := Callee.builtin Builtin.append, args := #[Operand.tmp 107, Operand.tmp 117], argTypes := #[33, 33] }, type := 33, pos := "keep.go:143", after := #[{ on := 4, ground := Ground.data }, { on := 14, ground := Ground.data }, { on := 13, ground := Ground.chain }], guard := none }) rfl (fun K hK => ?_) AllReadyH.nil
                    rw [if_pos (by rfl)]
                    refine wp_append_two _ (.tmp 107) (.tmp 117) 33 rfl 0 23 iL (.slice none 0 0) 1 24 Tryz.underlying33 hiL hzL0 hzL1 hzL2 rfl (by decide) om c vs2 rfl (hP5'.out.many.outer.alloc _) ⟨w5.heap.size, 0, none⟩ 1 1 [.slice (some ⟨g5, 0, none⟩) (nc + 700) cap5] rfl rfl (cell_one_new _ _ _) (by simp [Value.oneCell']) (by decide) (by unfold maxLen; omega) (by omega) (Nat.zero_le _) ?_; intro g6 cap6 w6 hnew6 hold6 hat6; have hb6 := hide' ((hP5'.out.alloc _).boxM hat6); have c66 := hb6.out.c7; have f66 := hb6.out.fz 7; (try dsimp only)
                    refine hK.out _ _ ?_ (fun hHeld => ?_)
                    · trivial
                    clear hK K
                    try simp only [Act.put, List.setIfInBounds_toArray, List.set_cons_zero, List.set_cons_succ]
                    refine wpAnyH_take (i := 16) (oi := { dst := some 119, op := Op.nilCheck (Operand.tmp 103), type := 0, pos := "keep.go:143", after := #[{ on := 0, ground := Ground.data }, { on := 0, ground := Ground.phase }, { on := 1, ground := Ground.phase }, { on := 2, ground := Ground.phase }, { on := 3, ground := Ground.phase }, { on := 4, ground := Ground.phase }, { on := 5, ground := Ground.phase }, { on := 6, ground := Ground.phase }, { on := 7, ground := Ground.phase }, { on := 8, ground := Ground.phase }, { on := 9, ground := Ground.phase }, { on := 10, ground := Ground.phase }, { on := 11, ground := Ground.phase }, { on := 12, ground := Ground.phase }, { on := 13, ground := Ground.phase }, { on := 14, ground := Ground.phase }, { on := 15, ground := Ground.phase }], guard := none }) (v := ?_) rfl (by kernel_rfl) (by kernel_rfl) (by kernel_rfl) (fun _ _ _ h => h) (Or.inl ⟨by rfl, ?_⟩) (by assumption) ?_
                    rotate_left
                    · intro w hSw; (try dsimp only at hSw); go_simp <;> with_reducible rfl
                    simp only [Act.put, List.setIfInBounds_toArray, List.set_cons_zero, List.set_cons_succ]
                    refine wpAnyH_take (i := 17) (oi := { dst := some 120, op := Op.fieldAddr 36 (Operand.tmp 119) 7, type := 0, pos := "keep.go:143", after := #[{ on := 16, ground := Ground.data }, { on := 0, ground := Ground.phase }, { on := 1, ground := Ground.phase }, { on := 2, ground := Ground.phase }, { on := 3, ground := Ground.phase }, { on := 4, ground := Ground.phase }, { on := 5, ground := Ground.phase }, { on := 6, ground := Ground.phase }, { on := 7, ground := Ground.phase }, { on := 8, ground := Ground.phase }, { on := 9, ground := Ground.phase }, { on := 10, ground := Ground.phase }, { on := 11, ground := Ground.phase }, { on := 12, ground := Ground.phase }, { on := 13, ground := Ground.phase }, { on := 14, ground := Ground.phase }, { on := 15, ground := Ground.phase }], guard := none }) (v := ?_) rfl (by kernel_rfl) (by kernel_rfl) (by kernel_rfl) (fun _ _ _ h => h) (Or.inl ⟨by rfl, ?_⟩) (by assumption) ?_
                    rotate_left
                    · intro w hSw; (try dsimp only at hSw); go_simp <;> with_reducible rfl
                    simp only [Act.put, List.setIfInBounds_toArray, List.set_cons_zero, List.set_cons_succ]
                    refine wpAnyH_ready (rs := [18]) (by kernel_rfl) (by simp) ?_
                    refine AllReadyH.cons (o := { dst := none, op := Op.store 33 (Operand.tmp 120) (Operand.tmp 118), type := 0, pos := "keep.go:143", after := #[{ on := 17, ground := Ground.data }, { on := 15, ground := Ground.data }, { on := 15, ground := Ground.chain }, { on := 0, ground := Ground.phase }, { on := 1, ground := Ground.phase }, { on := 2, ground := Ground.phase }, { on := 3, ground := Ground.phase }, { on := 4, ground := Ground.phase }, { on := 5, ground := Ground.phase }, { on := 6, ground := Ground.phase }, { on := 7, ground := Ground.phase }, { on := 8, ground := Ground.phase }, { on := 9, ground := Ground.phase }, { on := 10, ground := Ground.phase }, { on := 11, ground := Ground.phase }, { on := 12, ground := Ground.phase }, { on := 13, ground := Ground.phase }, { on := 14, ground := Ground.phase }, { on := 15, ground := Ground.phase }], guard := none }) rfl (fun K hK => ?_) AllReadyH.nil
                    go_simp
                    refine hK.out _ _ ?_ (fun hHeld => ?_)
                    · trivial
                    clear hK K
                    try simp only [Act.put, List.setIfInBounds_toArray, List.set_cons_zero, List.set_cons_succ]
                    refine wpAnyH_done (by kernel_rfl) ?_ _
                    skip
                    go_wp2
                    obtain ⟨tag6, hP6⟩ := (hP5'.out.alloc _).push2 (fun k ek => by cases ek; exact ht5'.out) (by unfold grA; rw [hnE.out]; exact hnew5'.out.alloc _) hnew6 hold6 hat6
                    exact ⟨⟨c + 1, tag6, _, _, by omega, by go_num, hP6⟩, by simp [intOf]; omega⟩
                  refine AllReadyH.cons (o := { dst := some 114, op := Op.load 23 (Operand.tmp 113), type := 23, pos := "keep.go:143", after := #[{ on := 10, ground := Ground.data }], guard := none }) rfl (fun K hK => ?_) AllReadyH.nil
                  go_simp
                  refine hK.out _ _ ?_ (fun hHeld => ?_)
                  · trivial
                  clear hK K
                  try simp only [Act.put, List.setIfInBounds_toArray, List.set_cons_zero, List.set_cons_succ]
                  refine wpAnyH_ready (rs := [4, 13]) (by kernel_rfl) (by simp) ?_
                  refine AllReadyH.cons (o := { dst := some 107, op := Op.load 33 (Operand.tmp 106), type := 33, pos := "keep.go:143", after := #[{ on := 3, ground := Ground.data }], guard := none }) rfl (fun K hK => ?_) ?_
                  · skip
                    go_simp
                    refine hK.out _ _ ?_ (fun hHeld => ?_)
                    · trivial
                    clear hK K
                    try simp only [Act.put, List.setIfInBounds_toArray, List.set_cons_zero, List.set_cons_succ]
                    refine wpAnyH_ready (rs := [13]) (by kernel_rfl) (by simp) ?_
                    refine AllReadyH.cons (o := { dst := some 116, op := Op.call { callee := Callee.builtin Builtin.append, args := #[Operand.tmp 114, Operand.tmp 115], argTypes := #[23, 23] }, type := 23, pos := "keep.go:143", after := #[{ on := 11, ground := Ground.data }, { on := 12, ground := Ground.data }], guard := none }) rfl (fun K hK => ?_) AllReadyH.nil
                    rw [if_pos (by rfl)]
                    refine wp_append_two _ (.tmp 114) (.tmp 115) 23 rfl 0 3 iI (.int .i64 0) 1 8 Tryz.underlying23 hiI hzI0 hzI1 hzI2 rfl (by decide) (.slice ox nc cx) nc (cellsI (List.replicate nc (mkA c))) rfl hin.out ⟨gm, 0, none⟩ 700 cm L7 rfl hlen7.out hnews.out hone7.out (by decide) (by unfold maxLen; omega) (by omega) (Nat.zero_le _) ?_; intro g5 cap5 w5 hnew5 hold5 hat5; have hnew5' : Hid (w5.ownsRow 0 3 1 (.slice (some ⟨g5, 0, none⟩) (nc + 700) cap5) (nc + 700) (cellsI (List.replicate nc (mkA c) ++ List.replicate 700 (mkB c)))) := (by have h := hnew5; rw [← hL7'.out] at h; unfold cellsI at h ⊢; rw [List.map_append]; exact h); clear hnew5; obtain ⟨tag5, hP5, ht5, hr5, _⟩ := hP2.out.drew.grow hv'.out (fun k ek => hP2.out.live.itag c _ k hv'.out ek) (Rel.refl hin.out) hnew5'.out hat5 (by rw [hnE.out]; omega) (by rw [hnE.out]; exact List.take_left' (List.length_replicate ..)) (fun u hu => ⟨(hP2.out.rel c _ u hv'.out hu).symm, by rw [hnE.out]; omega, by unfold grA; rw [hnE.out]; exact take16 _ _ _⟩) (Nat.le_refl _); have hP5' := hide' hP5; have ht5' := hide' ht5; clear hP5 hold5 hat5 hr5 ht5; have c7b := hP5'.out.box.c7; have c7c := (hP5'.out.alloc (.cells #[.slice (some ⟨g5, 0, none⟩) (nc + 700) cap5] 23)).box.c7; (try dsimp only)
                    refine hK.out _ _ ?_ (fun hHeld => ?_)
                    · trivial
                    clear hK K
                    try simp only [Act.put, List.setIfInBounds_toArray, List.set_cons_zero, List.set_cons_succ]
                    refine wpAnyH_ready (rs := [14]) (by kernel_rfl) (by simp) ?_
                    refine AllReadyH.cons (o := { dst := some 117, op := Op.buildSlice 33 1 #[(0, Operand.tmp 116)], type := 33, pos := "keep.go:143", after := #[{ on := 13, ground := Ground.data }], guard := none }) rfl (fun K hK => ?_) AllReadyH.nil
                    go_simp
                    refine hK.out _ _ ?_ (fun hHeld => ?_)
                    · trivial
                    clear hK K
                    try simp only [Act.put, List.setIfInBounds_toArray, List.set_cons_zero, List.set_cons_succ]
                    refine wpAnyH_ready (rs := [15]) (by kernel_rfl) (by simp) ?_
                    refine AllReadyH.cons (o := { dst := some 118, op := Op.call { callee := Callee.builtin Builtin.append, args := #[Operand.tmp 107, Operand.tmp 117], argTypes := #[33, 33] }, type := 33, pos := "keep.go:143", after := #[{ on := 4, ground := Ground.data }, { on := 14, ground := Ground.data }, { on := 13, ground := Ground.chain }], guard := none }) rfl (fun K hK => ?_) AllReadyH.nil
                    rw [if_pos (by rfl)]
                    refine wp_append_two _ (.tmp 107) (.tmp 117) 33 rfl 0 23 iL (.slice none 0 0) 1 24 Tryz.underlying33 hiL hzL0 hzL1 hzL2 rfl (by decide) om c vs2 rfl (hP5'.out.many.outer.alloc _) ⟨w5.heap.size, 0, none⟩ 1 1 [.slice (some ⟨g5, 0, none⟩) (nc + 700) cap5] rfl rfl (cell_one_new _ _ _) (by simp [Value.oneCell']) (by decide) (by unfold maxLen; omega) (by omega) (Nat.zero_le _) ?_; intro g6 cap6 w6 hnew6 hold6 hat6; have hb6 := hide' ((hP5'.out.alloc _).boxM hat6); have c66 := hb6.out.c7; have f66 := hb6.out.fz 7; (try dsimp only)
                    refine hK.out _ _ ?_ (fun hHeld => ?_)
                    · trivial
                    clear hK K
                    try simp only [Act.put, List.setIfInBounds_toArray, List.set_cons_zero, List.set_cons_succ]
                    refine wpAnyH_take (i := 16) (oi := { dst := some 119, op := Op.nilCheck (Operand.tmp 103), type := 0, pos := "keep.go:143", after := #[{ on := 0, ground := Ground.data }, { on := 0, ground := Ground.phase }, { on := 1, ground := Ground.phase }, { on := 2, ground := Ground.phase }, { on := 3, ground := Ground.phase }, { on := 4, ground := Ground.phase }, { on := 5, ground := Ground.phase }, { on := 6, ground := Ground.phase }, { on := 7, ground := Ground.phase }, { on := 8, ground := Ground.phase }, { on := 9, ground := Ground.phase }, { on := 10, ground := Ground.phase }, { on := 11, ground := Ground.phase }, { on := 12, ground := Ground.phase }, { on := 13, ground := Ground.phase }, { on := 14, ground := Ground.phase }, { on := 15, ground := Ground.phase }], guard := none }) (v := ?_) rfl (by kernel_rfl) (by kernel_rfl) (by kernel_rfl) (fun _ _ _ h => h) (Or.inl ⟨by rfl, ?_⟩) (by assumption) ?_
                    rotate_left
                    · intro w hSw; (try dsimp only at hSw); go_simp <;> with_reducible rfl
                    simp only [Act.put, List.setIfInBounds_toArray, List.set_cons_zero, List.set_cons_succ]
                    refine wpAnyH_take (i := 17) (oi := { dst := some 120, op := Op.fieldAddr 36 (Operand.tmp 119) 7, type := 0, pos := "keep.go:143", after := #[{ on := 16, ground := Ground.data }, { on := 0, ground := Ground.phase }, { on := 1, ground := Ground.phase }, { on := 2, ground := Ground.phase }, { on := 3, ground := Ground.phase }, { on := 4, ground := Ground.phase }, { on := 5, ground := Ground.phase }, { on := 6, ground := Ground.phase }, { on := 7, ground := Ground.phase }, { on := 8, ground := Ground.phase }, { on := 9, ground := Ground.phase }, { on := 10, ground := Ground.phase }, { on := 11, ground := Ground.phase }, { on := 12, ground := Ground.phase }, { on := 13, ground := Ground.phase }, { on := 14, ground := Ground.phase }, { on := 15, ground := Ground.phase }], guard := none }) (v := ?_) rfl (by kernel_rfl) (by kernel_rfl) (by kernel_rfl) (fun _ _ _ h => h) (Or.inl ⟨by rfl, ?_⟩) (by assumption) ?_
                    rotate_left
                    · intro w hSw; (try dsimp only at hSw); go_simp <;> with_reducible rfl
                    simp only [Act.put, List.setIfInBounds_toArray, List.set_cons_zero, List.set_cons_succ]
                    refine wpAnyH_ready (rs := [18]) (by kernel_rfl) (by simp) ?_
                    refine AllReadyH.cons (o := { dst := none, op := Op.store 33 (Operand.tmp 120) (Operand.tmp 118), type := 0, pos := "keep.go:143", after := #[{ on := 17, ground := Ground.data }, { on := 15, ground := Ground.data }, { on := 15, ground := Ground.chain }, { on := 0, ground := Ground.phase }, { on := 1, ground := Ground.phase }, { on := 2, ground := Ground.phase }, { on := 3, ground := Ground.phase }, { on := 4, ground := Ground.phase }, { on := 5, ground := Ground.phase }, { on := 6, ground := Ground.phase }, { on := 7, ground := Ground.phase }, { on := 8, ground := Ground.phase }, { on := 9, ground := Ground.phase }, { on := 10, ground := Ground.phase }, { on := 11, ground := Ground.phase }, { on := 12, ground := Ground.phase }, { on := 13, ground := Ground.phase }, { on := 14, ground := Ground.phase }, { on := 15, ground := Ground.phase }], guard := none }) rfl (fun K hK => ?_) AllReadyH.nil
                    go_simp
                    refine hK.out _ _ ?_ (fun hHeld => ?_)
                    · trivial
                    clear hK K
                    try simp only [Act.put, List.setIfInBounds_toArray, List.set_cons_zero, List.set_cons_succ]
                    refine wpAnyH_done (by kernel_rfl) ?_ _
                    skip
                    go_wp2
                    obtain ⟨tag6, hP6⟩ := (hP5'.out.alloc _).push2 (fun k ek => by cases ek; exact ht5'.out) (by unfold grA; rw [hnE.out]; exact hnew5'.out.alloc _) hnew6 hold6 hat6
                    exact ⟨⟨c + 1, tag6, _, _, by omega, by go_num, hP6⟩, by simp [intOf]; omega⟩
                  refine AllReadyH.cons (o := { dst := some 116, op := Op.call { callee := Callee.builtin Builtin.append, args := #[Operand.tmp 114, Operand.tmp 115], argTypes := #[23, 23] }, type := 23, pos := "keep.go:143", after := #[{ on := 11, ground := Ground.data }, { on := 12, ground := Ground.data }], guard := none }) rfl (fun K hK => ?_) AllReadyH.nil
                  rw [if_pos (by rfl)]
                  refine wp_append_two _ (.tmp 114) (.tmp 115) 23 rfl 0 3 iI (.int .i64 0) 1 8 Tryz.underlying23 hiI hzI0 hzI1 hzI2 rfl (by decide) (.slice ox nc cx) nc (cellsI (List.replicate nc (mkA c))) rfl hin.out ⟨gm, 0, none⟩ 700 cm L7 rfl hlen7.out hnews.out hone7.out (by decide) (by unfold maxLen; omega) (by omega) (Nat.zero_le _) ?_; intro g5 cap5 w5 hnew5 hold5 hat5; have hnew5' : Hid (w5.ownsRow 0 3 1 (.slice (some ⟨g5, 0, none⟩) (nc + 700) cap5) (nc + 700) (cellsI (List.replicate nc (mkA c) ++ List.replicate 700 (mkB c)))) := (by have h := hnew5; rw [← hL7'.out] at h; unfold cellsI at h ⊢; rw [List.map_append]; exact h); clear hnew5; obtain ⟨tag5, hP5, ht5, hr5, _⟩ := hP2.out.drew.grow hv'.out (fun k ek => hP2.out.live.itag c _ k hv'.out ek) (Rel.refl hin.out) hnew5'.out hat5 (by rw [hnE.out]; omega) (by rw [hnE.out]; exact List.take_left' (List.length_replicate ..)) (fun u hu => ⟨(hP2.out.rel c _ u hv'.out hu).symm, by rw [hnE.out]; omega, by unfold grA; rw [hnE.out]; exact take16 _ _ _⟩) (Nat.le_refl _); have hP5' := hide' hP5; have ht5' := hide' ht5; clear hP5 hold5 hat5 hr5 ht5; have c7b := hP5'.out.box.c7; have c7c := (hP5'.out.alloc (.cells #[.slice (some ⟨g5, 0, none⟩) (nc + 700) cap5] 23)).box.c7; (try dsimp only)
                  refine hK.out _ _ ?_ (fun hHeld => ?_)
                  · trivial
                  clear hK K
                  try simp only [Act.put, List.setIfInBounds_toArray, List.set_cons_zero, List.set_cons_succ]
                  refine wpAnyH_ready (rs := [4, 14]) (by kernel_rfl) (by simp) ?_
                  refine AllReadyH.cons (o := { dst := some 107, op := Op.load 33 (Operand.tmp 106), type := 33, pos := "keep.go:143", after := #[{ on := 3, ground := Ground.data }], guard := none }) rfl (fun K hK => ?_) ?_
                  · skip
                    go_simp
                    refine hK.out _ _ ?_ (fun hHeld => ?_)
                    · trivial
                    clear hK K
                    try simp only [Act.put, List.setIfInBounds_toArray, List.set_cons_zero, List.set_cons_succ]
                    refine wpAnyH_ready (rs := [14]) (by kernel_rfl) (by simp) ?_
                    refine AllReadyH.cons (o := { dst := some 117, op := Op.buildSlice 33 1 #[(0, Operand.tmp 116)], type := 33, pos := "keep.go:143", after := #[{ on := 13, ground := Ground.data }], guard := none }) rfl (fun K hK => ?_) AllReadyH.nil
                    go_simp
                    refine hK.out _ _ ?_ (fun hHeld => ?_)
                    · trivial
                    clear hK K
                    try simp only [Act.put, List.setIfInBounds_toArray, List.set_cons_zero, List.set_cons_succ]
                    refine wpAnyH_ready (rs := [15]) (by kernel_rfl) (by simp) ?_
                    refine AllReadyH.cons (o := { dst := some 118, op := Op.call { callee := Callee.builtin Builtin.append, args := #[Operand.tmp 107, Operand.tmp 117], argTypes := #[33, 33] }, type := 33, pos := "keep.go:143", after := #[{ on := 4, ground := Ground.data }, { on := 14, ground := Ground.data }, { on := 13, ground := Ground.chain }], guard := none }) rfl (fun K hK => ?_) AllReadyH.nil
                    rw [if_pos (by rfl)]
                    refine wp_append_two _ (.tmp 107) (.tmp 117) 33 rfl 0 23 iL (.slice none 0 0) 1 24 Tryz.underlying33 hiL hzL0 hzL1 hzL2 rfl (by decide) om c vs2 rfl (hP5'.out.many.outer.alloc _) ⟨w5.heap.size, 0, none⟩ 1 1 [.slice (some ⟨g5, 0, none⟩) (nc + 700) cap5] rfl rfl (cell_one_new _ _ _) (by simp [Value.oneCell']) (by decide) (by unfold maxLen; omega) (by omega) (Nat.zero_le _) ?_; intro g6 cap6 w6 hnew6 hold6 hat6; have hb6 := hide' ((hP5'.out.alloc _).boxM hat6); have c66 := hb6.out.c7; have f66 := hb6.out.fz 7; (try dsimp only)
                    refine hK.out _ _ ?_ (fun hHeld => ?_)
                    · trivial
                    clear hK K
                    try simp only [Act.put, List.setIfInBounds_toArray, List.set_cons_zero, List.set_cons_succ]
                    refine wpAnyH_take (i := 16) (oi := { dst := some 119, op := Op.nilCheck (Operand.tmp 103), type := 0, pos := "keep.go:143", after := #[{ on := 0, ground := Ground.data }, { on := 0, ground := Ground.phase }, { on := 1, ground := Ground.phase }, { on := 2, ground := Ground.phase }, { on := 3, ground := Ground.phase }, { on := 4, ground := Ground.phase }, { on := 5, ground := Ground.phase }, { on := 6, ground := Ground.phase }, { on := 7, ground := Ground.phase }, { on := 8, ground := Ground.phase }, { on := 9, ground := Ground.phase }, { on := 10, ground := Ground.phase }, { on := 11, ground := Ground.phase }, { on := 12, ground := Ground.phase }, { on := 13, ground := Ground.phase }, { on := 14, ground := Ground.phase }, { on := 15, ground := Ground.phase }], guard := none }) (v := ?_) rfl (by kernel_rfl) (by kernel_rfl) (by kernel_rfl) (fun _ _ _ h => h) (Or.inl ⟨by rfl, ?_⟩) (by assumption) ?_
                    rotate_left
                    · intro w hSw; (try dsimp only at hSw); go_simp <;> with_reducible rfl
                    simp only [Act.put, List.setIfInBounds_toArray, List.set_cons_zero, List.set_cons_succ]
                    refine wpAnyH_take (i := 17) (oi := { dst := some 120, op := Op.fieldAddr 36 (Operand.tmp 119) 7, type := 0, pos := "keep.go:143", after := #[{ on := 16, ground := Ground.data }, { on := 0, ground := Ground.phase }, { on := 1, ground := Ground.phase }, { on := 2, ground := Ground.phase }, { on := 3, ground := Ground.phase }, { on := 4, ground := Ground.phase }, { on := 5, ground := Ground.phase }, { on := 6, ground := Ground.phase }, { on := 7, ground := Ground.phase }, { on := 8, ground := Ground.phase }, { on := 9, ground := Ground.phase }, { on := 10, ground := Ground.phase }, { on := 11, ground := Ground.phase }, { on := 12, ground := Ground.phase }, { on := 13, ground := Ground.phase }, { on := 14, ground := Ground.phase }, { on := 15, ground := Ground.phase }], guard := none }) (v := ?_) rfl (by kernel_rfl) (by kernel_rfl) (by kernel_rfl) (fun _ _ _ h => h) (Or.inl ⟨by rfl, ?_⟩) (by assumption) ?_
                    rotate_left
                    · intro w hSw; (try dsimp only at hSw); go_simp <;> with_reducible rfl
                    simp only [Act.put, List.setIfInBounds_toArray, List.set_cons_zero, List.set_cons_succ]
                    refine wpAnyH_ready (rs := [18]) (by kernel_rfl) (by simp) ?_
                    refine AllReadyH.cons (o := { dst := none, op := Op.store 33 (Operand.tmp 120) (Operand.tmp 118), type := 0, pos := "keep.go:143", after := #[{ on := 17, ground := Ground.data }, { on := 15, ground := Ground.data }, { on := 15, ground := Ground.chain }, { on := 0, ground := Ground.phase }, { on := 1, ground := Ground.phase }, { on := 2, ground := Ground.phase }, { on := 3, ground := Ground.phase }, { on := 4, ground := Ground.phase }, { on := 5, ground := Ground.phase }, { on := 6, ground := Ground.phase }, { on := 7, ground := Ground.phase }, { on := 8, ground := Ground.phase }, { on := 9, ground := Ground.phase }, { on := 10, ground := Ground.phase }, { on := 11, ground := Ground.phase }, { on := 12, ground := Ground.phase }, { on := 13, ground := Ground.phase }, { on := 14, ground := Ground.phase }, { on := 15, ground := Ground.phase }], guard := none }) rfl (fun K hK => ?_) AllReadyH.nil
                    go_simp
                    refine hK.out _ _ ?_ (fun hHeld => ?_)
                    · trivial
                    clear hK K
                    try simp only [Act.put, List.setIfInBounds_toArray, List.set_cons_zero, List.set_cons_succ]
                    refine wpAnyH_done (by kernel_rfl) ?_ _
                    skip
                    go_wp2
                    obtain ⟨tag6, hP6⟩ := (hP5'.out.alloc _).push2 (fun k ek => by cases ek; exact ht5'.out) (by unfold grA; rw [hnE.out]; exact hnew5'.out.alloc _) hnew6 hold6 hat6
                    exact ⟨⟨c + 1, tag6, _, _, by omega, by go_num, hP6⟩, by simp [intOf]; omega⟩
                  refine AllReadyH.cons (o := { dst := some 117, op := Op.buildSlice 33 1 #[(0, Operand.tmp 116)], type := 33, pos := "keep.go:143", after := #[{ on := 13, ground := Ground.data }], guard := none }) rfl (fun K hK => ?_) AllReadyH.nil
                  go_simp
                  refine hK.out _ _ ?_ (fun hHeld => ?_)
                  · trivial
                  clear hK K
                  try simp only [Act.put, List.setIfInBounds_toArray, List.set_cons_zero, List.set_cons_succ]
                  refine wpAnyH_ready (rs := [4]) (by kernel_rfl) (by simp) ?_
                  refine AllReadyH.cons (o := { dst := some 107, op := Op.load 33 (Operand.tmp 106), type := 33, pos := "keep.go:143", after := #[{ on := 3, ground := Ground.data }], guard := none }) rfl (fun K hK => ?_) AllReadyH.nil
                  go_simp
                  refine hK.out _ _ ?_ (fun hHeld => ?_)
                  · trivial
                  clear hK K
                  try simp only [Act.put, List.setIfInBounds_toArray, List.set_cons_zero, List.set_cons_succ]
                  refine wpAnyH_ready (rs := [15]) (by kernel_rfl) (by simp) ?_
                  refine AllReadyH.cons (o := { dst := some 118, op := Op.call { callee := Callee.builtin Builtin.append, args := #[Operand.tmp 107, Operand.tmp 117], argTypes := #[33, 33] }, type := 33, pos := "keep.go:143", after := #[{ on := 4, ground := Ground.data }, { on := 14, ground := Ground.data }, { on := 13, ground := Ground.chain }], guard := none }) rfl (fun K hK => ?_) AllReadyH.nil
                  rw [if_pos (by rfl)]
                  refine wp_append_two _ (.tmp 107) (.tmp 117) 33 rfl 0 23 iL (.slice none 0 0) 1 24 Tryz.underlying33 hiL hzL0 hzL1 hzL2 rfl (by decide) om c vs2 rfl (hP5'.out.many.outer.alloc _) ⟨w5.heap.size, 0, none⟩ 1 1 [.slice (some ⟨g5, 0, none⟩) (nc + 700) cap5] rfl rfl (cell_one_new _ _ _) (by simp [Value.oneCell']) (by decide) (by unfold maxLen; omega) (by omega) (Nat.zero_le _) ?_; intro g6 cap6 w6 hnew6 hold6 hat6; have hb6 := hide' ((hP5'.out.alloc _).boxM hat6); have c66 := hb6.out.c7; have f66 := hb6.out.fz 7; (try dsimp only)
                  refine hK.out _ _ ?_ (fun hHeld => ?_)
                  · trivial
                  clear hK K
                  try simp only [Act.put, List.setIfInBounds_toArray, List.set_cons_zero, List.set_cons_succ]
                  refine wpAnyH_take (i := 16) (oi := { dst := some 119, op := Op.nilCheck (Operand.tmp 103), type := 0, pos := "keep.go:143", after := #[{ on := 0, ground := Ground.data }, { on := 0, ground := Ground.phase }, { on := 1, ground := Ground.phase }, { on := 2, ground := Ground.phase }, { on := 3, ground := Ground.phase }, { on := 4, ground := Ground.phase }, { on := 5, ground := Ground.phase }, { on := 6, ground := Ground.phase }, { on := 7, ground := Ground.phase }, { on := 8, ground := Ground.phase }, { on := 9, ground := Ground.phase }, { on := 10, ground := Ground.phase }, { on := 11, ground := Ground.phase }, { on := 12, ground := Ground.phase }, { on := 13, ground := Ground.phase }, { on := 14, ground := Ground.phase }, { on := 15, ground := Ground.phase }], guard := none }) (v := ?_) rfl (by kernel_rfl) (by kernel_rfl) (by kernel_rfl) (fun _ _ _ h => h) (Or.inl ⟨by rfl, ?_⟩) (by assumption) ?_
                  rotate_left
                  · intro w hSw; (try dsimp only at hSw); go_simp <;> with_reducible rfl
                  simp only [Act.put, List.setIfInBounds_toArray, List.set_cons_zero, List.set_cons_succ]
                  refine wpAnyH_take (i := 17) (oi := { dst := some 120, op := Op.fieldAddr 36 (Operand.tmp 119) 7, type := 0, pos := "keep.go:143", after := #[{ on := 16, ground := Ground.data }, { on := 0, ground := Ground.phase }, { on := 1, ground := Ground.phase }, { on := 2, ground := Ground.phase }, { on := 3, ground := Ground.phase }, { on := 4, ground := Ground.phase }, { on := 5, ground := Ground.phase }, { on := 6, ground := Ground.phase }, { on := 7, ground := Ground.phase }, { on := 8, ground := Ground.phase }, { on := 9, ground := Ground.phase }, { on := 10, ground := Ground.phase }, { on := 11, ground := Ground.phase }, { on := 12, ground := Ground.phase }, { on := 13, ground := Ground.phase }, { on := 14, ground := Ground.phase }, { on := 15, ground := Ground.phase }], guard := none }) (v := ?_) rfl (by kernel_rfl) (by kernel_rfl) (by kernel_rfl) (fun _ _ _ h => h) (Or.inl ⟨by rfl, ?_⟩) (by assumption) ?_
                  rotate_left
                  · intro w hSw; (try dsimp only at hSw); go_simp <;> with_reducible rfl
                  simp only [Act.put, List.setIfInBounds_toArray, List.set_cons_zero, List.set_cons_succ]
                  refine wpAnyH_ready (rs := [18]) (by kernel_rfl) (by simp) ?_
                  refine AllReadyH.cons (o := { dst := none, op := Op.store 33 (Operand.tmp 120) (Operand.tmp 118), type := 0, pos := "keep.go:143", after := #[{ on := 17, ground := Ground.data }, { on := 15, ground := Ground.data }, { on := 15, ground := Ground.chain }, { on := 0, ground := Ground.phase }, { on := 1, ground := Ground.phase }, { on := 2, ground := Ground.phase }, { on := 3, ground := Ground.phase }, { on := 4, ground := Ground.phase }, { on := 5, ground := Ground.phase }, { on := 6, ground := Ground.phase }, { on := 7, ground := Ground.phase }, { on := 8, ground := Ground.phase }, { on := 9, ground := Ground.phase }, { on := 10, ground := Ground.phase }, { on := 11, ground := Ground.phase }, { on := 12, ground := Ground.phase }, { on := 13, ground := Ground.phase }, { on := 14, ground := Ground.phase }, { on := 15, ground := Ground.phase }], guard := none }) rfl (fun K hK => ?_) AllReadyH.nil
                  go_simp
                  refine hK.out _ _ ?_ (fun hHeld => ?_)
                  · trivial
                  clear hK K
                  try simp only [Act.put, List.setIfInBounds_toArray, List.set_cons_zero, List.set_cons_succ]
                  refine wpAnyH_done (by kernel_rfl) ?_ _
                  skip
                  go_wp2
                  obtain ⟨tag6, hP6⟩ := (hP5'.out.alloc _).push2 (fun k ek => by cases ek; exact ht5'.out) (by unfold grA; rw [hnE.out]; exact hnew5'.out.alloc _) hnew6 hold6 hat6
                  exact ⟨⟨c + 1, tag6, _, _, by omega, by go_num, hP6⟩, by simp [intOf]; omega⟩
            · obtain rfl : m = c := by omega
              have hP' := hide' hP
              have KL1 := hide' (lookInts b wr tagr _ ow o1 om om N m 5 700 cL n vs vs2 hP.box hP.live hP.many hm hn.out (by decide))
              have KL2 := hide' (lookInts b wr tagr _ ow o1 om o1 N m 4 16 cL n vs vs1 hP.box hP.live hP.one hm hn.out (by decide))
              have d7 := hP.box.c7
              have d6 := hP.box.c6
              obtain ⟨y1, y2, rfl⟩ := own_shape hP.one.outer
              obtain ⟨x1, x2, rfl⟩ := own_shape hP.many.outer
              clear hP
              go_wp2_with (first | (go_at_call_of 70 (Value.slice x1 m x2); refine KL1.out.mono ?_; rintro e w8 ⟨rfl, hw8⟩; obtain rfl : wr = w8 := hw8.symm) | (go_at_call_of 70 (Value.slice y1 m y2); refine KL2.out.mono ?_; rintro e w8 ⟨rfl, hw8⟩; obtain rfl : wr = w8 := hw8.symm))
              go_ret
              exact ⟨rfl, ⟨_, _, hP'.out.box⟩, hP'.out.S⟩
end Go.Proofs.YtlijlelejobchaaGreatDoor.K
namespace Go.Proofs.YtlijlelejobchaaGreatDoor.K
open Go.RowKit
theorem Bk.below {w w' : World} {b : Nat} {tag : Nat → Nat} {ov ow : Value} {m : Nat} {vs us : List Value} {rows : Nat → List Int} {N : Nat} (h : Bk w b tag ov ow m vs us rows N) (hB : Below w.heap.size w w') : Bk w' b tag ov ow m vs us rows N := by
  have s : Sm (fun _ => False) tag w w' := Sm.below hB
  exact ⟨h.box.mv s (fun x => x), h.bt, h.live.mv s (fun x => x) (fun _ _ x => x), h.want.mv s (fun x => x) (fun _ _ x => x), fun g hg => h.fresh g (Nat.le_trans hB.size hg), h.hN, h.hrow⟩
set_option maxHeartbeats 1000000 in
theorem lookBytes0 (b : Value) (w : World) : Calls Tryz.prog 69 #[b, .slice none 0 0] w fun e w' => e = .returned (.bool true) ∧ w' = w := by
  go_enter Tryz.func69, Tryz.ntmps69
  go_wp2
  go_loop [5] (fun i => i = .int .i64 0) (fun _ => 0)
  case atStart => rfl
  case round =>
    obtain rfl := hrel
    go_wp2
    go_ret
    exact ⟨rfl, rfl⟩
set_option maxHeartbeats 1000000 in
theorem lookTexts0 (b : Value) (w : World) : Calls Tryz.prog 72 #[b, .slice none 0 0] w fun e w' => e = .returned (.bool true) ∧ w' = w := by
  go_enter Tryz.func72, Tryz.ntmps72
  go_wp2
  go_loop [5] (fun i => i = .int .i64 0) (fun _ => 0)
  case atStart => rfl
  case round =>
    obtain rfl := hrel
    go_wp2
    go_ret
    exact ⟨rfl, rfl⟩
set_option maxRecDepth 100000 in
set_option maxHeartbeats 4000000 in
theorem closeBytes0 (b : Nat) (w : World) (ov ow o1 om : Value) (N : Int) (hb : BoxB w b ov ow o1 om N) : Calls Tryz.prog 42 #[.pointer (some ⟨b, 0, none⟩)] w fun e w' => e = .returned (.bool true) ∧ w' = w := by
  have c0 := hb.c0
  have c2 := hb.c2
  have c3 := hb.c3
  have K := hide' (lookBytes0 (.pointer (some ⟨b, 0, none⟩)) w)
  clear hb
  go_enter Tryz.func42, Tryz.ntmps42
  go_wp2
  go_loop [3] (fun i => i = .int .i64 0) (fun _ => 0)
  case atStart => rfl
  case round =>
    obtain rfl := hrel
    go_wp2
    go_loop [5] (fun i => i = .int .i64 0) (fun _ => 0)
    case atStart => rfl
    case round =>
      obtain rfl := hrel
      go_wp2_with (go_at_call 69; refine K.out.mono ?_; rintro e w7 ⟨rfl, hw7⟩; obtain rfl : w = w7 := hw7.symm)
      go_loop [8] (fun i => i = .int .i64 0) (fun _ => 0)
      case atStart => rfl
      case round =>
        obtain rfl := hrel
        go_wp2_with (go_at_call 69; refine K.out.mono ?_; rintro e w7 ⟨rfl, hw7⟩; obtain rfl : w = w7 := hw7.symm)
        go_ret
        exact ⟨rfl, rfl⟩
set_option maxRecDepth 100000 in
set_option maxHeartbeats 4000000 in
theorem closeTexts0 (b : Nat) (w : World) (ov ow o1 om : Value) (N : Int) (hb : BoxB w b ov ow o1 om N) : Calls Tryz.prog 44 #[.pointer (some ⟨b, 0, none⟩)] w fun e w' => e = .returned (.bool true) ∧ w' = w := by
  have c0 := hb.c8
  have c2 := hb.c10
  have c3 := hb.c11
  have K := hide' (lookTexts0 (.pointer (some ⟨b, 0, none⟩)) w)
  clear hb
  go_enter Tryz.func44, Tryz.ntmps44
  go_wp2
  go_loop [3] (fun i => i = .int .i64 0) (fun _ => 0)
  case atStart => rfl
  case round =>
    obtain rfl := hrel
    go_wp2
    go_loop [5] (fun i => i = .int .i64 0) (fun _ => 0)
    case atStart => rfl
    case round =>
      obtain rfl := hrel
      go_wp2_with (go_at_call 72; refine K.out.mono ?_; rintro e w7 ⟨rfl, hw7⟩; obtain rfl : w = w7 := hw7.symm)
      go_loop [8] (fun i => i = .int .i64 0) (fun _ => 0)
      case atStart => rfl
      case round =>
        obtain rfl := hrel
        go_wp2_with (go_at_call 72; refine K.out.mono ?_; rintro e w7 ⟨rfl, hw7⟩; obtain rfl : w = w7 := hw7.symm)
        go_ret
        exact ⟨rfl, rfl⟩
theorem cell_over {W W' : World} {b o : Nat} {v : Value} (h : W.cell? ⟨b, o, none⟩ = some v) (hb : Below W.heap.size W W') : W'.cell? ⟨b, o, none⟩ = some v := (hb.cell (p := ⟨b, o, none⟩) (cell_lt h)).trans h
theorem keep4 {W0 W w1 : World} {b1 b2 b3 b4 o1 o2 o3 o4 : Nat} {u1 u2 u3 u4 : Value} (h : W.cell? ⟨b1, o1, none⟩ = some u1 ∧ W.cell? ⟨b2, o2, none⟩ = some u2 ∧ W.cell? ⟨b3, o3, none⟩ = some u3 ∧ W.cell? ⟨b4, o4, none⟩ = some u4 ∧ Below W0.heap.size W0 W) (hb : Below W.heap.size W w1) :
    w1.cell? ⟨b1, o1, none⟩ = some u1 ∧ w1.cell? ⟨b2, o2, none⟩ = some u2 ∧ w1.cell? ⟨b3, o3, none⟩ = some u3 ∧ w1.cell? ⟨b4, o4, none⟩ = some u4 ∧ Below W0.heap.size W0 w1 :=
  ⟨cell_over h.1 hb, cell_over h.2.1 hb, cell_over h.2.2.1 hb, cell_over h.2.2.2.1 hb, h.2.2.2.2.trans (hb.mono h.2.2.2.2.size)⟩
set_option maxRecDepth 100000 in
set_option maxHeartbeats 4000000 in
theorem stands (b : Nat) (tag : Nat → Nat) (w : World) (ov ow : Value) (m : Nat) (vs us : List Value) (rows : Nat → List Int) (N : Nat) (hk : Bk w b tag ov ow m vs us rows N) :
    Calls Tryz.prog 41 #[.pointer (some ⟨b, 0, none⟩)] w fun e w' => e = .returned (.bool true) ∧ Below w.heap.size w w' := by
  have hm : m ≤ 1300000 := by have := hk.hN; omega
  have c0 := hk.box.c0
  obtain ⟨oa, cap, rfl⟩ := own_shape hk.live.outer
  obtain ⟨ob, cb, rfl⟩ := own_shape hk.want.outer
  have hk' := hide' hk
  clear hk
  go_enter Tryz.func41, Tryz.ntmps41
  go_wp2
  go_loop [3] (fun i => i = .int .i64 0) (fun _ => 0)
  case atStart => rfl
  case round =>
    obtain rfl := hrel
    go_wp2
    go_loopw [4] (fun i wr => ∃ (c : Nat), c ≤ m ∧ i = .int .i64 c ∧ Below w.heap.size w wr) (fun i _ => ((m : Int) - intOf i).toNat)
    case atStart => exact ⟨0, Nat.zero_le _, rfl, Below.refl _ _⟩
    case round =>
      clear c0
      obtain ⟨c, hc, rfl, hB⟩ := hrel
      have hkr := hk'.out.below hB
      have c4 := hkr.box.c4
      by_cases hlt : c < m
      · have c5 := hkr.box.c5
        obtain ⟨g, cap2, e, _, _⟩ := hkr.live.outer.form (by omega)
        obtain ⟨rfl, rfl⟩ : oa = some ⟨g, 0, none⟩ ∧ cap = cap2 := by injection e with h1 h2 h3; exact ⟨h1, h3⟩
        obtain ⟨g1, cap3, e1, _, _⟩ := hkr.want.outer.form (by omega)
        obtain ⟨rfl, rfl⟩ : ob = some ⟨g1, 0, none⟩ ∧ cb = cap3 := by injection e1 with h1 h2 h3; exact ⟨h1, h3⟩
        obtain ⟨v, hv⟩ : ∃ v, vs[c]? = some v := ⟨_, List.getElem?_eq_getElem (by rw [hkr.live.len]; exact hlt)⟩
        obtain ⟨u, hu⟩ : ∃ u, us[c]? = some u := ⟨_, List.getElem?_eq_getElem (by rw [hkr.want.len]; exact hlt)⟩
        have cv : wr.cell? ⟨g, c, none⟩ = some v := by rw [hkr.live.outer.cellAt c (by omega)]; exact hv
        have cu : wr.cell? ⟨g1, c, none⟩ = some u := by rw [hkr.want.outer.cellAt c (by omega)]; exact hu
        have r1 := RowI.of_owns (hkr.live.inner c v hv)
        have r2 := RowI.of_owns (hkr.want.inner c u hu)
        have hl := hkr.hrow c hlt
        have KI : Hid (∀ W, Below wr.heap.size wr W → Calls Tryz.prog 24 #[v, u] W fun e w' => e = .returned (.bool true) ∧ Below W.heap.size W w') := fun W hW => by
          have := keepInts (rows c) (rows c) v u W (r1.below hW (Nat.le_refl _)) (r2.below hW (Nat.le_refl _)) hl hl
          simpa using this
        have hB' := hide' hB
        have hi0 : Hid (wr.drew.cell? ⟨b, 4, none⟩ = some (.slice (some ⟨g, 0, none⟩) m cap) ∧ wr.drew.cell? ⟨b, 5, none⟩ = some (.slice (some ⟨g1, 0, none⟩) m cb) ∧ wr.drew.cell? ⟨g, c, none⟩ = some v ∧ wr.drew.cell? ⟨g1, c, none⟩ = some u ∧ Below wr.heap.size wr wr.drew) := ⟨c4, c5, cv, cu, (Below.refl _ _).drew⟩
        clear hkr e e1 hv hu r1 r2 hl hB
        go_wp2
        go_region_held3 (fun V => V.cell? ⟨b, 4, none⟩ = some (.slice (some ⟨g, 0, none⟩) m cap) ∧ V.cell? ⟨b, 5, none⟩ = some (.slice (some ⟨g1, 0, none⟩) m cb) ∧ V.cell? ⟨g, c, none⟩ = some v ∧ V.cell? ⟨g1, c, none⟩ = some u ∧ Below wr.heap.size wr V) (first | (exact keep4 (by assumption) hb) | (exact keep4 hi0.out hb) | (exact hi0.out)) (first | (go_at_call 24; refine (KI.out _ (by first | exact ‹_ ∧ _ ∧ _ ∧ _ ∧ _›.2.2.2.2 | exact (Below.refl _ _).drew)).mono ?_; rintro e w7 ⟨rfl, hb⟩))
        go_wp2
        exact ⟨⟨c + 1, by omega, by go_num, hB'.out.trans (‹_ ∧ _ ∧ _ ∧ _ ∧ Below wr.heap.size wr w7›.2.2.2.2.mono hB'.out.size)⟩, by simp [intOf]; omega⟩
      · have c8 := hkr.box.c8
        clear hkr
        go_wp2
        go_loop [5] (fun i => i = .int .i64 0) (fun _ => 0)
        case atStart => rfl
        case round =>
          obtain rfl := hrel
          go_wp2
          go_ret
          exact ⟨rfl, hB⟩
set_option maxRecDepth 100000 in
set_option maxHeartbeats 2000000 in
theorem bookClose (b : Nat) (tag : Nat → Nat) (w : World) (hk : Book w b tag) :
    Calls Tryz.prog 19 #[.pointer (some ⟨b, 0, none⟩)] w fun e w' => e = .returned (.bool true) ∧ Sm (· ≠ 0) tag w w' := by
  obtain ⟨ov, ow, m, vs, us, rows, N, hk⟩ := hk
  have K1 := hide' (stands b tag w ov ow m vs us rows N hk)
  have K2 : Hid (∀ W, Below w.heap.size w W → Calls Tryz.prog 42 #[.pointer (some ⟨b, 0, none⟩)] W fun e w' => e = .returned (.bool true) ∧ w' = W) := fun W hW => closeBytes0 b W _ _ _ _ _ (hk.below hW).box
  have K3 : Hid (∀ W, Below w.heap.size w W → Calls Tryz.prog 43 #[.pointer (some ⟨b, 0, none⟩)] W fun e w' => e = .returned (.bool true) ∧ (∃ o1 om, BoxB w' b ov ow o1 om N) ∧ Sm (· ≠ 0) tag W w') := fun W hW => closeInts b tag W _ _ _ _ _ _ _ (hk.below hW)
  have K4 : Hid (∀ W, (∃ o1 om, BoxB W b ov ow o1 om N) → Calls Tryz.prog 44 #[.pointer (some ⟨b, 0, none⟩)] W fun e w' => e = .returned (.bool true) ∧ w' = W) := fun W ⟨o1, om, hW⟩ => closeTexts0 b W _ _ _ _ _ hW
  clear hk
  go_enter Tryz.func19, Tryz.ntmps19
  go_wp2_with (first | (go_at_call 41; refine K1.out.mono ?_; rintro e w1 ⟨rfl, hb1⟩; have hb1' := hide' hb1; clear hb1) | (go_at_call 42; refine (K2.out _ hb1'.out).mono ?_; rintro e w2 ⟨rfl, hw2⟩; obtain rfl : w1 = w2 := hw2.symm) | (go_at_call 43; refine (K3.out _ hb1'.out).mono ?_; rintro e w3 ⟨rfl, hbx, hs⟩; have hbx' := hide' hbx; have hs' := hide' hs; clear hbx hs) | (go_at_call 44; refine (K4.out _ hbx'.out).mono ?_; rintro e w4 ⟨rfl, hw4⟩; obtain rfl : w3 = w4 := hw4.symm))
  go_ret
  exact ⟨rfl, (Sm.below hb1'.out).trans hs'.out (fun _ _ => rfl)⟩
end Go.Proofs.YtlijlelejobchaaGreatDoor.K
namespace Go.Proofs.YtlijlelejobchaaGreatDoor.KU
open Go.RowKit
open Go.Proofs.YtlijlelejobchaaGreatDoor.K
theorem infoI : (Tryz.prog.info? 55).map (fun i => (i.zero, i.size, i.bytes)) = some (some (.int .u64 0), 1, 8) := by kernel_rfl
theorem infoL : (Tryz.prog.info? 22).map (fun i => (i.zero, i.size, i.bytes)) = some (some (.slice none 0 0), 1, 24) := by kernel_rfl
/-- A row of numbers, wherever it lies. -/
def RowI (w : World) (v : Value) (l : List Int) : Prop := ∃ oa cap, v = .slice oa l.length cap ∧ (l.length ≤ cap ∧ (oa = none → cap = 0)) ∧ ∀ i z, l[i]? = some z → ∃ g o, oa = some ⟨g, o, none⟩ ∧ w.cell? ⟨g, o + i, none⟩ = some (.int .u64 z)
theorem RowI.below {w w' : World} {v : Value} {l : List Int} {n : Nat} (h : RowI w v l) (hb : Below n w w') (hn : w.heap.size ≤ n) : RowI w' v l := by
  obtain ⟨oa, cap, e, e0, h⟩ := h
  refine ⟨oa, cap, e, e0, fun i z hz => ?_⟩
  obtain ⟨g, o, e1, e2⟩ := h i z hz
  exact ⟨g, o, e1, (hb.cell (p := ⟨g, o + i, none⟩) (Nat.lt_of_lt_of_le (cell_lt e2) hn)).trans e2⟩
/-- Ints as a row's cells. -/
def cellsI (l : List Int) : List Value := l.map fun z => Value.int .u64 z
theorem cellsI_len (l : List Int) : (cellsI l).length = l.length := by simp [cellsI]
theorem cellsI_at {l : List Int} {j : Nat} {u : Value} (h : (cellsI l)[j]? = some u) : ∃ z, l[j]? = some z ∧ u = .int .u64 z := by
  unfold cellsI at h
  rw [List.getElem?_map] at h
  cases hz : l[j]? with
  | none => rw [hz] at h; cases h
  | some z => rw [hz] at h; cases h; exact ⟨z, rfl, rfl⟩
theorem one_cells (l : List Int) : ∀ u ∈ cellsI l, u.oneCell' = true := fun u hu => by
  obtain ⟨z, _, rfl⟩ := List.mem_map.1 hu
  rfl
theorem RowI.of_owns {w : World} {n₀ e : Nat} {v : Value} {n : Nat} {l : List Int} (h : w.ownsRow n₀ e 1 v n (cellsI l)) : RowI w v l := by
  have hl : n = l.length := by have := h.1; simp [cellsI] at this; omega
  subst hl
  rcases h.2 with ⟨rfl, h0⟩ | ⟨g, cap, cur, rfl, _, hb, hcap, _, _, hcur⟩
  · refine ⟨none, 0, by rw [h0], ⟨by omega, fun _ => rfl⟩, fun i z hz => ?_⟩
    have := (List.getElem?_eq_some_iff.1 hz).1
    omega
  · refine ⟨_, cap, rfl, ⟨hcap, fun e => by cases e⟩, fun i z hz => ⟨g, 0, rfl, ?_⟩⟩
    obtain ⟨hi, _⟩ := List.getElem?_eq_some_iff.1 hz
    have e1 : cur[i]? = some (Value.int .u64 z) := by
      have : (cur.toList.take (l.length * 1))[i]? = (cellsI l)[i]? := by rw [hcur]
      rw [List.getElem?_take_of_lt (by omega)] at this
      simpa [cellsI, hz] using this
    rw [Nat.zero_add]
    simp [World.cell?, hb, e1]
theorem owns_zero (w : World) (b : Nat) (hb : b ≤ w.heap.size) (e : TypeId) : (w.alloc (.cells #[] e)).ownsRow b e 1 (.slice (some ⟨w.heap.size, 0, none⟩) 0 0) 0 (cellsI []) :=
  ⟨rfl, .inr ⟨_, 0, #[], rfl, hb, heap_new w _, Nat.le_refl _, by unfold maxLen; omega, rfl, rfl⟩⟩
set_option maxRecDepth 100000 in
set_option maxHeartbeats 2000000 in
theorem keepRows (la lb : List Int) (va vb : Value) (w : World) (ha : RowI w va la) (hb : RowI w vb lb) (hn : la.length ≤ 1000000) (hm : lb.length ≤ 1000000) :
    Calls Tryz.prog 40 #[va, vb] w fun e w' => e = .returned (.bool (decide (la = lb))) ∧ Below w.heap.size w w' := by
  obtain ⟨oa, ca, rfl, _, hca⟩ := ha
  obtain ⟨ob, cb, rfl, _, hcb⟩ := hb
  by_cases hl : la.length = lb.length
  · have hca' := hide' hca
    have hcb' := hide' hcb
    clear hca hcb
    go_enter Tryz.func40, Tryz.ntmps40
    go_wp2
    go_loopw [5] (fun k wr => Below w.heap.size w wr ∧ ∃ (c : Nat), c ≤ la.length ∧ k = .int .i64 c ∧ Hid (la.take c = lb.take c)) (fun k _ => ((la.length : Int) - intOf k).toNat)
    case atStart => exact ⟨Below.refl _ _, 0, Nat.zero_le _, rfl, by show _ = _; simp⟩
    case round =>
      obtain ⟨hB, c, hc, rfl, hE⟩ := hrel
      by_cases hlt : c < la.length
      · obtain ⟨x, hx⟩ : ∃ x, la[c]? = some x := ⟨_, List.getElem?_eq_getElem hlt⟩
        obtain ⟨y, hy⟩ : ∃ y, lb[c]? = some y := ⟨_, List.getElem?_eq_getElem (by omega)⟩
        obtain ⟨ga, o1, rfl, c1'⟩ := hca'.out c x hx
        obtain ⟨gb, o2, rfl, c2'⟩ := hcb'.out c y hy
        have c1 := (hB.cell (p := ⟨ga, o1 + c, none⟩) (cell_lt c1')).trans c1'
        have c2 := (hB.cell (p := ⟨gb, o2 + c, none⟩) (cell_lt c2')).trans c2'
        clear c1' c2'
        have hx' := hide' hx
        have hy' := hide' hy
        have hltb : c < lb.length := by omega
        by_cases hxy : x = y
        · subst hxy
          clear hx hy
          go_wp2
          go_region
          go_wp2
          exact ⟨⟨hB.drew, c + 1, by omega, by go_num, by show _ = _; rw [List.take_add_one, List.take_add_one, hE.out, hx'.out, hy'.out]⟩, by simp [intOf]; omega⟩
        · have hd : (x != y) = true := by simpa using hxy
          clear hx hy
          go_wp2
          go_region
          go_wp2
          go_ret
          exact ⟨ret_bool (by rw [eq_comm]; simp only [decide_eq_false_iff_not]; intro e; subst e; rw [hx'.out] at hy'; exact hxy (Option.some.inj hy'.out)), hB.drew⟩
      · obtain rfl : c = la.length := by omega
        have e : Hid (la = lb) := by
          show _ = _
          have := hE.out
          rwa [List.take_length, hl, List.take_length] at this
        clear hE hca' hcb'
        go_wp2
        go_ret
        exact ⟨ret_bool (by simp [e.out]), hB⟩
  · have hd : ((la.length : Int) != (lb.length : Int)) = true := by rw [bne_iff_ne]; omega
    clear hca hcb
    go_enter Tryz.func40, Tryz.ntmps40
    go_wp2
    go_ret
    exact ⟨ret_bool (by rw [eq_comm]; simp only [decide_eq_false_iff_not]; intro e; exact hl (by rw [e])), Below.refl _ _⟩
/-- A row of rows; the outer row's block bears the mark t, the block of row j the mark c j. -/
structure Fam (w : World) (tag : Nat → Nat) (t : Nat) (c : Nat → Nat) (ov : Value) (m : Nat) (vs : List Value) (rows : Nat → List Int) : Prop where
  outer : w.ownsRow 0 22 1 ov m vs
  otag : ∀ g, ov.ownBlock = some g → tag g = t
  inner : ∀ (j : Nat) (v : Value), vs[j]? = some v → w.ownsRow 0 55 1 v (rows j).length (cellsI (rows j))
  itag : ∀ (j : Nat) (v : Value) (g : Nat), vs[j]? = some v → v.ownBlock = some g → tag g = c j
section
variable {tag tag' : Nat → Nat} {w w' : World} {t : Nat} {c : Nat → Nat} {ov : Value} {m : Nat} {vs : List Value} {rows rows' : Nat → List Int} {X : Nat → Prop}
theorem Fam.len (h : Fam w tag t c ov m vs rows) : vs.length = m := by have := h.outer.1; omega
theorem Fam.mv (h : Fam w tag t c ov m vs rows) (hs : Sm X tag w w') (ht : ¬ X t) (hc : ∀ j, j < m → ¬ X (c j)) : Fam w' tag t c ov m vs rows := by
  refine ⟨owns_same h.outer fun g hg e => hs.block g hg (by rw [h.otag g e]; exact ht), h.otag, fun j v hj => owns_same (h.inner j v hj) fun g hg e => hs.block g hg ?_, h.itag⟩
  rw [h.itag j v g hj e]
  exact hc j (by have := (List.getElem?_eq_some_iff.1 hj).1; rw [h.len] at this; exact this)
theorem Fam.re (h : Fam w tag t c ov m vs rows) (ht : ∀ g, g < w.heap.size → tag' g = tag g) : Fam w tag' t c ov m vs rows :=
  ⟨h.outer, fun g e => (ht g (owns_lt h.outer e)).trans (h.otag g e), h.inner, fun j v g hj e => (ht g (owns_lt (h.inner j v hj) e)).trans (h.itag j v g hj e)⟩
/-- One row's block may have been turned: that row is shown anew. -/
theorem Fam.mvRow (h : Fam w tag t c ov m vs rows) {i : Nat} (hs : Sm X tag w w') (ht : ¬ X t) (hc : ∀ j, j < m → j ≠ i → ¬ X (c j)) (hi : ∀ v, vs[i]? = some v → w'.ownsRow 0 55 1 v (rows' i).length (cellsI (rows' i))) (hr : ∀ j, j < m → j ≠ i → rows' j = rows j) : Fam w' tag t c ov m vs rows' := by
  refine ⟨owns_same h.outer fun g hg e => hs.block g hg (by rw [h.otag g e]; exact ht), h.otag, fun j v hj => ?_, h.itag⟩
  have hjm : j < m := by have := (List.getElem?_eq_some_iff.1 hj).1; rw [h.len] at this; exact this
  by_cases e : j = i
  · subst e; exact hi v hj
  · rw [hr j hjm e]
    exact owns_same (h.inner j v hj) fun g hg e2 => hs.block g hg (by rw [h.itag j v g hj e2]; exact hc j hjm e)
theorem Fam.congr (h : Fam w tag t c ov m vs rows) (e : ∀ j, j < m → rows' j = rows j) : Fam w tag t c ov m vs rows' := by
  refine ⟨h.outer, h.otag, fun j v hj => ?_, h.itag⟩
  have hjm : j < m := by have := (List.getElem?_eq_some_iff.1 hj).1; rw [h.len] at this; exact this
  rw [e j hjm]; exact h.inner j v hj
/-- One row more. -/
theorem Fam.push (h : Fam w tag t c ov m vs rows) {ov' v : Value} (ho : w.ownsRow 0 22 1 ov' (m + 1) (vs ++ [v])) (hot : ∀ g, ov'.ownBlock = some g → tag g = t) (hi : w.ownsRow 0 55 1 v (rows m).length (cellsI (rows m))) (hit : ∀ g, v.ownBlock = some g → tag g = c m) : Fam w tag t c ov' (m + 1) (vs ++ [v]) rows := by
  have hl := h.len
  have key : ∀ (j : Nat) (u : Value), (vs ++ [v])[j]? = some u → vs[j]? = some u ∨ (j = m ∧ u = v) := fun j u hj => by
    by_cases e : j < vs.length
    · rw [List.getElem?_append_left e] at hj; exact .inl hj
    · have hlt := (List.getElem?_eq_some_iff.1 hj).1
      rw [List.length_append, List.length_singleton] at hlt
      have : j = vs.length := by omega
      subst this
      rw [List.getElem?_append_right (Nat.le_refl _), Nat.sub_self] at hj
      exact .inr ⟨hl, (Option.some.inj hj).symm⟩
  refine ⟨ho, hot, fun j u hj => ?_, fun j u g hj hg => ?_⟩
  · rcases key j u hj with h1 | ⟨rfl, rfl⟩
    · exact h.inner j u h1
    · exact hi
  · rcases key j u hj with h1 | ⟨rfl, rfl⟩
    · exact h.itag j u g h1 hg
    · exact hit g hg
end
section
variable {tag tag' : Nat → Nat} {w w' : World} {t : Nat} {c : Nat → Nat} {ov : Value} {m : Nat} {vs : List Value} {rows : Nat → List Int}
theorem Fam.out (h : Fam w tag t c ov m vs rows) (hs : Sm (· = t) tag w w') (ho : w'.ownsRow 0 22 1 ov m vs) (hc : ∀ j, j < m → c j ≠ t) : Fam w' tag t c ov m vs rows := by
  refine ⟨ho, h.otag, fun j v hj => owns_same (h.inner j v hj) fun g hg e => hs.block g hg ?_, h.itag⟩
  rw [h.itag j v g hj e]
  exact hc j (by have := (List.getElem?_eq_some_iff.1 hj).1; rw [h.len] at this; exact this)
theorem Fam.tags (h : Fam w tag t c ov m vs rows) (ht : ∀ g, tag g ≠ 0 → tag' g = tag g) (h0 : t ≠ 0) (hc : ∀ j, c j ≠ 0) : Fam w tag' t c ov m vs rows :=
  ⟨h.outer, fun g e => (ht g (by rw [h.otag g e]; exact h0)).trans (h.otag g e), h.inner, fun j v g hj e => (ht g (by rw [h.itag j v g hj e]; exact hc j)).trans (h.itag j v g hj e)⟩
end
/-- append([]int{}, l...): a copy in new memory. -/
theorem wp_copyZ {o : Oper} {a : Act} {K : Act → World → Prop} {Q : Exit → Act → World → Prop} (W : World) (s x : Operand) (H : Nat) (v : Value) (l : List Int)
    (ho : o.op = .call { callee := .builtin .append, args := #[s, x], argTypes := #[22, 22] }) (hs : a.eval s = .slice (some ⟨H, 0, none⟩) 0 0)
    (hH : W.ownsRow H 55 1 (.slice (some ⟨H, 0, none⟩) 0 0) 0 []) (hx : a.eval x = v) (hv : RowI W v l) (hl : l.length ≤ 1000000)
    (h : ∀ u w', w'.ownsRow H 55 1 u l.length (cellsI l) → W.grownBy w' (some H) → K (a.put o.dst u) w') : o.wp Tryz.prog a W K Q := by
  obtain ⟨i0, hi, hz0, hz1, hz2⟩ := info_parts infoI
  obtain ⟨oa, cap, rfl, hcap, hc⟩ := hv
  have hHs : H ≤ W.heap.size := Nat.le_of_lt (hH.lt H rfl).2
  cases oa with
  | none =>
    have hc0 := hcap.2 rfl
    have hl0 : l.length = 0 := by have := hcap.1; omega
    have hn : l = [] := List.eq_nil_of_length_eq_zero hl0
    subst hn
    subst hc0
    have hrun := run_append_owned_none (P := Tryz.prog) (w := W) H 22 o.type 55 i0 1 Tryz.underlying22 hi _ 0 [] hH
    unfold Oper.wp
    simp only [execOp, ho, resolve, invoke, builtin, hs, hx, Sem.run_bind, Sem.run_pure, Result.andThen_ok, List.map_toArray, List.map_cons, List.map_nil, List.length_nil, hrun]
    exact h _ _ hH ⟨rfl, rfl, rfl, Nat.le_refl _, fun _ _ _ => rfl⟩
  | some ad =>
    have hnews : ∀ j u, (cellsI l)[j]? = some u → W.cell? (ad.add j) = some u := fun j u hu => by
      obtain ⟨z, hz, rfl⟩ := cellsI_at hu
      obtain ⟨g, o, e, hcell⟩ := hc j z hz
      cases e
      rw [Addr.add_lit]; exact hcell
    obtain ⟨v', w', hr, h2, h3, _, _⟩ := run_append_own_at (P := Tryz.prog) W H 22 o.type 55 i0 (.int .u64 0) 1 8 Tryz.underlying22 hi hz0 hz1 hz2 rfl (by decide) _ 0 [] hH ad l.length cap (cellsI l) (by simp [cellsI]) hnews (one_cells _) (by unfold maxLen; omega) (by omega) hHs
    unfold Oper.wp
    simp only [execOp, ho, resolve, invoke, builtin, hs, hx, Sem.run_bind, Sem.run_pure, Result.andThen_ok, List.map_toArray, List.map_cons, List.map_nil, hr]
    rw [Nat.zero_add] at h2
    exact h _ _ h2 h3
theorem cell_in {w : World} {b : Nat} {e : TypeId} {g n cap : Nat} {l : List Int} (h : w.ownsRow b e 1 (.slice (some ⟨g, 0, none⟩) n cap) n (cellsI l)) {j : Nat} {z : Int} (hz : l[j]? = some z) : w.cell? ⟨g, j, none⟩ = some (.int .u64 z) := by
  have hl : n = l.length := by have := h.1; rw [cellsI_len] at this; omega
  have hj : j < n * 1 := by have := (List.getElem?_eq_some_iff.1 hz).1; omega
  rw [h.cellAt j hj]
  simp [cellsI, hz]
theorem Fam.store {w : World} {tag : Nat → Nat} {ov : Value} {m : Nat} {vs : List Value} {rows rows' : Nat → List Int} (h : Fam w tag 2 cL ov m vs rows) {i k g nn cap : Nat} {z : Int} (hv : vs[i]? = some (.slice (some ⟨g, 0, none⟩) nn cap)) (hr : rows' i = (rows i).set k z) (hr' : ∀ j, j < m → j ≠ i → rows' j = rows j) :
    Fam (w.setCell ⟨g, k, none⟩ (.int .u64 z)) tag 2 cL ov m vs rows' := by
  have s : Sm (· = cL i) tag w (w.setCell ⟨g, k, none⟩ (.int .u64 z)) := Sm.setCell _ (h.itag i _ g hv rfl)
  refine h.mvRow (i := i) s (by unfold cL; omega) (fun j _ hj => by unfold cL; omega) (fun v hv' => ?_) hr'
  rw [hv] at hv'
  cases hv'
  have hin := h.inner i _ hv
  obtain ⟨oa, cu, e⟩ := own_shape hin
  injection e with _ e2 _
  rw [← e2] at hin
  have h2 := (hin.stored k (.int .u64 z)).1
  rw [hr, List.length_set, ← e2]
  have e3 : cellsI ((rows i).set k z) = (cellsI (rows i)).set k (.int .u64 z) := by unfold cellsI; rw [List.map_set]
  rw [e3]; exact h2
end Go.Proofs.YtlijlelejobchaaGreatDoor.KU
namespace Go.Proofs.YtlijlelejobchaaGreatDoor.KU
open Go.RowKit
open Go.Proofs.YtlijlelejobchaaGreatDoor.K
/-- The loan's own fields. -/
def BoxN (w : World) (p : Nat) (y z ov ow : Value) : Prop := w.heap[p]? = some (.cells #[y, z, ov, ow] 40 (0, 0))
section
variable {w w' : World} {p : Nat} {y z ov ow : Value} {X : Nat → Prop} {tag tag' : Nat → Nat}
theorem BoxN.lt (h : BoxN w p y z ov ow) : p < w.heap.size := (Array.getElem?_eq_some_iff.1 h).1
theorem BoxN.mv (h : BoxN w p y z ov ow) (hs : Sm X tag w w') (hx : ¬ X (tag p)) : BoxN w' p y z ov ow := (hs.block p h.lt hx).trans h
theorem BoxN.below (h : BoxN w p y z ov ow) (hb : Below w.heap.size w w') : BoxN w' p y z ov ow := (hb.block p h.lt).trans h
theorem BoxN.fz (h : BoxN w p y z ov ow) (k : Nat) : w.frozen? ⟨p, k, none⟩ = false := frozen_of_row w p k _ _ h
theorem BoxN.c2 (h : BoxN w p y z ov ow) : w.cell? ⟨p, 2, none⟩ = some ov := by unfold BoxN at h; simp [World.cell?, h]
theorem BoxN.c3 (h : BoxN w p y z ov ow) : w.cell? ⟨p, 3, none⟩ = some ow := by unfold BoxN at h; simp [World.cell?, h]
theorem BoxN.c0 (h : BoxN w p y z ov ow) : w.cell? ⟨p, 0, none⟩ = some y := by unfold BoxN at h; simp [World.cell?, h]
theorem BoxN.c1 (h : BoxN w p y z ov ow) : w.cell? ⟨p, 1, none⟩ = some z := by unfold BoxN at h; simp [World.cell?, h]
theorem BoxN.s2 (h : BoxN w p y z ov ow) (u : Value) : BoxN (w.setCell ⟨p, 2, none⟩ u) p y z u ow := by
  have := heap_setCell_same w p 2 _ _ u h; simpa [BoxN] using this
theorem BoxN.s3 (h : BoxN w p y z ov ow) (u : Value) : BoxN (w.setCell ⟨p, 3, none⟩ u) p y z ov u := by
  have := heap_setCell_same w p 3 _ _ u h; simpa [BoxN] using this
end
/-- What the loan holds: ml lists, mw copies of them. -/
structure LN (w : World) (p : Nat) (y z : Value) (tag : Nat → Nat) (ov ow : Value) (ml mw : Nat) (vs us : List Value) (rows : Nat → List Int) : Prop where
  box : BoxN w p y z ov ow
  bt : tag p = 1
  live : Fam w tag 2 (fun j => 10 + 2 * j) ov ml vs rows
  want : Fam w tag 3 (fun j => 11 + 2 * j) ow mw us rows
  fresh : ∀ g, w.heap.size ≤ g → tag g = 0
  hrow : ∀ j, j < ml → (rows j).length ≤ 1000000
def Loan (w : World) (p : Nat) (y z : Value) (tag : Nat → Nat) (m : Nat) : Prop := ∃ ov ow vs us rows, LN w p y z tag ov ow m m vs us rows
section
variable {w : World} {p : Nat} {tag : Nat → Nat} {y z ov ow : Value} {m : Nat} {vs us : List Value} {rows : Nat → List Int}
theorem LN.below {w' : World} {ml mw : Nat} (h : LN w p y z tag ov ow ml mw vs us rows) (hb : Below w.heap.size w w') : LN w' p y z tag ov ow ml mw vs us rows :=
  ⟨h.box.below hb, h.bt, h.live.mv (Sm.below (X := fun _ => False) hb) (fun h => h) (fun _ _ h => h), h.want.mv (Sm.below (X := fun _ => False) hb) (fun h => h) (fun _ _ h => h), fun g hg => h.fresh g (Nat.le_trans hb.size hg), h.hrow⟩
/-- Kept by whatever leaves its blocks alone. -/
theorem LN.mv {w' : World} {ml mw : Nat} (h : LN w p y z tag ov ow ml mw vs us rows) (hs : Sm (· = 0) tag w w') : LN w' p y z tag ov ow ml mw vs us rows :=
  ⟨h.box.mv hs (by rw [h.bt]; decide), h.bt, h.live.mv hs (by decide) (fun j _ => by omega), h.want.mv hs (by decide) (fun j _ => by omega), fun g hg => h.fresh g (Nat.le_trans hs.size hg), h.hrow⟩
theorem stageL {w4 w5 : World} {u : Value} {l : List Int} {g5 cap5 : Nat} {o5 : Obj} (hk : LN w p y z tag ov ow m m vs us rows) (hB : Below w.heap.size w w4) (hl : l.length ≤ 1000000)
    (hu : w4.ownsRow w.heap.size 55 1 u l.length (cellsI l))
    (hnew : w5.ownsRow 0 22 1 (.slice (some ⟨g5, 0, none⟩) (m + 1) cap5) (m + 1) (vs ++ [u])) (hold : w5.ownsRow 0 22 1 ov m vs)
    (hat : (ov = .slice (some ⟨g5, 0, none⟩) m cap5 ∧ (w4.alloc o5).grownBy w5 (some g5)) ∨ (g5 = (w4.alloc o5).heap.size ∧ (w4.alloc o5).grownBy w5 none)) :
    ∃ tag' rows', rows' m = l ∧ LN (w5.setCell ⟨p, 2, none⟩ (.slice (some ⟨g5, 0, none⟩) (m + 1) cap5)) p y z tag' (.slice (some ⟨g5, 0, none⟩) (m + 1) cap5) ow (m + 1) m (vs ++ [u]) us rows' ∧ FrL tag w tag' (w5.setCell ⟨p, 2, none⟩ (.slice (some ⟨g5, 0, none⟩) (m + 1) cap5)) ∧ (∀ g, u.ownBlock = some g → tag' g = 10 + 2 * m) ∧ (w5.setCell ⟨p, 2, none⟩ (.slice (some ⟨g5, 0, none⟩) (m + 1) cap5)).ownsRow 0 55 1 u l.length (cellsI l) := by
  generalize hW : w4.alloc o5 = W at hat
  have hz : W.heap.size = w4.heap.size + 1 := by rw [← hW]; simp
  have hBs := hB.size
  have S2 : ∀ X, Sm X tag w W := fun X => by rw [← hW]; exact (Sm.below hB).trans (Sm.alloc o5) (fun _ _ => rfl)
  have hul : ∀ g, u.ownBlock = some g → w.heap.size ≤ g ∧ g < w4.heap.size := fun g e => hu.lt g e
  have hg5 : tag g5 = 2 ∨ w4.heap.size < g5 := by
    rcases hat with ⟨e, hg⟩ | ⟨e, hg⟩
    · exact .inl (hk.live.otag g5 (by rw [e]; rfl))
    · exact .inr (by omega)
  have hg5lt : g5 < w5.heap.size := owns_lt hnew rfl
  have huW : W.ownsRow 0 55 1 u l.length (cellsI l) := by rw [← hW]; exact (owns_lowN hu (Nat.zero_le _)).alloc o5
  have S3 : Sm (· = 2) tag W w5 := by
    rcases hat with ⟨e, hg⟩ | ⟨_, hg⟩
    · exact Sm.grown hg fun g eg => by cases eg; exact hk.live.otag g5 (by rw [e]; rfl)
    · exact Sm.grown hg fun g eg => by cases eg
  have hu5 : w5.ownsRow 0 55 1 u l.length (cellsI l) := owns_same huW fun g hg e => S3.block g hg (by show ¬ tag g = 2; rw [hk.fresh g (hul g e).1]; decide)
  have b1 : BoxN W p y z ov ow := hk.box.mv (S2 (fun _ => False)) (fun h => h)
  have b2 := (b1.mv S3 (by rw [hk.bt]; decide)).s2 (.slice (some ⟨g5, 0, none⟩) (m + 1) cap5)
  let tag' : Nat → Nat := fun g => if u.ownBlock = some g then 10 + 2 * m else if g = g5 then 2 else tag g
  have ht : ∀ g, tag g ≠ 0 → tag' g = tag g := fun g h => by
    show (if u.ownBlock = some g then 10 + 2 * m else if g = g5 then 2 else tag g) = tag g
    rw [if_neg (fun e => h (hk.fresh g (hul g e).1))]
    by_cases e : g = g5
    · subst e
      rw [if_pos rfl]
      rcases hg5 with h2 | h2
      · exact h2.symm
      · exact absurd (hk.fresh g (by omega)) h
    · rw [if_neg e]
  have hbt' : tag' p = 1 := (ht p (by rw [hk.bt]; decide)).trans hk.bt
  have hv2t : tag' g5 = 2 := by
    show (if u.ownBlock = some g5 then 10 + 2 * m else if g5 = g5 then 2 else tag g5) = 2
    rw [if_neg (fun e => ?_), if_pos rfl]
    rcases hg5 with h2 | h2
    · rw [hk.fresh g5 (hul g5 e).1] at h2; cases h2
    · have := (hul g5 e).2; omega
  let rows' : Nat → List Int := fun j => if j = m then l else rows j
  have hr' : ∀ j, j < m → rows' j = rows j := fun j hj => if_neg (by omega)
  have hrm : rows' m = l := if_pos rfl
  have L2 : Fam w5 tag' 2 (fun j => 10 + 2 * j) ov m vs rows' :=
    (((hk.live.mv (S2 (fun _ => False)) (fun h => h) (fun _ _ h => h)).out S3 hold (fun j _ => by omega)).tags ht (by decide) (fun j => by omega)).congr hr'
  have L3 := L2.push hnew (fun g e => by cases e; exact hv2t) (by rw [hrm]; exact hu5) (fun g e => if_pos e)
  have U2 : Fam w5 tag' 3 (fun j => 11 + 2 * j) ow m us rows' :=
    (((hk.want.mv (S2 (fun _ => False)) (fun h => h) (fun _ _ h => h)).mv S3 (by decide) (fun j _ => by omega)).tags ht (by decide) (fun j => by omega)).congr hr'
  have S4 : Sm (· = 1) tag' w5 (w5.setCell ⟨p, 2, none⟩ (.slice (some ⟨g5, 0, none⟩) (m + 1) cap5)) := Sm.setCell _ hbt'
  have e00 : ∀ g, g < w.heap.size → tag' g = tag g := fun g hg => by
    show (if u.ownBlock = some g then 10 + 2 * m else if g = g5 then 2 else tag g) = tag g
    rw [if_neg (fun e => by have := (hul g e).1; omega)]
    by_cases e : g = g5
    · subst e
      rw [if_pos rfl]
      rcases hg5 with h2 | h2
      · exact h2.symm
      · omega
    · rw [if_neg e]
  refine ⟨tag', rows', hrm, ⟨b2, hbt', L3.mv S4 (by decide) (fun j _ => by omega), U2.mv S4 (by decide) (fun j _ => by omega), fun g hg => ?_, fun j hj => ?_⟩, ⟨?_, ?_, ?_, ?_, e00, fun g hg h1 h2 h3 => ?_⟩, fun g e => if_pos e, ?_⟩
  · rw [size_setN] at hg
    have h3 := S3.size
    show (if u.ownBlock = some g then 10 + 2 * m else if g = g5 then 2 else tag g) = 0
    rw [if_neg (fun e => by have := (hul g e).2; omega), if_neg (by omega)]
    exact hk.fresh g (by omega)
  · by_cases e : j = m
    · subst e; rw [hrm]; exact hl
    · rw [hr' j (by omega)]; exact hk.hrow j (by omega)
  · rw [S4.os, S3.os, (S2 (fun _ => False)).os]
  · rw [S4.tape, S3.tape, (S2 (fun _ => False)).tape]
  · rw [S4.output, S3.output, (S2 (fun _ => False)).output]
  · have h2 := S3.size; have h3 := S4.size; omega
  · rw [S4.block g (by have := S3.size; omega) (by rw [e00 g hg]; exact h1), S3.block g (by omega) h2, (S2 (fun _ => False)).block g hg (fun h => h)]
  · refine owns_same hu5 fun g hg e => S4.block g hg ?_
    show ¬ tag' g = 1
    have : tag' g = 10 + 2 * m := if_pos e
    omega
theorem stageW {w4 w5 : World} {u : Value} {g5 cap5 : Nat} {o5 : Obj} (hk : LN w p y z tag ov ow (m + 1) m vs us rows) (hB : Below w.heap.size w w4)
    (hu : w4.ownsRow w.heap.size 55 1 u (rows m).length (cellsI (rows m)))
    (hnew : w5.ownsRow 0 22 1 (.slice (some ⟨g5, 0, none⟩) (m + 1) cap5) (m + 1) (us ++ [u])) (hold : w5.ownsRow 0 22 1 ow m us)
    (hat : (ow = .slice (some ⟨g5, 0, none⟩) m cap5 ∧ (w4.alloc o5).grownBy w5 (some g5)) ∨ (g5 = (w4.alloc o5).heap.size ∧ (w4.alloc o5).grownBy w5 none)) :
    ∃ tag', LN (w5.setCell ⟨p, 3, none⟩ (.slice (some ⟨g5, 0, none⟩) (m + 1) cap5)) p y z tag' ov (.slice (some ⟨g5, 0, none⟩) (m + 1) cap5) (m + 1) (m + 1) vs (us ++ [u]) rows ∧ FrL tag w tag' (w5.setCell ⟨p, 3, none⟩ (.slice (some ⟨g5, 0, none⟩) (m + 1) cap5)) := by
  generalize hW : w4.alloc o5 = W at hat
  have hz : W.heap.size = w4.heap.size + 1 := by rw [← hW]; simp
  have hBs := hB.size
  have S2 : ∀ X, Sm X tag w W := fun X => by rw [← hW]; exact (Sm.below hB).trans (Sm.alloc o5) (fun _ _ => rfl)
  have hul : ∀ g, u.ownBlock = some g → w.heap.size ≤ g ∧ g < w4.heap.size := fun g e => hu.lt g e
  have hg5 : tag g5 = 3 ∨ w4.heap.size < g5 := by
    rcases hat with ⟨e, hg⟩ | ⟨e, hg⟩
    · exact .inl (hk.want.otag g5 (by rw [e]; rfl))
    · exact .inr (by omega)
  have hg5lt : g5 < w5.heap.size := owns_lt hnew rfl
  have huW : W.ownsRow 0 55 1 u (rows m).length (cellsI (rows m)) := by rw [← hW]; exact (owns_lowN hu (Nat.zero_le _)).alloc o5
  have S3 : Sm (· = 3) tag W w5 := by
    rcases hat with ⟨e, hg⟩ | ⟨_, hg⟩
    · exact Sm.grown hg fun g eg => by cases eg; exact hk.want.otag g5 (by rw [e]; rfl)
    · exact Sm.grown hg fun g eg => by cases eg
  have hu5 : w5.ownsRow 0 55 1 u (rows m).length (cellsI (rows m)) := owns_same huW fun g hg e => S3.block g hg (by show ¬ tag g = 3; rw [hk.fresh g (hul g e).1]; decide)
  have b1 : BoxN W p y z ov ow := hk.box.mv (S2 (fun _ => False)) (fun h => h)
  have b2 := (b1.mv S3 (by rw [hk.bt]; decide)).s3 (.slice (some ⟨g5, 0, none⟩) (m + 1) cap5)
  let tag' : Nat → Nat := fun g => if u.ownBlock = some g then 11 + 2 * m else if g = g5 then 3 else tag g
  have ht : ∀ g, tag g ≠ 0 → tag' g = tag g := fun g h => by
    show (if u.ownBlock = some g then 11 + 2 * m else if g = g5 then 3 else tag g) = tag g
    rw [if_neg (fun e => h (hk.fresh g (hul g e).1))]
    by_cases e : g = g5
    · subst e
      rw [if_pos rfl]
      rcases hg5 with h2 | h2
      · exact h2.symm
      · exact absurd (hk.fresh g (by omega)) h
    · rw [if_neg e]
  have hbt' : tag' p = 1 := (ht p (by rw [hk.bt]; decide)).trans hk.bt
  have hv2t : tag' g5 = 3 := by
    show (if u.ownBlock = some g5 then 11 + 2 * m else if g5 = g5 then 3 else tag g5) = 3
    rw [if_neg (fun e => ?_), if_pos rfl]
    rcases hg5 with h2 | h2
    · rw [hk.fresh g5 (hul g5 e).1] at h2; cases h2
    · have := (hul g5 e).2; omega
  have U2 : Fam w5 tag' 3 (fun j => 11 + 2 * j) ow m us rows :=
    ((hk.want.mv (S2 (fun _ => False)) (fun h => h) (fun _ _ h => h)).out S3 hold (fun j _ => by omega)).tags ht (by decide) (fun j => by omega)
  have U3 := U2.push hnew (fun g e => by cases e; exact hv2t) hu5 (fun g e => if_pos e)
  have L2 : Fam w5 tag' 2 (fun j => 10 + 2 * j) ov (m + 1) vs rows :=
    ((hk.live.mv (S2 (fun _ => False)) (fun h => h) (fun _ _ h => h)).mv S3 (by decide) (fun j _ => by omega)).tags ht (by decide) (fun j => by omega)
  have S4 : Sm (· = 1) tag' w5 (w5.setCell ⟨p, 3, none⟩ (.slice (some ⟨g5, 0, none⟩) (m + 1) cap5)) := Sm.setCell _ hbt'
  have e00 : ∀ g, g < w.heap.size → tag' g = tag g := fun g hg => by
    show (if u.ownBlock = some g then 11 + 2 * m else if g = g5 then 3 else tag g) = tag g
    rw [if_neg (fun e => by have := (hul g e).1; omega)]
    by_cases e : g = g5
    · subst e
      rw [if_pos rfl]
      rcases hg5 with h2 | h2
      · exact h2.symm
      · omega
    · rw [if_neg e]
  refine ⟨tag', ⟨b2, hbt', L2.mv S4 (by decide) (fun j _ => by omega), U3.mv S4 (by decide) (fun j _ => by omega), fun g hg => ?_, hk.hrow⟩, ⟨?_, ?_, ?_, ?_, e00, fun g hg h1 h2 h3 => ?_⟩⟩
  · rw [size_setN] at hg
    have h3 := S3.size
    show (if u.ownBlock = some g then 11 + 2 * m else if g = g5 then 3 else tag g) = 0
    rw [if_neg (fun e => by have := (hul g e).2; omega), if_neg (by omega)]
    exact hk.fresh g (by omega)
  · rw [S4.os, S3.os, (S2 (fun _ => False)).os]
  · rw [S4.tape, S3.tape, (S2 (fun _ => False)).tape]
  · rw [S4.output, S3.output, (S2 (fun _ => False)).output]
  · have h2 := S3.size; have h3 := S4.size; omega
  · rw [S4.block g (by have := S3.size; omega) (by rw [e00 g hg]; exact h1), S3.block g (by omega) h3, (S2 (fun _ => False)).block g hg (fun h => h)]
end
end Go.Proofs.YtlijlelejobchaaGreatDoor.KU
namespace Go.Proofs.YtlijlelejobchaaGreatDoor.K
open Go.RowKit
set_option maxRecDepth 100000 in
set_option maxHeartbeats 4000000 in
theorem bookInts (b : Nat) (tag : Nat → Nat) (v : Value) (l : List Int) (w : World) (hB : Book w b tag) (hv : w.ownsRow 0 3 1 v l.length (cellsI l)) (hl : l.length ≤ 1000000) (hvt : ∀ g, v.ownBlock = some g → tag g = 0) :
    Calls Tryz.prog 11 #[.pointer (some ⟨b, 0, none⟩), v] w fun e w' => e = .returned (.tuple #[]) ∧ ∃ tag', Book w' b tag' ∧ Fr tag v w tag' w' := by
  obtain ⟨iI, hiI, hzI0, hzI1, hzI2⟩ := info_parts infoI
  obtain ⟨iL, hiL, hzL0, hzL1, hzL2⟩ := info_parts infoL
  obtain ⟨ov, ow, m, vs, us, rows, N, hbx, hbt, hlive, hwant, hfresh, ⟨hN1, hN2⟩, hrow⟩ := hB
  have hlt := hbx.lt
  have c12 := hbx.c12
  have f12 := hbx.fz 12
  have KF := hide' (bookFull b N w c12)
  have hv' := hide' hv
  have hvt' := hide' hvt
  have hlive' := hide' hlive
  have hwant' := hide' hwant
  have hbx' := hide' hbx
  have h1v := hide' (own_one hv)
  obtain ⟨oa, cap, rfl⟩ := own_shape hv
  clear hv hlive hwant hbx
  by_cases hfull : 200000 < N
  · have hd : decide (200000 < N) = true := by simpa using hfull
    rw [hd] at KF
    go_enter Tryz.func11, Tryz.ntmps11
    go_wp2_with (go_at_call 26; refine KF.out.mono ?_; rintro e w1 ⟨rfl, rfl⟩)
    first | go_end0 | refine bodyPost_ret (results_none rfl _ _ _) rfl ?_
    exact ⟨rfl, tag, ⟨_, _, _, _, _, _, _, hbx'.out, hbt, hlive'.out, hwant'.out, hfresh, ⟨hN1, hN2⟩, hrow⟩, ⟨rfl, rfl, rfl, Nat.le_refl _, fun _ _ h _ => h, fun _ _ _ _ => rfl⟩⟩
  · have hd : decide (200000 < N) = false := by simpa using hfull
    rw [hd] at KF
    have hbk : Hid (Bk w b tag ov ow m vs us rows N) := ⟨hbx'.out, hbt, hlive'.out, hwant'.out, hfresh, ⟨hN1, hN2⟩, hrow⟩
    have hb1 := hide' (hbx'.out.s12 (N + l.length + 1))
    have S1 : Hid (Sm (· = 1) tag w (w.setCell ⟨b, 12, none⟩ (.int .i64 (N + l.length + 1)))) := Sm.setCell _ hbt
    have c4 := hb1.out.c4
    have hO1 := hide' ((hlive'.out.mv S1.out (by decide) (fun j _ => by omega)).outer.alloc (.cells #[.slice oa l.length cap] 23))
    have hnb := hide' (World.news_of_block (cs := #[.slice oa l.length cap]) (B := w.heap.size) (by have := heap_new (w.setCell ⟨b, 12, none⟩ (.int .i64 (N + l.length + 1))) (.cells #[.slice oa l.length cap] 23); rwa [size_set] at this))
    clear hbx' hlive' hwant' S1 hfresh hrow hd hvt
    go_enter Tryz.func11, Tryz.ntmps11
    go_wp2_with (first | (go_at_call 26; refine KF.out.mono ?_; rintro e w1 ⟨rfl, hw1⟩; obtain rfl : w = w1 := hw1.symm) | (at_builtin; go_loud (refine wpList_append_two _ rfl _ _ 33 rfl 0 23 iL (.slice none 0 0) 1 24 Tryz.underlying33 hiL hzL0 hzL1 hzL2 rfl (by decide) ov m vs rfl hO1.out ⟨w.heap.size, 0, none⟩ 1 1 [.slice oa l.length cap] rfl rfl hnb.out (by simpa using h1v.out) (by decide) (by unfold maxLen; omega) (by omega) (Nat.zero_le _) ?_); intro g2 cap2 w2 hnew2 hold2 hat2; have hb2 := hide' (boxA hbk.out hat2); have c42 := hb2.out.c4; have f42 := hb2.out.fz 4))
    obtain ⟨tag2, rows2, hrm, hHB, hFr, hv3⟩ := stageA hbk.out (by omega) hv'.out hl hvt'.out hnew2 hold2 hat2
    generalize w2.setCell ⟨b, 4, none⟩ (.slice (some ⟨g2, 0, none⟩) (m + 1) cap2) = W3 at *
    have hHB' := hide' hHB
    have hFr' := hide' hFr
    have hv3' := hide' hv3
    have hrm' := hide' hrm
    have c5 := hHB.box.c5
    have hbs := hHB.box.lt
    have hm1 := hHB.hN
    clear hHB hFr hv3 hrm hbk hb1 c4 hO1 hnb hb2 c42 f42 hnew2 hold2 hat2 hv' KF c12 f12 hlt
    have cV := hide' (fun V (h : Below W3.heap.size W3 V) => (boxW hHB'.out h).c5)
    have B0 : Hid (Below W3.heap.size W3 W3.drew) := (Below.refl _ _).drew
    have B1 : Hid (Below W3.heap.size W3 (W3.drew.alloc (.cells #[] 3))) := B0.out.alloc (Nat.le_refl _) _
    have c5a := cV.out _ B0.out
    have c5b := cV.out _ B1.out
    have hZ := hide' (owns_zero W3.drew W3.heap.size (Nat.le_refl _) 3)
    have hR := hide' ((RowI.of_owns hv3'.out).below B1.out (Nat.le_refl _))
    refine wp_region_held_drew (S := (fun _ => True)) (by kernel_rfl) ?_ (fun hHeld => ?_)
    · trivial
    refine wpAnyH_take (i := 0) (oi := { dst := some 27, op := Op.move (Operand.tmp 0), type := 31, pos := "keep.go:39", after := #[], guard := none }) (v := ?_) rfl (by kernel_rfl) (by kernel_rfl) (by kernel_rfl) (fun _ _ _ h => h) (Or.inl ⟨by rfl, ?_⟩) (by assumption) ?_
    rotate_left
    · intro w hSw; (try dsimp only at hSw); go_simp <;> with_reducible rfl
    simp only [Act.put, List.setIfInBounds_toArray, List.set_cons_zero, List.set_cons_succ]
    refine wpAnyH_take (i := 1) (oi := { dst := some 28, op := Op.move (Operand.tmp 0), type := 31, pos := "keep.go:39", after := #[], guard := none }) (v := ?_) rfl (by kernel_rfl) (by kernel_rfl) (by kernel_rfl) (fun _ _ _ h => h) (Or.inl ⟨by rfl, ?_⟩) (by assumption) ?_
    rotate_left
    · intro w hSw; (try dsimp only at hSw); go_simp <;> with_reducible rfl
    simp only [Act.put, List.setIfInBounds_toArray, List.set_cons_zero, List.set_cons_succ]
    refine wpAnyH_take (i := 2) (oi := { dst := some 29, op := Op.nilCheck (Operand.tmp 28), type := 0, pos := "keep.go:39", after := #[{ on := 1, ground := Ground.data }], guard := none }) (v := ?_) rfl (by kernel_rfl) (by kernel_rfl) (by kernel_rfl) (fun _ _ _ h => h) (Or.inl ⟨by rfl, ?_⟩) (by assumption) ?_
    rotate_left
    · intro w hSw; (try dsimp only at hSw); go_simp <;> with_reducible rfl
    simp only [Act.put, List.setIfInBounds_toArray, List.set_cons_zero, List.set_cons_succ]
    refine wpAnyH_take (i := 3) (oi := { dst := some 30, op := Op.fieldAddr 36 (Operand.tmp 29) 5, type := 0, pos := "keep.go:39", after := #[{ on := 2, ground := Ground.data }], guard := none }) (v := ?_) rfl (by kernel_rfl) (by kernel_rfl) (by kernel_rfl) (fun _ _ _ h => h) (Or.inl ⟨by rfl, ?_⟩) (by assumption) ?_
    rotate_left
    · intro w hSw; (try dsimp only at hSw); go_simp <;> with_reducible rfl
    simp only [Act.put, List.setIfInBounds_toArray, List.set_cons_zero, List.set_cons_succ]
    refine wpAnyH_take (i := 6) (oi := { dst := some 33, op := Op.move (Operand.tmp 1), type := 23, pos := "keep.go:39", after := #[], guard := none }) (v := ?_) rfl (by kernel_rfl) (by kernel_rfl) (by kernel_rfl) (fun _ _ _ h => h) (Or.inl ⟨by rfl, ?_⟩) (by assumption) ?_
    rotate_left
    · intro w hSw; (try dsimp only at hSw); go_simp <;> with_reducible rfl
    simp only [Act.put, List.setIfInBounds_toArray, List.set_cons_zero, List.set_cons_succ]
    refine wpAnyH_ready (rs := [4, 5]) (by kernel_rfl) (by simp) ?_
    refine AllReadyH.cons (o := { dst := some 31, op := Op.load 33 (Operand.tmp 30), type := 33, pos := "keep.go:39", after := #[{ on := 3, ground := Ground.data }], guard := none }) rfl (fun K hK => ?_) ?_
    · skip
      go_simp
      refine hK.out _ _ ?_ (fun hHeld => ?_)
      · trivial
      clear hK K
      try simp only [Act.put, List.setIfInBounds_toArray, List.set_cons_zero, List.set_cons_succ]
      refine wpAnyH_ready (rs := [5]) (by kernel_rfl) (by simp) ?_
      refine AllReadyH.cons (o := { dst := some 32, op := Op.buildSlice 23 0 #[], type := 23, pos := "keep.go:39", after := #[], guard := none }) rfl (fun K hK => ?_) AllReadyH.nil
      go_simp
      refine hK.out _ _ ?_ (fun hHeld => ?_)
      · trivial
      clear hK K
      try simp only [Act.put, List.setIfInBounds_toArray, List.set_cons_zero, List.set_cons_succ]
      refine wpAnyH_ready (rs := [7]) (by kernel_rfl) (by simp) ?_
      refine AllReadyH.cons (o := { dst := some 34, op := Op.call { callee := Callee.builtin Builtin.append, args := #[Operand.tmp 32, Operand.tmp 33], argTypes := #[23, 23] }, type := 23, pos := "keep.go:39", after := #[{ on := 5, ground := Ground.data }, { on := 6, ground := Ground.data }], guard := none }) rfl (fun K hK => ?_) AllReadyH.nil
      rw [if_pos (by rfl)]
      refine wp_copyZ _ (.tmp 32) (.tmp 33) W3.heap.size (.slice oa l.length cap) l rfl rfl hZ.out rfl hR.out hl ?_; intro u w4 hu4 hg4; obtain ⟨ou, cu, rfl⟩ := own_shape hu4; have hB4 := hide' (B1.out.grown hg4 (by simp) (fun j ej => by cases ej; exact Nat.le_refl _)); have c5c := cV.out _ hB4.out; have B5 : Hid (Below W3.heap.size W3 (w4.alloc (.cells #[.slice ou l.length cu] 23))) := hB4.out.alloc hB4.out.size _; have c5d := cV.out _ B5.out; have h1u := hide' (own_one hu4); have hu4' := hide' hu4; have hO5 := hide' (outW hHB'.out B5.out); clear hu4 hg4; (try dsimp only)
      refine hK.out _ _ ?_ (fun hHeld => ?_)
      · trivial
      clear hK K
      try simp only [Act.put, List.setIfInBounds_toArray, List.set_cons_zero, List.set_cons_succ]
      refine wpAnyH_ready (rs := [8]) (by kernel_rfl) (by simp) ?_
      refine AllReadyH.cons (o := { dst := some 35, op := Op.buildSlice 33 1 #[(0, Operand.tmp 34)], type := 33, pos := "keep.go:39", after := #[{ on := 7, ground := Ground.data }], guard := none }) rfl (fun K hK => ?_) AllReadyH.nil
      go_simp
      refine hK.out _ _ ?_ (fun hHeld => ?_)
      · trivial
      clear hK K
      try simp only [Act.put, List.setIfInBounds_toArray, List.set_cons_zero, List.set_cons_succ]
      refine wpAnyH_ready (rs := [9]) (by kernel_rfl) (by simp) ?_
      refine AllReadyH.cons (o := { dst := some 36, op := Op.call { callee := Callee.builtin Builtin.append, args := #[Operand.tmp 31, Operand.tmp 35], argTypes := #[33, 33] }, type := 33, pos := "keep.go:39", after := #[{ on := 4, ground := Ground.data }, { on := 8, ground := Ground.data }, { on := 7, ground := Ground.chain }], guard := none }) rfl (fun K hK => ?_) AllReadyH.nil
      rw [if_pos (by rfl)]
      refine wp_append_two _ (.tmp 31) (.tmp 35) 33 rfl 0 23 iL (.slice none 0 0) 1 24 Tryz.underlying33 hiL hzL0 hzL1 hzL2 rfl (by decide) ow m us rfl hO5.out ⟨w4.heap.size, 0, none⟩ 1 1 [.slice ou l.length cu] rfl rfl (cell_one_new _ _ _) (by simpa using h1u.out) (by decide) (by unfold maxLen; omega) (by omega) (Nat.zero_le _) ?_; intro g5 cap5 w5 hnew5 hold5 hat5; have hb5 := hide' (boxE hHB'.out hB4.out hat5); have c5f := hb5.out.c5; have f5f := hb5.out.fz 5; (try dsimp only)
      refine hK.out _ _ ?_ (fun hHeld => ?_)
      · trivial
      clear hK K
      try simp only [Act.put, List.setIfInBounds_toArray, List.set_cons_zero, List.set_cons_succ]
      refine wpAnyH_take (i := 10) (oi := { dst := some 37, op := Op.nilCheck (Operand.tmp 27), type := 0, pos := "keep.go:39", after := #[{ on := 0, ground := Ground.data }, { on := 0, ground := Ground.phase }, { on := 1, ground := Ground.phase }, { on := 2, ground := Ground.phase }, { on := 3, ground := Ground.phase }, { on := 4, ground := Ground.phase }, { on := 5, ground := Ground.phase }, { on := 6, ground := Ground.phase }, { on := 7, ground := Ground.phase }, { on := 8, ground := Ground.phase }, { on := 9, ground := Ground.phase }], guard := none }) (v := ?_) rfl (by kernel_rfl) (by kernel_rfl) (by kernel_rfl) (fun _ _ _ h => h) (Or.inl ⟨by rfl, ?_⟩) (by assumption) ?_
      rotate_left
      · intro w hSw; (try dsimp only at hSw); go_simp <;> with_reducible rfl
      simp only [Act.put, List.setIfInBounds_toArray, List.set_cons_zero, List.set_cons_succ]
      refine wpAnyH_take (i := 11) (oi := { dst := some 38, op := Op.fieldAddr 36 (Operand.tmp 37) 5, type := 0, pos := "keep.go:39", after := #[{ on := 10, ground := Ground.data }, { on := 0, ground := Ground.phase }, { on := 1, ground := Ground.phase }, { on := 2, ground := Ground.phase }, { on := 3, ground := Ground.phase }, { on := 4, ground := Ground.phase }, { on := 5, ground := Ground.phase }, { on := 6, ground := Ground.phase }, { on := 7, ground := Ground.phase }, { on := 8, ground := Ground.phase }, { on := 9, ground := Ground.phase }], guard := none }) (v := ?_) rfl (by kernel_rfl) (by kernel_rfl) (by kernel_rfl) (fun _ _ _ h => h) (Or.inl ⟨by rfl, ?_⟩) (by assumption) ?_
      rotate_left
      · intro w hSw; (try dsimp only at hSw); go_simp <;> with_reducible rfl
      simp only [Act.put, List.setIfInBounds_toArray, List.set_cons_zero, List.set_cons_succ]
      refine wpAnyH_ready (rs := [12]) (by kernel_rfl) (by simp) ?_
      refine AllReadyH.cons (o := { dst := none, op := Op.store 33 (Operand.tmp 38) (Operand.tmp 36), type := 0, pos := "keep.go:39", after := #[{ on := 11, ground := Ground.data }, { on := 9, ground := Ground.data }, { on := 9, ground := Ground.chain }, { on := 0, ground := Ground.phase }, { on := 1, ground := Ground.phase }, { on := 2, ground := Ground.phase }, { on := 3, ground := Ground.phase }, { on := 4, ground := Ground.phase }, { on := 5, ground := Ground.phase }, { on := 6, ground := Ground.phase }, { on := 7, ground := Ground.phase }, { on := 8, ground := Ground.phase }, { on := 9, ground := Ground.phase }], guard := none }) rfl (fun K hK => ?_) AllReadyH.nil
      go_simp
      refine hK.out _ _ ?_ (fun hHeld => ?_)
      · trivial
      clear hK K
      try simp only [Act.put, List.setIfInBounds_toArray, List.set_cons_zero, List.set_cons_succ]
      refine wpAnyH_done (by kernel_rfl) ?_ _
      skip
      go_wp2
      first | go_end0 | refine bodyPost_ret (results_none rfl _ _ _) rfl ?_
      obtain ⟨tag3, hBk3, hFr3⟩ := stageB hHB'.out hB4.out (by rw [hrm'.out]; exact hu4'.out) hnew5 hold5 hat5
      exact ⟨rfl, tag3, hBk3, hFr'.out.trans hFr3⟩
    refine AllReadyH.cons (o := { dst := some 32, op := Op.buildSlice 23 0 #[], type := 23, pos := "keep.go:39", after := #[], guard := none }) rfl (fun K hK => ?_) AllReadyH.nil
    go_simp
    refine hK.out _ _ ?_ (fun hHeld => ?_)
    · trivial
    clear hK K
    try simp only [Act.put, List.setIfInBounds_toArray, List.set_cons_zero, List.set_cons_succ]
    refine wpAnyH_ready (rs := [4, 7]) (by kernel_rfl) (by simp) ?_
    refine AllReadyH.cons (o := { dst := some 31, op := Op.load 33 (Operand.tmp 30), type := 33, pos := "keep.go:39", after := #[{ on := 3, ground := Ground.data }], guard := none }) rfl (fun K hK => ?_) ?_
    · skip
      go_simp
      refine hK.out _ _ ?_ (fun hHeld => ?_)
      · trivial
      clear hK K
      try simp only [Act.put, List.setIfInBounds_toArray, List.set_cons_zero, List.set_cons_succ]
      refine wpAnyH_ready (rs := [7]) (by kernel_rfl) (by simp) ?_
      refine AllReadyH.cons (o := { dst := some 34, op := Op.call { callee := Callee.builtin Builtin.append, args := #[Operand.tmp 32, Operand.tmp 33], argTypes := #[23, 23] }, type := 23, pos := "keep.go:39", after := #[{ on := 5, ground := Ground.data }, { on := 6, ground := Ground.data }], guard := none }) rfl (fun K hK => ?_) AllReadyH.nil
      rw [if_pos (by rfl)]
      refine wp_copyZ _ (.tmp 32) (.tmp 33) W3.heap.size (.slice oa l.length cap) l rfl rfl hZ.out rfl hR.out hl ?_; intro u w4 hu4 hg4; obtain ⟨ou, cu, rfl⟩ := own_shape hu4; have hB4 := hide' (B1.out.grown hg4 (by simp) (fun j ej => by cases ej; exact Nat.le_refl _)); have c5c := cV.out _ hB4.out; have B5 : Hid (Below W3.heap.size W3 (w4.alloc (.cells #[.slice ou l.length cu] 23))) := hB4.out.alloc hB4.out.size _; have c5d := cV.out _ B5.out; have h1u := hide' (own_one hu4); have hu4' := hide' hu4; have hO5 := hide' (outW hHB'.out B5.out); clear hu4 hg4; (try dsimp only)
      refine hK.out _ _ ?_ (fun hHeld => ?_)
      · trivial
      clear hK K
      try simp only [Act.put, List.setIfInBounds_toArray, List.set_cons_zero, List.set_cons_succ]
      refine wpAnyH_ready (rs := [8]) (by kernel_rfl) (by simp) ?_
      refine AllReadyH.cons (o := { dst := some 35, op := Op.buildSlice 33 1 #[(0, Operand.tmp 34)], type := 33, pos := "keep.go:39", after := #[{ on := 7, ground := Ground.data }], guard := none }) rfl (fun K hK => ?_) AllReadyH.nil
      go_simp
      refine hK.out _ _ ?_ (fun hHeld => ?_)
      · trivial
      clear hK K
      try simp only [Act.put, List.setIfInBounds_toArray, List.set_cons_zero, List.set_cons_succ]
      refine wpAnyH_ready (rs := [9]) (by kernel_rfl) (by simp) ?_
      refine AllReadyH.cons (o := { dst := some 36, op := Op.call { callee := Callee.builtin Builtin.append, args := #[Operand.tmp 31, Operand.tmp 35], argTypes := #[33, 33] }, type := 33, pos := "keep.go:39", after := #[{ on := 4, ground := Ground.data }, { on := 8, ground := Ground.data }, { on := 7, ground := Ground.chain }], guard := none }) rfl (fun K hK => ?_) AllReadyH.nil
      rw [if_pos (by rfl)]
      refine wp_append_two _ (.tmp 31) (.tmp 35) 33 rfl 0 23 iL (.slice none 0 0) 1 24 Tryz.underlying33 hiL hzL0 hzL1 hzL2 rfl (by decide) ow m us rfl hO5.out ⟨w4.heap.size, 0, none⟩ 1 1 [.slice ou l.length cu] rfl rfl (cell_one_new _ _ _) (by simpa using h1u.out) (by decide) (by unfold maxLen; omega) (by omega) (Nat.zero_le _) ?_; intro g5 cap5 w5 hnew5 hold5 hat5; have hb5 := hide' (boxE hHB'.out hB4.out hat5); have c5f := hb5.out.c5; have f5f := hb5.out.fz 5; (try dsimp only)
      refine hK.out _ _ ?_ (fun hHeld => ?_)
      · trivial
      clear hK K
      try simp only [Act.put, List.setIfInBounds_toArray, List.set_cons_zero, List.set_cons_succ]
      refine wpAnyH_take (i := 10) (oi := { dst := some 37, op := Op.nilCheck (Operand.tmp 27), type := 0, pos := "keep.go:39", after := #[{ on := 0, ground := Ground.data }, { on := 0, ground := Ground.phase }, { on := 1, ground := Ground.phase }, { on := 2, ground := Ground.phase }, { on := 3, ground := Ground.phase }, { on := 4, ground := Ground.phase }, { on := 5, ground := Ground.phase }, { on := 6, ground := Ground.phase }, { on := 7, ground := Ground.phase }, { on := 8, ground := Ground.phase }, { on := 9, ground := Ground.phase }], guard := none }) (v := ?_) rfl (by kernel_rfl) (by kernel_rfl) (by kernel_rfl) (fun _ _ _ h => h) (Or.inl ⟨by rfl, ?_⟩) (by assumption) ?_
      rotate_left
      · intro w hSw; (try dsimp only at hSw); go_simp <;> with_reducible rfl
      simp only [Act.put, List.setIfInBounds_toArray, List.set_cons_zero, List.set_cons_succ]
      refine wpAnyH_take (i := 11) (oi := { dst := some 38, op := Op.fieldAddr 36 (Operand.tmp 37) 5, type := 0, pos := "keep.go:39", after := #[{ on := 10, ground := Ground.data }, { on := 0, ground := Ground.phase }, { on := 1, ground := Ground.phase }, { on := 2, ground := Ground.phase }, { on := 3, ground := Ground.phase }, { on := 4, ground := Ground.phase }, { on := 5, ground := Ground.phase }, { on := 6, ground := Ground.phase }, { on := 7, ground := Ground.phase }, { on := 8, ground := Ground.phase }, { on := 9, ground := Ground.phase }], guard := none }) (v := ?_) rfl (by kernel_rfl) (by kernel_rfl) (by kernel_rfl) (fun _ _ _ h => h) (Or.inl ⟨by rfl, ?_⟩) (by assumption) ?_
      rotate_left
      · intro w hSw; (try dsimp only at hSw); go_simp <;> with_reducible rfl
      simp only [Act.put, List.setIfInBounds_toArray, List.set_cons_zero, List.set_cons_succ]
      refine wpAnyH_ready (rs := [12]) (by kernel_rfl) (by simp) ?_
      refine AllReadyH.cons (o := { dst := none, op := Op.store 33 (Operand.tmp 38) (Operand.tmp 36), type := 0, pos := "keep.go:39", after := #[{ on := 11, ground := Ground.data }, { on := 9, ground := Ground.data }, { on := 9, ground := Ground.chain }, { on := 0, ground := Ground.phase }, { on := 1, ground := Ground.phase }, { on := 2, ground := Ground.phase }, { on := 3, ground := Ground.phase }, { on := 4, ground := Ground.phase }, { on := 5, ground := Ground.phase }, { on := 6, ground := Ground.phase }, { on := 7, ground := Ground.phase }, { on := 8, ground := Ground.phase }, { on := 9, ground := Ground.phase }], guard := none }) rfl (fun K hK => ?_) AllReadyH.nil
      go_simp
      refine hK.out _ _ ?_ (fun hHeld => ?_)
      · trivial
      clear hK K
      try simp only [Act.put, List.setIfInBounds_toArray, List.set_cons_zero, List.set_cons_succ]
      refine wpAnyH_done (by kernel_rfl) ?_ _
      skip
      go_wp2
      first | go_end0 | refine bodyPost_ret (results_none rfl _ _ _) rfl ?_
      obtain ⟨tag3, hBk3, hFr3⟩ := stageB hHB'.out hB4.out (by rw [hrm'.out]; exact hu4'.out) hnew5 hold5 hat5
      exact ⟨rfl, tag3, hBk3, hFr'.out.trans hFr3⟩
    refine AllReadyH.cons (o := { dst := some 34, op := Op.call { callee := Callee.builtin Builtin.append, args := #[Operand.tmp 32, Operand.tmp 33], argTypes := #[23, 23] }, type := 23, pos := "keep.go:39", after := #[{ on := 5, ground := Ground.data }, { on := 6, ground := Ground.data }], guard := none }) rfl (fun K hK => ?_) AllReadyH.nil
    rw [if_pos (by rfl)]
    refine wp_copyZ _ (.tmp 32) (.tmp 33) W3.heap.size (.slice oa l.length cap) l rfl rfl hZ.out rfl hR.out hl ?_; intro u w4 hu4 hg4; obtain ⟨ou, cu, rfl⟩ := own_shape hu4; have hB4 := hide' (B1.out.grown hg4 (by simp) (fun j ej => by cases ej; exact Nat.le_refl _)); have c5c := cV.out _ hB4.out; have B5 : Hid (Below W3.heap.size W3 (w4.alloc (.cells #[.slice ou l.length cu] 23))) := hB4.out.alloc hB4.out.size _; have c5d := cV.out _ B5.out; have h1u := hide' (own_one hu4); have hu4' := hide' hu4; have hO5 := hide' (outW hHB'.out B5.out); clear hu4 hg4; (try dsimp only)
    refine hK.out _ _ ?_ (fun hHeld => ?_)
    · trivial
    clear hK K
    try simp only [Act.put, List.setIfInBounds_toArray, List.set_cons_zero, List.set_cons_succ]
    refine wpAnyH_ready (rs := [4, 8]) (by kernel_rfl) (by simp) ?_
    refine AllReadyH.cons (o := { dst := some 31, op := Op.load 33 (Operand.tmp 30), type := 33, pos := "keep.go:39", after := #[{ on := 3, ground := Ground.data }], guard := none }) rfl (fun K hK => ?_) ?_
    · skip
      go_simp
      refine hK.out _ _ ?_ (fun hHeld => ?_)
      · trivial
      clear hK K
      try simp only [Act.put, List.setIfInBounds_toArray, List.set_cons_zero, List.set_cons_succ]
      refine wpAnyH_ready (rs := [8]) (by kernel_rfl) (by simp) ?_
      refine AllReadyH.cons (o := { dst := some 35, op := Op.buildSlice 33 1 #[(0, Operand.tmp 34)], type := 33, pos := "keep.go:39", after := #[{ on := 7, ground := Ground.data }], guard := none }) rfl (fun K hK => ?_) AllReadyH.nil
      go_simp
      refine hK.out _ _ ?_ (fun hHeld => ?_)
      · trivial
      clear hK K
      try simp only [Act.put, List.setIfInBounds_toArray, List.set_cons_zero, List.set_cons_succ]
      refine wpAnyH_ready (rs := [9]) (by kernel_rfl) (by simp) ?_
      refine AllReadyH.cons (o := { dst := some 36, op := Op.call { callee := Callee.builtin Builtin.append, args := #[Operand.tmp 31, Operand.tmp 35], argTypes := #[33, 33] }, type := 33, pos := "keep.go:39", after := #[{ on := 4, ground := Ground.data }, { on := 8, ground := Ground.data }, { on := 7, ground := Ground.chain }], guard := none }) rfl (fun K hK => ?_) AllReadyH.nil
      rw [if_pos (by rfl)]
      refine wp_append_two _ (.tmp 31) (.tmp 35) 33 rfl 0 23 iL (.slice none 0 0) 1 24 Tryz.underlying33 hiL hzL0 hzL1 hzL2 rfl (by decide) ow m us rfl hO5.out ⟨w4.heap.size, 0, none⟩ 1 1 [.slice ou l.length cu] rfl rfl (cell_one_new _ _ _) (by simpa using h1u.out) (by decide) (by unfold maxLen; omega) (by omega) (Nat.zero_le _) ?_; intro g5 cap5 w5 hnew5 hold5 hat5; have hb5 := hide' (boxE hHB'.out hB4.out hat5); have c5f := hb5.out.c5; have f5f := hb5.out.fz 5; (try dsimp only)
      refine hK.out _ _ ?_ (fun hHeld => ?_)
      · trivial
      clear hK K
      try simp only [Act.put, List.setIfInBounds_toArray, List.set_cons_zero, List.set_cons_succ]
      refine wpAnyH_take (i := 10) (oi := { dst := some 37, op := Op.nilCheck (Operand.tmp 27), type := 0, pos := "keep.go:39", after := #[{ on := 0, ground := Ground.data }, { on := 0, ground := Ground.phase }, { on := 1, ground := Ground.phase }, { on := 2, ground := Ground.phase }, { on := 3, ground := Ground.phase }, { on := 4, ground := Ground.phase }, { on := 5, ground := Ground.phase }, { on := 6, ground := Ground.phase }, { on := 7, ground := Ground.phase }, { on := 8, ground := Ground.phase }, { on := 9, ground := Ground.phase }], guard := none }) (v := ?_) rfl (by kernel_rfl) (by kernel_rfl) (by kernel_rfl) (fun _ _ _ h => h) (Or.inl ⟨by rfl, ?_⟩) (by assumption) ?_
      rotate_left
      · intro w hSw; (try dsimp only at hSw); go_simp <;> with_reducible rfl
      simp only [Act.put, List.setIfInBounds_toArray, List.set_cons_zero, List.set_cons_succ]
      refine wpAnyH_take (i := 11) (oi := { dst := some 38, op := Op.fieldAddr 36 (Operand.tmp 37) 5, type := 0, pos := "keep.go:39", after := #[{ on := 10, ground := Ground.data }, { on := 0, ground := Ground.phase }, { on := 1, ground := Ground.phase }, { on := 2, ground := Ground.phase }, { on := 3, ground := Ground.phase }, { on := 4, ground := Ground.phase }, { on := 5, ground := Ground.phase }, { on := 6, ground := Ground.phase }, { on := 7, ground := Ground.phase }, { on := 8, ground := Ground.phase }, { on := 9, ground := Ground.phase }], guard := none }) (v := ?_) rfl (by kernel_rfl) (by kernel_rfl) (by kernel_rfl) (fun _ _ _ h => h) (Or.inl ⟨by rfl, ?_⟩) (by assumption) ?_
      rotate_left
      · intro w hSw; (try dsimp only at hSw); go_simp <;> with_reducible rfl
      simp only [Act.put, List.setIfInBounds_toArray, List.set_cons_zero, List.set_cons_succ]
      refine wpAnyH_ready (rs := [12]) (by kernel_rfl) (by simp) ?_
      refine AllReadyH.cons (o := { dst := none, op := Op.store 33 (Operand.tmp 38) (Operand.tmp 36), type := 0, pos := "keep.go:39", after := #[{ on := 11, ground := Ground.data }, { on := 9, ground := Ground.data }, { on := 9, ground := Ground.chain }, { on := 0, ground := Ground.phase }, { on := 1, ground := Ground.phase }, { on := 2, ground := Ground.phase }, { on := 3, ground := Ground.phase }, { on := 4, ground := Ground.phase }, { on := 5, ground := Ground.phase }, { on := 6, ground := Ground.phase }, { on := 7, ground := Ground.phase }, { on := 8, ground := Ground.phase }, { on := 9, ground := Ground.phase }], guard := none }) rfl (fun K hK => ?_) AllReadyH.nil
      go_simp
      refine hK.out _ _ ?_ (fun hHeld => ?_)
      · trivial
      clear hK K
      try simp only [Act.put, List.setIfInBounds_toArray, List.set_cons_zero, List.set_cons_succ]
      refine wpAnyH_done (by kernel_rfl) ?_ _
      skip
      go_wp2
      first | go_end0 | refine bodyPost_ret (results_none rfl _ _ _) rfl ?_
      obtain ⟨tag3, hBk3, hFr3⟩ := stageB hHB'.out hB4.out (by rw [hrm'.out]; exact hu4'.out) hnew5 hold5 hat5
      exact ⟨rfl, tag3, hBk3, hFr'.out.trans hFr3⟩
    refine AllReadyH.cons (o := { dst := some 35, op := Op.buildSlice 33 1 #[(0, Operand.tmp 34)], type := 33, pos := "keep.go:39", after := #[{ on := 7, ground := Ground.data }], guard := none }) rfl (fun K hK => ?_) AllReadyH.nil
    go_simp
    refine hK.out _ _ ?_ (fun hHeld => ?_)
    · trivial
    clear hK K
    try simp only [Act.put, List.setIfInBounds_toArray, List.set_cons_zero, List.set_cons_succ]
    refine wpAnyH_ready (rs := [4]) (by kernel_rfl) (by simp) ?_
    refine AllReadyH.cons (o := { dst := some 31, op := Op.load 33 (Operand.tmp 30), type := 33, pos := "keep.go:39", after := #[{ on := 3, ground := Ground.data }], guard := none }) rfl (fun K hK => ?_) AllReadyH.nil
    go_simp
    refine hK.out _ _ ?_ (fun hHeld => ?_)
    · trivial
    clear hK K
    try simp only [Act.put, List.setIfInBounds_toArray, List.set_cons_zero, List.set_cons_succ]
    refine wpAnyH_ready (rs := [9]) (by kernel_rfl) (by simp) ?_
    refine AllReadyH.cons (o := { dst := some 36, op := Op.call { callee := Callee.builtin Builtin.append, args := #[Operand.tmp 31, Operand.tmp 35], argTypes := #[33, 33] }, type := 33, pos := "keep.go:39", after := #[{ on := 4, ground := Ground.data }, { on := 8, ground := Ground.data }, { on := 7, ground := Ground.chain }], guard := none }) rfl (fun K hK => ?_) AllReadyH.nil
    rw [if_pos (by rfl)]
    refine wp_append_two _ (.tmp 31) (.tmp 35) 33 rfl 0 23 iL (.slice none 0 0) 1 24 Tryz.underlying33 hiL hzL0 hzL1 hzL2 rfl (by decide) ow m us rfl hO5.out ⟨w4.heap.size, 0, none⟩ 1 1 [.slice ou l.length cu] rfl rfl (cell_one_new _ _ _) (by simpa using h1u.out) (by decide) (by unfold maxLen; omega) (by omega) (Nat.zero_le _) ?_; intro g5 cap5 w5 hnew5 hold5 hat5; have hb5 := hide' (boxE hHB'.out hB4.out hat5); have c5f := hb5.out.c5; have f5f := hb5.out.fz 5; (try dsimp only)
    refine hK.out _ _ ?_ (fun hHeld => ?_)
    · trivial
    clear hK K
    try simp only [Act.put, List.setIfInBounds_toArray, List.set_cons_zero, List.set_cons_succ]
    refine wpAnyH_take (i := 10) (oi := { dst := some 37, op := Op.nilCheck (Operand.tmp 27), type := 0, pos := "keep.go:39", after := #[{ on := 0, ground := Ground.data }, { on := 0, ground := Ground.phase }, { on := 1, ground := Ground.phase }, { on := 2, ground := Ground.phase }, { on := 3, ground := Ground.phase }, { on := 4, ground := Ground.phase }, { on := 5, ground := Ground.phase }, { on := 6, ground := Ground.phase }, { on := 7, ground := Ground.phase }, { on := 8, ground := Ground.phase }, { on := 9, ground := Ground.phase }], guard := none }) (v := ?_) rfl (by kernel_rfl) (by kernel_rfl) (by kernel_rfl) (fun _ _ _ h => h) (Or.inl ⟨by rfl, ?_⟩) (by assumption) ?_
    rotate_left
    · intro w hSw; (try dsimp only at hSw); go_simp <;> with_reducible rfl
    simp only [Act.put, List.setIfInBounds_toArray, List.set_cons_zero, List.set_cons_succ]
    refine wpAnyH_take (i := 11) (oi := { dst := some 38, op := Op.fieldAddr 36 (Operand.tmp 37) 5, type := 0, pos := "keep.go:39", after := #[{ on := 10, ground := Ground.data }, { on := 0, ground := Ground.phase }, { on := 1, ground := Ground.phase }, { on := 2, ground := Ground.phase }, { on := 3, ground := Ground.phase }, { on := 4, ground := Ground.phase }, { on := 5, ground := Ground.phase }, { on := 6, ground := Ground.phase }, { on := 7, ground := Ground.phase }, { on := 8, ground := Ground.phase }, { on := 9, ground := Ground.phase }], guard := none }) (v := ?_) rfl (by kernel_rfl) (by kernel_rfl) (by kernel_rfl) (fun _ _ _ h => h) (Or.inl ⟨by rfl, ?_⟩) (by assumption) ?_
    rotate_left
    · intro w hSw; (try dsimp only at hSw); go_simp <;> with_reducible rfl
    simp only [Act.put, List.setIfInBounds_toArray, List.set_cons_zero, List.set_cons_succ]
    refine wpAnyH_ready (rs := [12]) (by kernel_rfl) (by simp) ?_
    refine AllReadyH.cons (o := { dst := none, op := Op.store 33 (Operand.tmp 38) (Operand.tmp 36), type := 0, pos := "keep.go:39", after := #[{ on := 11, ground := Ground.data }, { on := 9, ground := Ground.data }, { on := 9, ground := Ground.chain }, { on := 0, ground := Ground.phase }, { on := 1, ground := Ground.phase }, { on := 2, ground := Ground.phase }, { on := 3, ground := Ground.phase }, { on := 4, ground := Ground.phase }, { on := 5, ground := Ground.phase }, { on := 6, ground := Ground.phase }, { on := 7, ground := Ground.phase }, { on := 8, ground := Ground.phase }, { on := 9, ground := Ground.phase }], guard := none }) rfl (fun K hK => ?_) AllReadyH.nil
    go_simp
    refine hK.out _ _ ?_ (fun hHeld => ?_)
    · trivial
    clear hK K
    try simp only [Act.put, List.setIfInBounds_toArray, List.set_cons_zero, List.set_cons_succ]
    refine wpAnyH_done (by kernel_rfl) ?_ _
    skip
    go_wp2
    first | go_end0 | refine bodyPost_ret (results_none rfl _ _ _) rfl ?_
    obtain ⟨tag3, hBk3, hFr3⟩ := stageB hHB'.out hB4.out (by rw [hrm'.out]; exact hu4'.out) hnew5 hold5 hat5
    exact ⟨rfl, tag3, hBk3, hFr'.out.trans hFr3⟩
end Go.Proofs.YtlijlelejobchaaGreatDoor.K
namespace Go.Proofs.YtlijlelejobchaaGreatDoor.K
open Go.RowKit
theorem famNil (w : World) (tag : Nat → Nat) (t : Nat) (c : Nat → Nat) (rows : Nat → List Int) : Fam w tag t c (.slice none 0 0) 0 [] rows :=
  ⟨World.ownsRow_nil _ _ _ _, fun g e => by simp [Value.ownBlock] at e, fun j v hj => by simp at hj, fun j v g hj => by simp at hj⟩
theorem Book.below {w w' : World} {b : Nat} {tag : Nat → Nat} (h : Book w b tag) (hB : Below w.heap.size w w') : Book w' b tag := by
  obtain ⟨ov, ow, m, vs, us, rows, N, hk⟩ := h
  exact ⟨ov, ow, m, vs, us, rows, N, hk.below hB⟩
theorem Book.lt {w : World} {b : Nat} {tag : Nat → Nat} (h : Book w b tag) : b < w.heap.size := by
  obtain ⟨ov, ow, m, vs, us, rows, N, hk⟩ := h
  exact hk.box.lt
theorem Book.fresh {w : World} {b : Nat} {tag : Nat → Nat} (h : Book w b tag) : ∀ g, w.heap.size ≤ g → tag g = 0 := by
  obtain ⟨ov, ow, m, vs, us, rows, N, hk⟩ := h
  exact hk.fresh
theorem Book.start (w : World) : Book (w.alloc (.cells #[.slice none 0 0, .slice none 0 0, .slice none 0 0, .slice none 0 0, .slice none 0 0, .slice none 0 0, .slice none 0 0, .slice none 0 0, .slice none 0 0, .slice none 0 0, .slice none 0 0, .slice none 0 0, .int .i64 0] 36)) w.heap.size (fun g => if g = w.heap.size then 1 else 0) :=
  ⟨_, _, 0, [], [], fun _ => [], 0, ⟨heap_new w _, if_pos rfl, famNil _ _ _ _ _, famNil _ _ _ _ _, fun g hg => if_neg (by simp at hg; omega), ⟨Nat.le_refl _, by decide⟩, fun j hj => by omega⟩⟩
/-- A book, and what was there when it was made. -/
def BookO (W0 : World) (b : Nat) (W : World) : Prop := Below b W0 W ∧ ∃ tag, Book W b tag ∧ ∀ g, g < b → tag g = 0
theorem BookO.below {W0 W W' : World} {b : Nat} (h : BookO W0 b W) (hB : Below W.heap.size W W') : BookO W0 b W' := by
  obtain ⟨h1, tag, h2, h3⟩ := h
  exact ⟨h1.trans (hB.mono (Nat.le_of_lt h2.lt)), tag, h2.below hB, h3⟩
theorem BookO.start (w : World) : BookO (w.alloc (.cells #[.slice none 0 0, .slice none 0 0, .slice none 0 0, .slice none 0 0, .slice none 0 0, .slice none 0 0, .slice none 0 0, .slice none 0 0, .slice none 0 0, .slice none 0 0, .slice none 0 0, .slice none 0 0, .int .i64 0] 36)) w.heap.size (w.alloc (.cells #[.slice none 0 0, .slice none 0 0, .slice none 0 0, .slice none 0 0, .slice none 0 0, .slice none 0 0, .slice none 0 0, .slice none 0 0, .slice none 0 0, .slice none 0 0, .slice none 0 0, .slice none 0 0, .int .i64 0] 36)) :=
  ⟨Below.refl _ _, _, Book.start w, fun g hg => if_neg (by omega)⟩
/-- A row that a call has just made is taken in. -/
theorem ownInts {W0 W W2 : World} {b n : Nat} {v : Value} {l : List Int} (h : BookO W0 b W) (h2 : Below W.heap.size W W2) (hv : W2.ownsRow W.heap.size 3 1 v n (cellsI l)) (hl : l.length ≤ 1000000) :
    Calls Tryz.prog 11 #[.pointer (some ⟨b, 0, none⟩), v] W2 fun e w' => e = .returned (.tuple #[]) ∧ BookO W0 b w' := by
  obtain ⟨h1, tag, hk, h0⟩ := h
  have hn : n = l.length := by have := hv.1; rw [cellsI_len] at this; omega
  subst hn
  have hlt := hk.lt
  refine (bookInts b tag v l W2 (hk.below h2) (owns_low hv (Nat.zero_le _)) hl (fun g hg => hk.fresh g (hv.lt g hg).1)).mono ?_
  rintro e w' ⟨rfl, tag', hk', hf⟩
  have hne : ∀ g, g < b → v.ownBlock ≠ some g := fun g hg e => by have := (hv.lt g e).1; omega
  have hs := h2.size
  refine ⟨rfl, (h1.trans (h2.mono (by omega))).trans ⟨hf.os, hf.tape, hf.output, hf.size, fun k hk => hf.block k (by omega) (h0 k hk) (hne k hk)⟩, tag', hk', fun g hg => hf.tg g (by omega) (h0 g hg) (hne g hg)⟩
theorem ownClose {W0 W : World} {b : Nat} (h : BookO W0 b W) :
    Calls Tryz.prog 19 #[.pointer (some ⟨b, 0, none⟩)] W fun e w' => e = .returned (.bool true) ∧ Below b W0 w' := by
  obtain ⟨h1, tag, hk, h0⟩ := h
  have hlt := hk.lt
  refine (bookClose b tag W hk).mono ?_
  rintro e w' ⟨rfl, hs⟩
  exact ⟨rfl, h1.trans ⟨hs.os, hs.tape, hs.output, hs.size, fun k hk => hs.block k (by omega) (fun h => h (h0 k hk))⟩⟩
end Go.Proofs.YtlijlelejobchaaGreatDoor.K
namespace Go.Proofs.YtlijlelejobchaaGreatDoor.K
open Go.RowKit
theorem stageB_fr {w w4 w5 : World} {b : Nat} {tag : Nat → Nat} {ov ow : Value} {m : Nat} {vs us : List Value} {rows : Nat → List Int} {N g5 cap5 : Nat} {o5 : Obj} (hk : HB w b tag ov ow m vs us rows N) (hB : Below w.heap.size w w4)
    (hat : (ow = .slice (some ⟨g5, 0, none⟩) m cap5 ∧ (w4.alloc o5).grownBy w5 (some g5)) ∨ (g5 = (w4.alloc o5).heap.size ∧ (w4.alloc o5).grownBy w5 none)) (x : Value) : ∀ g, g < w.heap.size → tag g ≠ 1 → tag g ≠ 3 → (w5.setCell ⟨b, 5, none⟩ x).heap[g]? = w.heap[g]? := fun g hg h1 h3 => by
  have hbg : g ≠ b := fun e => h1 (by rw [e]; exact hk.bt)
  have hA : Below w.heap.size w (w4.alloc o5) := hB.alloc hB.size _
  rw [Below.heap_setCell _ _ _ _ hbg]
  rcases hat with ⟨e, hg5⟩ | ⟨_, hg5⟩
  · exact (hg5.block g (by have := hA.size; omega) fun q => h3 (by cases q; exact hk.want.otag g5 (by rw [e]; rfl))).trans (hA.block g hg)
  · exact (hg5.block g (by have := hA.size; omega) fun q => by cases q).trans (hA.block g hg)
set_option maxRecDepth 100000 in
set_option maxHeartbeats 4000000 in
theorem bookInts2 (b : Nat) (tag : Nat → Nat) (v : Value) (l : List Int) (w : World) (hB : Book w b tag) (hv : w.ownsRow 0 3 1 v l.length (cellsI l)) (hl : l.length ≤ 1000000) (hvt : ∀ g, v.ownBlock = some g → tag g = 0) :
    Calls Tryz.prog 11 #[.pointer (some ⟨b, 0, none⟩), v] w fun e w' => e = .returned (.tuple #[]) ∧ ∃ tag', Book w' b tag' ∧ Fr tag v w tag' w' ∧ w'.ownsRow 0 3 1 v l.length (cellsI l) := by
  obtain ⟨iI, hiI, hzI0, hzI1, hzI2⟩ := info_parts infoI
  obtain ⟨iL, hiL, hzL0, hzL1, hzL2⟩ := info_parts infoL
  obtain ⟨ov, ow, m, vs, us, rows, N, hbx, hbt, hlive, hwant, hfresh, ⟨hN1, hN2⟩, hrow⟩ := hB
  have hlt := hbx.lt
  have c12 := hbx.c12
  have f12 := hbx.fz 12
  have KF := hide' (bookFull b N w c12)
  have hv' := hide' hv
  have hvt' := hide' hvt
  have hlive' := hide' hlive
  have hwant' := hide' hwant
  have hbx' := hide' hbx
  have h1v := hide' (own_one hv)
  obtain ⟨oa, cap, rfl⟩ := own_shape hv
  clear hv hlive hwant hbx
  by_cases hfull : 200000 < N
  · have hd : decide (200000 < N) = true := by simpa using hfull
    rw [hd] at KF
    go_enter Tryz.func11, Tryz.ntmps11
    go_wp2_with (go_at_call 26; refine KF.out.mono ?_; rintro e w1 ⟨rfl, rfl⟩)
    first | go_end0 | refine bodyPost_ret (results_none rfl _ _ _) rfl ?_
    exact ⟨rfl, tag, ⟨_, _, _, _, _, _, _, hbx'.out, hbt, hlive'.out, hwant'.out, hfresh, ⟨hN1, hN2⟩, hrow⟩, ⟨rfl, rfl, rfl, Nat.le_refl _, fun _ _ h _ => h, fun _ _ _ _ => rfl⟩, hv'.out⟩
  · have hd : decide (200000 < N) = false := by simpa using hfull
    rw [hd] at KF
    have hbk : Hid (Bk w b tag ov ow m vs us rows N) := ⟨hbx'.out, hbt, hlive'.out, hwant'.out, hfresh, ⟨hN1, hN2⟩, hrow⟩
    have hb1 := hide' (hbx'.out.s12 (N + l.length + 1))
    have S1 : Hid (Sm (· = 1) tag w (w.setCell ⟨b, 12, none⟩ (.int .i64 (N + l.length + 1)))) := Sm.setCell _ hbt
    have c4 := hb1.out.c4
    have hO1 := hide' ((hlive'.out.mv S1.out (by decide) (fun j _ => by omega)).outer.alloc (.cells #[.slice oa l.length cap] 23))
    have hnb := hide' (World.news_of_block (cs := #[.slice oa l.length cap]) (B := w.heap.size) (by have := heap_new (w.setCell ⟨b, 12, none⟩ (.int .i64 (N + l.length + 1))) (.cells #[.slice oa l.length cap] 23); rwa [size_set] at this))
    clear hbx' hlive' hwant' S1 hfresh hrow hd hvt
    go_enter Tryz.func11, Tryz.ntmps11
    go_wp2_with (first | (go_at_call 26; refine KF.out.mono ?_; rintro e w1 ⟨rfl, hw1⟩; obtain rfl : w = w1 := hw1.symm) | (at_builtin; go_loud (refine wpList_append_two _ rfl _ _ 33 rfl 0 23 iL (.slice none 0 0) 1 24 Tryz.underlying33 hiL hzL0 hzL1 hzL2 rfl (by decide) ov m vs rfl hO1.out ⟨w.heap.size, 0, none⟩ 1 1 [.slice oa l.length cap] rfl rfl hnb.out (by simpa using h1v.out) (by decide) (by unfold maxLen; omega) (by omega) (Nat.zero_le _) ?_); intro g2 cap2 w2 hnew2 hold2 hat2; have hb2 := hide' (boxA hbk.out hat2); have c42 := hb2.out.c4; have f42 := hb2.out.fz 4))
    obtain ⟨tag2, rows2, hrm, hHB, hFr, hv3⟩ := stageA hbk.out (by omega) hv'.out hl hvt'.out hnew2 hold2 hat2
    generalize w2.setCell ⟨b, 4, none⟩ (.slice (some ⟨g2, 0, none⟩) (m + 1) cap2) = W3 at *
    have hHB' := hide' hHB
    have hFr' := hide' hFr
    have hv3' := hide' hv3
    have hrm' := hide' hrm
    have hvm : Hid ((vs ++ [.slice oa l.length cap])[m]? = some (.slice oa l.length cap)) := by
      have hl := hHB.live.len
      rw [List.length_append, List.length_singleton] at hl
      rw [show m = vs.length by omega]
      simp [Hid]
    have c5 := hHB.box.c5
    have hbs := hHB.box.lt
    have hm1 := hHB.hN
    clear hHB hFr hv3 hrm hbk hb1 c4 hO1 hnb hb2 c42 f42 hnew2 hold2 hat2 hv' KF c12 f12 hlt
    have cV := hide' (fun V (h : Below W3.heap.size W3 V) => (boxW hHB'.out h).c5)
    have B0 : Hid (Below W3.heap.size W3 W3.drew) := (Below.refl _ _).drew
    have B1 : Hid (Below W3.heap.size W3 (W3.drew.alloc (.cells #[] 3))) := B0.out.alloc (Nat.le_refl _) _
    have c5a := cV.out _ B0.out
    have c5b := cV.out _ B1.out
    have hZ := hide' (owns_zero W3.drew W3.heap.size (Nat.le_refl _) 3)
    have hR := hide' ((RowI.of_owns hv3'.out).below B1.out (Nat.le_refl _))
    refine wp_region_held_drew (S := (fun _ => True)) (by kernel_rfl) ?_ (fun hHeld => ?_)
    · trivial
    refine wpAnyH_take (i := 0) (oi := { dst := some 27, op := Op.move (Operand.tmp 0), type := 31, pos := "keep.go:39", after := #[], guard := none }) (v := ?_) rfl (by kernel_rfl) (by kernel_rfl) (by kernel_rfl) (fun _ _ _ h => h) (Or.inl ⟨by rfl, ?_⟩) (by assumption) ?_
    rotate_left
    · intro w hSw; (try dsimp only at hSw); go_simp <;> with_reducible rfl
    simp only [Act.put, List.setIfInBounds_toArray, List.set_cons_zero, List.set_cons_succ]
    refine wpAnyH_take (i := 1) (oi := { dst := some 28, op := Op.move (Operand.tmp 0), type := 31, pos := "keep.go:39", after := #[], guard := none }) (v := ?_) rfl (by kernel_rfl) (by kernel_rfl) (by kernel_rfl) (fun _ _ _ h => h) (Or.inl ⟨by rfl, ?_⟩) (by assumption) ?_
    rotate_left
    · intro w hSw; (try dsimp only at hSw); go_simp <;> with_reducible rfl
    simp only [Act.put, List.setIfInBounds_toArray, List.set_cons_zero, List.set_cons_succ]
    refine wpAnyH_take (i := 2) (oi := { dst := some 29, op := Op.nilCheck (Operand.tmp 28), type := 0, pos := "keep.go:39", after := #[{ on := 1, ground := Ground.data }], guard := none }) (v := ?_) rfl (by kernel_rfl) (by kernel_rfl) (by kernel_rfl) (fun _ _ _ h => h) (Or.inl ⟨by rfl, ?_⟩) (by assumption) ?_
    rotate_left
    · intro w hSw; (try dsimp only at hSw); go_simp <;> with_reducible rfl
    simp only [Act.put, List.setIfInBounds_toArray, List.set_cons_zero, List.set_cons_succ]
    refine wpAnyH_take (i := 3) (oi := { dst := some 30, op := Op.fieldAddr 36 (Operand.tmp 29) 5, type := 0, pos := "keep.go:39", after := #[{ on := 2, ground := Ground.data }], guard := none }) (v := ?_) rfl (by kernel_rfl) (by kernel_rfl) (by kernel_rfl) (fun _ _ _ h => h) (Or.inl ⟨by rfl, ?_⟩) (by assumption) ?_
    rotate_left
    · intro w hSw; (try dsimp only at hSw); go_simp <;> with_reducible rfl
    simp only [Act.put, List.setIfInBounds_toArray, List.set_cons_zero, List.set_cons_succ]
    refine wpAnyH_take (i := 6) (oi := { dst := some 33, op := Op.move (Operand.tmp 1), type := 23, pos := "keep.go:39", after := #[], guard := none }) (v := ?_) rfl (by kernel_rfl) (by kernel_rfl) (by kernel_rfl) (fun _ _ _ h => h) (Or.inl ⟨by rfl, ?_⟩) (by assumption) ?_
    rotate_left
    · intro w hSw; (try dsimp only at hSw); go_simp <;> with_reducible rfl
    simp only [Act.put, List.setIfInBounds_toArray, List.set_cons_zero, List.set_cons_succ]
    refine wpAnyH_ready (rs := [4, 5]) (by kernel_rfl) (by simp) ?_
    refine AllReadyH.cons (o := { dst := some 31, op := Op.load 33 (Operand.tmp 30), type := 33, pos := "keep.go:39", after := #[{ on := 3, ground := Ground.data }], guard := none }) rfl (fun K hK => ?_) ?_
    · skip
      go_simp
      refine hK.out _ _ ?_ (fun hHeld => ?_)
      · trivial
      clear hK K
      try simp only [Act.put, List.setIfInBounds_toArray, List.set_cons_zero, List.set_cons_succ]
      refine wpAnyH_ready (rs := [5]) (by kernel_rfl) (by simp) ?_
      refine AllReadyH.cons (o := { dst := some 32, op := Op.buildSlice 23 0 #[], type := 23, pos := "keep.go:39", after := #[], guard := none }) rfl (fun K hK => ?_) AllReadyH.nil
      go_simp
      refine hK.out _ _ ?_ (fun hHeld => ?_)
      · trivial
      clear hK K
      try simp only [Act.put, List.setIfInBounds_toArray, List.set_cons_zero, List.set_cons_succ]
      refine wpAnyH_ready (rs := [7]) (by kernel_rfl) (by simp) ?_
      refine AllReadyH.cons (o := { dst := some 34, op := Op.call { callee := Callee.builtin Builtin.append, args := #[Operand.tmp 32, Operand.tmp 33], argTypes := #[23, 23] }, type := 23, pos := "keep.go:39", after := #[{ on := 5, ground := Ground.data }, { on := 6, ground := Ground.data }], guard := none }) rfl (fun K hK => ?_) AllReadyH.nil
      rw [if_pos (by rfl)]
      refine wp_copyZ _ (.tmp 32) (.tmp 33) W3.heap.size (.slice oa l.length cap) l rfl rfl hZ.out rfl hR.out hl ?_; intro u w4 hu4 hg4; obtain ⟨ou, cu, rfl⟩ := own_shape hu4; have hB4 := hide' (B1.out.grown hg4 (by simp) (fun j ej => by cases ej; exact Nat.le_refl _)); have c5c := cV.out _ hB4.out; have B5 : Hid (Below W3.heap.size W3 (w4.alloc (.cells #[.slice ou l.length cu] 23))) := hB4.out.alloc hB4.out.size _; have c5d := cV.out _ B5.out; have h1u := hide' (own_one hu4); have hu4' := hide' hu4; have hO5 := hide' (outW hHB'.out B5.out); clear hu4 hg4; (try dsimp only)
      refine hK.out _ _ ?_ (fun hHeld => ?_)
      · trivial
      clear hK K
      try simp only [Act.put, List.setIfInBounds_toArray, List.set_cons_zero, List.set_cons_succ]
      refine wpAnyH_ready (rs := [8]) (by kernel_rfl) (by simp) ?_
      refine AllReadyH.cons (o := { dst := some 35, op := Op.buildSlice 33 1 #[(0, Operand.tmp 34)], type := 33, pos := "keep.go:39", after := #[{ on := 7, ground := Ground.data }], guard := none }) rfl (fun K hK => ?_) AllReadyH.nil
      go_simp
      refine hK.out _ _ ?_ (fun hHeld => ?_)
      · trivial
      clear hK K
      try simp only [Act.put, List.setIfInBounds_toArray, List.set_cons_zero, List.set_cons_succ]
      refine wpAnyH_ready (rs := [9]) (by kernel_rfl) (by simp) ?_
      refine AllReadyH.cons (o := { dst := some 36, op := Op.call { callee := Callee.builtin Builtin.append, args := #[Operand.tmp 31, Operand.tmp 35], argTypes := #[33, 33] }, type := 33, pos := "keep.go:39", after := #[{ on := 4, ground := Ground.data }, { on := 8, ground := Ground.data }, { on := 7, ground := Ground.chain }], guard := none }) rfl (fun K hK => ?_) AllReadyH.nil
      rw [if_pos (by rfl)]
      refine wp_append_two _ (.tmp 31) (.tmp 35) 33 rfl 0 23 iL (.slice none 0 0) 1 24 Tryz.underlying33 hiL hzL0 hzL1 hzL2 rfl (by decide) ow m us rfl hO5.out ⟨w4.heap.size, 0, none⟩ 1 1 [.slice ou l.length cu] rfl rfl (cell_one_new _ _ _) (by simpa using h1u.out) (by decide) (by unfold maxLen; omega) (by omega) (Nat.zero_le _) ?_; intro g5 cap5 w5 hnew5 hold5 hat5; have hb5 := hide' (boxE hHB'.out hB4.out hat5); have c5f := hb5.out.c5; have f5f := hb5.out.fz 5; (try dsimp only)
      refine hK.out _ _ ?_ (fun hHeld => ?_)
      · trivial
      clear hK K
      try simp only [Act.put, List.setIfInBounds_toArray, List.set_cons_zero, List.set_cons_succ]
      refine wpAnyH_take (i := 10) (oi := { dst := some 37, op := Op.nilCheck (Operand.tmp 27), type := 0, pos := "keep.go:39", after := #[{ on := 0, ground := Ground.data }, { on := 0, ground := Ground.phase }, { on := 1, ground := Ground.phase }, { on := 2, ground := Ground.phase }, { on := 3, ground := Ground.phase }, { on := 4, ground := Ground.phase }, { on := 5, ground := Ground.phase }, { on := 6, ground := Ground.phase }, { on := 7, ground := Ground.phase }, { on := 8, ground := Ground.phase }, { on := 9, ground := Ground.phase }], guard := none }) (v := ?_) rfl (by kernel_rfl) (by kernel_rfl) (by kernel_rfl) (fun _ _ _ h => h) (Or.inl ⟨by rfl, ?_⟩) (by assumption) ?_
      rotate_left
      · intro w hSw; (try dsimp only at hSw); go_simp <;> with_reducible rfl
      simp only [Act.put, List.setIfInBounds_toArray, List.set_cons_zero, List.set_cons_succ]
      refine wpAnyH_take (i := 11) (oi := { dst := some 38, op := Op.fieldAddr 36 (Operand.tmp 37) 5, type := 0, pos := "keep.go:39", after := #[{ on := 10, ground := Ground.data }, { on := 0, ground := Ground.phase }, { on := 1, ground := Ground.phase }, { on := 2, ground := Ground.phase }, { on := 3, ground := Ground.phase }, { on := 4, ground := Ground.phase }, { on := 5, ground := Ground.phase }, { on := 6, ground := Ground.phase }, { on := 7, ground := Ground.phase }, { on := 8, ground := Ground.phase }, { on := 9, ground := Ground.phase }], guard := none }) (v := ?_) rfl (by kernel_rfl) (by kernel_rfl) (by kernel_rfl) (fun _ _ _ h => h) (Or.inl ⟨by rfl, ?_⟩) (by assumption) ?_
      rotate_left
      · intro w hSw; (try dsimp only at hSw); go_simp <;> with_reducible rfl
      simp only [Act.put, List.setIfInBounds_toArray, List.set_cons_zero, List.set_cons_succ]
      refine wpAnyH_ready (rs := [12]) (by kernel_rfl) (by simp) ?_
      refine AllReadyH.cons (o := { dst := none, op := Op.store 33 (Operand.tmp 38) (Operand.tmp 36), type := 0, pos := "keep.go:39", after := #[{ on := 11, ground := Ground.data }, { on := 9, ground := Ground.data }, { on := 9, ground := Ground.chain }, { on := 0, ground := Ground.phase }, { on := 1, ground := Ground.phase }, { on := 2, ground := Ground.phase }, { on := 3, ground := Ground.phase }, { on := 4, ground := Ground.phase }, { on := 5, ground := Ground.phase }, { on := 6, ground := Ground.phase }, { on := 7, ground := Ground.phase }, { on := 8, ground := Ground.phase }, { on := 9, ground := Ground.phase }], guard := none }) rfl (fun K hK => ?_) AllReadyH.nil
      go_simp
      refine hK.out _ _ ?_ (fun hHeld => ?_)
      · trivial
      clear hK K
      try simp only [Act.put, List.setIfInBounds_toArray, List.set_cons_zero, List.set_cons_succ]
      refine wpAnyH_done (by kernel_rfl) ?_ _
      skip
      go_wp2
      first | go_end0 | refine bodyPost_ret (results_none rfl _ _ _) rfl ?_
      obtain ⟨tag3, hBk3, hFr3⟩ := stageB hHB'.out hB4.out (by rw [hrm'.out]; exact hu4'.out) hnew5 hold5 hat5
      exact ⟨rfl, tag3, hBk3, hFr'.out.trans hFr3, owns_same hv3'.out fun g hg e => stageB_fr hHB'.out hB4.out hat5 _ g hg (by have h0 : tag2 g = 10 + 2 * m := hHB'.out.live.itag m _ g hvm.out e; omega) (by have h0 : tag2 g = 10 + 2 * m := hHB'.out.live.itag m _ g hvm.out e; omega)⟩
    refine AllReadyH.cons (o := { dst := some 32, op := Op.buildSlice 23 0 #[], type := 23, pos := "keep.go:39", after := #[], guard := none }) rfl (fun K hK => ?_) AllReadyH.nil
    go_simp
    refine hK.out _ _ ?_ (fun hHeld => ?_)
    · trivial
    clear hK K
    try simp only [Act.put, List.setIfInBounds_toArray, List.set_cons_zero, List.set_cons_succ]
    refine wpAnyH_ready (rs := [4, 7]) (by kernel_rfl) (by simp) ?_
    refine AllReadyH.cons (o := { dst := some 31, op := Op.load 33 (Operand.tmp 30), type := 33, pos := "keep.go:39", after := #[{ on := 3, ground := Ground.data }], guard := none }) rfl (fun K hK => ?_) ?_
    · skip
      go_simp
      refine hK.out _ _ ?_ (fun hHeld => ?_)
      · trivial
      clear hK K
      try simp only [Act.put, List.setIfInBounds_toArray, List.set_cons_zero, List.set_cons_succ]
      refine wpAnyH_ready (rs := [7]) (by kernel_rfl) (by simp) ?_
      refine AllReadyH.cons (o := { dst := some 34, op := Op.call { callee := Callee.builtin Builtin.append, args := #[Operand.tmp 32, Operand.tmp 33], argTypes := #[23, 23] }, type := 23, pos := "keep.go:39", after := #[{ on := 5, ground := Ground.data }, { on := 6, ground := Ground.data }], guard := none }) rfl (fun K hK => ?_) AllReadyH.nil
      rw [if_pos (by rfl)]
      refine wp_copyZ _ (.tmp 32) (.tmp 33) W3.heap.size (.slice oa l.length cap) l rfl rfl hZ.out rfl hR.out hl ?_; intro u w4 hu4 hg4; obtain ⟨ou, cu, rfl⟩ := own_shape hu4; have hB4 := hide' (B1.out.grown hg4 (by simp) (fun j ej => by cases ej; exact Nat.le_refl _)); have c5c := cV.out _ hB4.out; have B5 : Hid (Below W3.heap.size W3 (w4.alloc (.cells #[.slice ou l.length cu] 23))) := hB4.out.alloc hB4.out.size _; have c5d := cV.out _ B5.out; have h1u := hide' (own_one hu4); have hu4' := hide' hu4; have hO5 := hide' (outW hHB'.out B5.out); clear hu4 hg4; (try dsimp only)
      refine hK.out _ _ ?_ (fun hHeld => ?_)
      · trivial
      clear hK K
      try simp only [Act.put, List.setIfInBounds_toArray, List.set_cons_zero, List.set_cons_succ]
      refine wpAnyH_ready (rs := [8]) (by kernel_rfl) (by simp) ?_
      refine AllReadyH.cons (o := { dst := some 35, op := Op.buildSlice 33 1 #[(0, Operand.tmp 34)], type := 33, pos := "keep.go:39", after := #[{ on := 7, ground := Ground.data }], guard := none }) rfl (fun K hK => ?_) AllReadyH.nil
      go_simp
      refine hK.out _ _ ?_ (fun hHeld => ?_)
      · trivial
      clear hK K
      try simp only [Act.put, List.setIfInBounds_toArray, List.set_cons_zero, List.set_cons_succ]
      refine wpAnyH_ready (rs := [9]) (by kernel_rfl) (by simp) ?_
      refine AllReadyH.cons (o := { dst := some 36, op := Op.call { callee := Callee.builtin Builtin.append, args := #[Operand.tmp 31, Operand.tmp 35], argTypes := #[33, 33] }, type := 33, pos := "keep.go:39", after := #[{ on := 4, ground := Ground.data }, { on := 8, ground := Ground.data }, { on := 7, ground := Ground.chain }], guard := none }) rfl (fun K hK => ?_) AllReadyH.nil
      rw [if_pos (by rfl)]
      refine wp_append_two _ (.tmp 31) (.tmp 35) 33 rfl 0 23 iL (.slice none 0 0) 1 24 Tryz.underlying33 hiL hzL0 hzL1 hzL2 rfl (by decide) ow m us rfl hO5.out ⟨w4.heap.size, 0, none⟩ 1 1 [.slice ou l.length cu] rfl rfl (cell_one_new _ _ _) (by simpa using h1u.out) (by decide) (by unfold maxLen; omega) (by omega) (Nat.zero_le _) ?_; intro g5 cap5 w5 hnew5 hold5 hat5; have hb5 := hide' (boxE hHB'.out hB4.out hat5); have c5f := hb5.out.c5; have f5f := hb5.out.fz 5; (try dsimp only)
      refine hK.out _ _ ?_ (fun hHeld => ?_)
      · trivial
      clear hK K
      try simp only [Act.put, List.setIfInBounds_toArray, List.set_cons_zero, List.set_cons_succ]
      refine wpAnyH_take (i := 10) (oi := { dst := some 37, op := Op.nilCheck (Operand.tmp 27), type := 0, pos := "keep.go:39", after := #[{ on := 0, ground := Ground.data }, { on := 0, ground := Ground.phase }, { on := 1, ground := Ground.phase }, { on := 2, ground := Ground.phase }, { on := 3, ground := Ground.phase }, { on := 4, ground := Ground.phase }, { on := 5, ground := Ground.phase }, { on := 6, ground := Ground.phase }, { on := 7, ground := Ground.phase }, { on := 8, ground := Ground.phase }, { on := 9, ground := Ground.phase }], guard := none }) (v := ?_) rfl (by kernel_rfl) (by kernel_rfl) (by kernel_rfl) (fun _ _ _ h => h) (Or.inl ⟨by rfl, ?_⟩) (by assumption) ?_
      rotate_left
      · intro w hSw; (try dsimp only at hSw); go_simp <;> with_reducible rfl
      simp only [Act.put, List.setIfInBounds_toArray, List.set_cons_zero, List.set_cons_succ]
      refine wpAnyH_take (i := 11) (oi := { dst := some 38, op := Op.fieldAddr 36 (Operand.tmp 37) 5, type := 0, pos := "keep.go:39", after := #[{ on := 10, ground := Ground.data }, { on := 0, ground := Ground.phase }, { on := 1, ground := Ground.phase }, { on := 2, ground := Ground.phase }, { on := 3, ground := Ground.phase }, { on := 4, ground := Ground.phase }, { on := 5, ground := Ground.phase }, { on := 6, ground := Ground.phase }, { on := 7, ground := Ground.phase }, { on := 8, ground := Ground.phase }, { on := 9, ground := Ground.phase }], guard := none }) (v := ?_) rfl (by kernel_rfl) (by kernel_rfl) (by kernel_rfl) (fun _ _ _ h => h) (Or.inl ⟨by rfl, ?_⟩) (by assumption) ?_
      rotate_left
      · intro w hSw; (try dsimp only at hSw); go_simp <;> with_reducible rfl
      simp only [Act.put, List.setIfInBounds_toArray, List.set_cons_zero, List.set_cons_succ]
      refine wpAnyH_ready (rs := [12]) (by kernel_rfl) (by simp) ?_
      refine AllReadyH.cons (o := { dst := none, op := Op.store 33 (Operand.tmp 38) (Operand.tmp 36), type := 0, pos := "keep.go:39", after := #[{ on := 11, ground := Ground.data }, { on := 9, ground := Ground.data }, { on := 9, ground := Ground.chain }, { on := 0, ground := Ground.phase }, { on := 1, ground := Ground.phase }, { on := 2, ground := Ground.phase }, { on := 3, ground := Ground.phase }, { on := 4, ground := Ground.phase }, { on := 5, ground := Ground.phase }, { on := 6, ground := Ground.phase }, { on := 7, ground := Ground.phase }, { on := 8, ground := Ground.phase }, { on := 9, ground := Ground.phase }], guard := none }) rfl (fun K hK => ?_) AllReadyH.nil
      go_simp
      refine hK.out _ _ ?_ (fun hHeld => ?_)
      · trivial
      clear hK K
      try simp only [Act.put, List.setIfInBounds_toArray, List.set_cons_zero, List.set_cons_succ]
      refine wpAnyH_done (by kernel_rfl) ?_ _
      skip
      go_wp2
      first | go_end0 | refine bodyPost_ret (results_none rfl _ _ _) rfl ?_
      obtain ⟨tag3, hBk3, hFr3⟩ := stageB hHB'.out hB4.out (by rw [hrm'.out]; exact hu4'.out) hnew5 hold5 hat5
      exact ⟨rfl, tag3, hBk3, hFr'.out.trans hFr3, owns_same hv3'.out fun g hg e => stageB_fr hHB'.out hB4.out hat5 _ g hg (by have h0 : tag2 g = 10 + 2 * m := hHB'.out.live.itag m _ g hvm.out e; omega) (by have h0 : tag2 g = 10 + 2 * m := hHB'.out.live.itag m _ g hvm.out e; omega)⟩
    refine AllReadyH.cons (o := { dst := some 34, op := Op.call { callee := Callee.builtin Builtin.append, args := #[Operand.tmp 32, Operand.tmp 33], argTypes := #[23, 23] }, type := 23, pos := "keep.go:39", after := #[{ on := 5, ground := Ground.data }, { on := 6, ground := Ground.data }], guard := none }) rfl (fun K hK => ?_) AllReadyH.nil
    rw [if_pos (by rfl)]
    refine wp_copyZ _ (.tmp 32) (.tmp 33) W3.heap.size (.slice oa l.length cap) l rfl rfl hZ.out rfl hR.out hl ?_; intro u w4 hu4 hg4; obtain ⟨ou, cu, rfl⟩ := own_shape hu4; have hB4 := hide' (B1.out.grown hg4 (by simp) (fun j ej => by cases ej; exact Nat.le_refl _)); have c5c := cV.out _ hB4.out; have B5 : Hid (Below W3.heap.size W3 (w4.alloc (.cells #[.slice ou l.length cu] 23))) := hB4.out.alloc hB4.out.size _; have c5d := cV.out _ B5.out; have h1u := hide' (own_one hu4); have hu4' := hide' hu4; have hO5 := hide' (outW hHB'.out B5.out); clear hu4 hg4; (try dsimp only)
    refine hK.out _ _ ?_ (fun hHeld => ?_)
    · trivial
    clear hK K
    try simp only [Act.put, List.setIfInBounds_toArray, List.set_cons_zero, List.set_cons_succ]
    refine wpAnyH_ready (rs := [4, 8]) (by kernel_rfl) (by simp) ?_
    refine AllReadyH.cons (o := { dst := some 31, op := Op.load 33 (Operand.tmp 30), type := 33, pos := "keep.go:39", after := #[{ on := 3, ground := Ground.data }], guard := none }) rfl (fun K hK => ?_) ?_
    · skip
      go_simp
      refine hK.out _ _ ?_ (fun hHeld => ?_)
      · trivial
      clear hK K
      try simp only [Act.put, List.setIfInBounds_toArray, List.set_cons_zero, List.set_cons_succ]
      refine wpAnyH_ready (rs := [8]) (by kernel_rfl) (by simp) ?_
      refine AllReadyH.cons (o := { dst := some 35, op := Op.buildSlice 33 1 #[(0, Operand.tmp 34)], type := 33, pos := "keep.go:39", after := #[{ on := 7, ground := Ground.data }], guard := none }) rfl (fun K hK => ?_) AllReadyH.nil
      go_simp
      refine hK.out _ _ ?_ (fun hHeld => ?_)
      · trivial
      clear hK K
      try simp only [Act.put, List.setIfInBounds_toArray, List.set_cons_zero, List.set_cons_succ]
      refine wpAnyH_ready (rs := [9]) (by kernel_rfl) (by simp) ?_
      refine AllReadyH.cons (o := { dst := some 36, op := Op.call { callee := Callee.builtin Builtin.append, args := #[Operand.tmp 31, Operand.tmp 35], argTypes := #[33, 33] }, type := 33, pos := "keep.go:39", after := #[{ on := 4, ground := Ground.data }, { on := 8, ground := Ground.data }, { on := 7, ground := Ground.chain }], guard := none }) rfl (fun K hK => ?_) AllReadyH.nil
      rw [if_pos (by rfl)]
      refine wp_append_two _ (.tmp 31) (.tmp 35) 33 rfl 0 23 iL (.slice none 0 0) 1 24 Tryz.underlying33 hiL hzL0 hzL1 hzL2 rfl (by decide) ow m us rfl hO5.out ⟨w4.heap.size, 0, none⟩ 1 1 [.slice ou l.length cu] rfl rfl (cell_one_new _ _ _) (by simpa using h1u.out) (by decide) (by unfold maxLen; omega) (by omega) (Nat.zero_le _) ?_; intro g5 cap5 w5 hnew5 hold5 hat5; have hb5 := hide' (boxE hHB'.out hB4.out hat5); have c5f := hb5.out.c5; have f5f := hb5.out.fz 5; (try dsimp only)
      refine hK.out _ _ ?_ (fun hHeld => ?_)
      · trivial
      clear hK K
      try simp only [Act.put, List.setIfInBounds_toArray, List.set_cons_zero, List.set_cons_succ]
      refine wpAnyH_take (i := 10) (oi := { dst := some 37, op := Op.nilCheck (Operand.tmp 27), type := 0, pos := "keep.go:39", after := #[{ on := 0, ground := Ground.data }, { on := 0, ground := Ground.phase }, { on := 1, ground := Ground.phase }, { on := 2, ground := Ground.phase }, { on := 3, ground := Ground.phase }, { on := 4, ground := Ground.phase }, { on := 5, ground := Ground.phase }, { on := 6, ground := Ground.phase }, { on := 7, ground := Ground.phase }, { on := 8, ground := Ground.phase }, { on := 9, ground := Ground.phase }], guard := none }) (v := ?_) rfl (by kernel_rfl) (by kernel_rfl) (by kernel_rfl) (fun _ _ _ h => h) (Or.inl ⟨by rfl, ?_⟩) (by assumption) ?_
      rotate_left
      · intro w hSw; (try dsimp only at hSw); go_simp <;> with_reducible rfl
      simp only [Act.put, List.setIfInBounds_toArray, List.set_cons_zero, List.set_cons_succ]
      refine wpAnyH_take (i := 11) (oi := { dst := some 38, op := Op.fieldAddr 36 (Operand.tmp 37) 5, type := 0, pos := "keep.go:39", after := #[{ on := 10, ground := Ground.data }, { on := 0, ground := Ground.phase }, { on := 1, ground := Ground.phase }, { on := 2, ground := Ground.phase }, { on := 3, ground := Ground.phase }, { on := 4, ground := Ground.phase }, { on := 5, ground := Ground.phase }, { on := 6, ground := Ground.phase }, { on := 7, ground := Ground.phase }, { on := 8, ground := Ground.phase }, { on := 9, ground := Ground.phase }], guard := none }) (v := ?_) rfl (by kernel_rfl) (by kernel_rfl) (by kernel_rfl) (fun _ _ _ h => h) (Or.inl ⟨by rfl, ?_⟩) (by assumption) ?_
      rotate_left
      · intro w hSw; (try dsimp only at hSw); go_simp <;> with_reducible rfl
      simp only [Act.put, List.setIfInBounds_toArray, List.set_cons_zero, List.set_cons_succ]
      refine wpAnyH_ready (rs := [12]) (by kernel_rfl) (by simp) ?_
      refine AllReadyH.cons (o := { dst := none, op := Op.store 33 (Operand.tmp 38) (Operand.tmp 36), type := 0, pos := "keep.go:39", after := #[{ on := 11, ground := Ground.data }, { on := 9, ground := Ground.data }, { on := 9, ground := Ground.chain }, { on := 0, ground := Ground.phase }, { on := 1, ground := Ground.phase }, { on := 2, ground := Ground.phase }, { on := 3, ground := Ground.phase }, { on := 4, ground := Ground.phase }, { on := 5, ground := Ground.phase }, { on := 6, ground := Ground.phase }, { on := 7, ground := Ground.phase }, { on := 8, ground := Ground.phase }, { on := 9, ground := Ground.phase }], guard := none }) rfl (fun K hK => ?_) AllReadyH.nil
      go_simp
      refine hK.out _ _ ?_ (fun hHeld => ?_)
      · trivial
      clear hK K
      try simp only [Act.put, List.setIfInBounds_toArray, List.set_cons_zero, List.set_cons_succ]
      refine wpAnyH_done (by kernel_rfl) ?_ _
      skip
      go_wp2
      first | go_end0 | refine bodyPost_ret (results_none rfl _ _ _) rfl ?_
      obtain ⟨tag3, hBk3, hFr3⟩ := stageB hHB'.out hB4.out (by rw [hrm'.out]; exact hu4'.out) hnew5 hold5 hat5
      exact ⟨rfl, tag3, hBk3, hFr'.out.trans hFr3, owns_same hv3'.out fun g hg e => stageB_fr hHB'.out hB4.out hat5 _ g hg (by have h0 : tag2 g = 10 + 2 * m := hHB'.out.live.itag m _ g hvm.out e; omega) (by have h0 : tag2 g = 10 + 2 * m := hHB'.out.live.itag m _ g hvm.out e; omega)⟩
    refine AllReadyH.cons (o := { dst := some 35, op := Op.buildSlice 33 1 #[(0, Operand.tmp 34)], type := 33, pos := "keep.go:39", after := #[{ on := 7, ground := Ground.data }], guard := none }) rfl (fun K hK => ?_) AllReadyH.nil
    go_simp
    refine hK.out _ _ ?_ (fun hHeld => ?_)
    · trivial
    clear hK K
    try simp only [Act.put, List.setIfInBounds_toArray, List.set_cons_zero, List.set_cons_succ]
    refine wpAnyH_ready (rs := [4]) (by kernel_rfl) (by simp) ?_
    refine AllReadyH.cons (o := { dst := some 31, op := Op.load 33 (Operand.tmp 30), type := 33, pos := "keep.go:39", after := #[{ on := 3, ground := Ground.data }], guard := none }) rfl (fun K hK => ?_) AllReadyH.nil
    go_simp
    refine hK.out _ _ ?_ (fun hHeld => ?_)
    · trivial
    clear hK K
    try simp only [Act.put, List.setIfInBounds_toArray, List.set_cons_zero, List.set_cons_succ]
    refine wpAnyH_ready (rs := [9]) (by kernel_rfl) (by simp) ?_
    refine AllReadyH.cons (o := { dst := some 36, op := Op.call { callee := Callee.builtin Builtin.append, args := #[Operand.tmp 31, Operand.tmp 35], argTypes := #[33, 33] }, type := 33, pos := "keep.go:39", after := #[{ on := 4, ground := Ground.data }, { on := 8, ground := Ground.data }, { on := 7, ground := Ground.chain }], guard := none }) rfl (fun K hK => ?_) AllReadyH.nil
    rw [if_pos (by rfl)]
    refine wp_append_two _ (.tmp 31) (.tmp 35) 33 rfl 0 23 iL (.slice none 0 0) 1 24 Tryz.underlying33 hiL hzL0 hzL1 hzL2 rfl (by decide) ow m us rfl hO5.out ⟨w4.heap.size, 0, none⟩ 1 1 [.slice ou l.length cu] rfl rfl (cell_one_new _ _ _) (by simpa using h1u.out) (by decide) (by unfold maxLen; omega) (by omega) (Nat.zero_le _) ?_; intro g5 cap5 w5 hnew5 hold5 hat5; have hb5 := hide' (boxE hHB'.out hB4.out hat5); have c5f := hb5.out.c5; have f5f := hb5.out.fz 5; (try dsimp only)
    refine hK.out _ _ ?_ (fun hHeld => ?_)
    · trivial
    clear hK K
    try simp only [Act.put, List.setIfInBounds_toArray, List.set_cons_zero, List.set_cons_succ]
    refine wpAnyH_take (i := 10) (oi := { dst := some 37, op := Op.nilCheck (Operand.tmp 27), type := 0, pos := "keep.go:39", after := #[{ on := 0, ground := Ground.data }, { on := 0, ground := Ground.phase }, { on := 1, ground := Ground.phase }, { on := 2, ground := Ground.phase }, { on := 3, ground := Ground.phase }, { on := 4, ground := Ground.phase }, { on := 5, ground := Ground.phase }, { on := 6, ground := Ground.phase }, { on := 7, ground := Ground.phase }, { on := 8, ground := Ground.phase }, { on := 9, ground := Ground.phase }], guard := none }) (v := ?_) rfl (by kernel_rfl) (by kernel_rfl) (by kernel_rfl) (fun _ _ _ h => h) (Or.inl ⟨by rfl, ?_⟩) (by assumption) ?_
    rotate_left
    · intro w hSw; (try dsimp only at hSw); go_simp <;> with_reducible rfl
    simp only [Act.put, List.setIfInBounds_toArray, List.set_cons_zero, List.set_cons_succ]
    refine wpAnyH_take (i := 11) (oi := { dst := some 38, op := Op.fieldAddr 36 (Operand.tmp 37) 5, type := 0, pos := "keep.go:39", after := #[{ on := 10, ground := Ground.data }, { on := 0, ground := Ground.phase }, { on := 1, ground := Ground.phase }, { on := 2, ground := Ground.phase }, { on := 3, ground := Ground.phase }, { on := 4, ground := Ground.phase }, { on := 5, ground := Ground.phase }, { on := 6, ground := Ground.phase }, { on := 7, ground := Ground.phase }, { on := 8, ground := Ground.phase }, { on := 9, ground := Ground.phase }], guard := none }) (v := ?_) rfl (by kernel_rfl) (by kernel_rfl) (by kernel_rfl) (fun _ _ _ h => h) (Or.inl ⟨by rfl, ?_⟩) (by assumption) ?_
    rotate_left
    · intro w hSw; (try dsimp only at hSw); go_simp <;> with_reducible rfl
    simp only [Act.put, List.setIfInBounds_toArray, List.set_cons_zero, List.set_cons_succ]
    refine wpAnyH_ready (rs := [12]) (by kernel_rfl) (by simp) ?_
    refine AllReadyH.cons (o := { dst := none, op := Op.store 33 (Operand.tmp 38) (Operand.tmp 36), type := 0, pos := "keep.go:39", after := #[{ on := 11, ground := Ground.data }, { on := 9, ground := Ground.data }, { on := 9, ground := Ground.chain }, { on := 0, ground := Ground.phase }, { on := 1, ground := Ground.phase }, { on := 2, ground := Ground.phase }, { on := 3, ground := Ground.phase }, { on := 4, ground := Ground.phase }, { on := 5, ground := Ground.phase }, { on := 6, ground := Ground.phase }, { on := 7, ground := Ground.phase }, { on := 8, ground := Ground.phase }, { on := 9, ground := Ground.phase }], guard := none }) rfl (fun K hK => ?_) AllReadyH.nil
    go_simp
    refine hK.out _ _ ?_ (fun hHeld => ?_)
    · trivial
    clear hK K
    try simp only [Act.put, List.setIfInBounds_toArray, List.set_cons_zero, List.set_cons_succ]
    refine wpAnyH_done (by kernel_rfl) ?_ _
    skip
    go_wp2
    first | go_end0 | refine bodyPost_ret (results_none rfl _ _ _) rfl ?_
    obtain ⟨tag3, hBk3, hFr3⟩ := stageB hHB'.out hB4.out (by rw [hrm'.out]; exact hu4'.out) hnew5 hold5 hat5
    exact ⟨rfl, tag3, hBk3, hFr'.out.trans hFr3, owns_same hv3'.out fun g hg e => stageB_fr hHB'.out hB4.out hat5 _ g hg (by have h0 : tag2 g = 10 + 2 * m := hHB'.out.live.itag m _ g hvm.out e; omega) (by have h0 : tag2 g = 10 + 2 * m := hHB'.out.live.itag m _ g hvm.out e; omega)⟩
end Go.Proofs.YtlijlelejobchaaGreatDoor.K

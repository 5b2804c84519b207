/- A new book; rows in new memory are taken in; it is closed: what was there before the book stands. -/
import Derived.Test.YtlipdccfhnnleaaGreatDoorJ42
import Derived.Deep.RegionHeld3
namespace Go.Proofs.YtlipdccfhnnleaaGreatDoor.K
open Go.RowKit
/-- The lists below i are marked, and k places of list i. -/
def rowsAt (rows : Nat → List Int) (i k j : Nat) : List Int := if j < i then List.replicate (rows j).length (mkA j) else if j = i then List.replicate k (mkA i) ++ (rows i).drop k else rows j
theorem rowsAt_i (rows : Nat → List Int) (i k : Nat) : rowsAt rows i k i = List.replicate k (mkA i) ++ (rows i).drop k := by rw [rowsAt, if_neg (Nat.lt_irrefl _), if_pos rfl]
theorem rowsAt_len (rows : Nat → List Int) (i k : Nat) (h : k ≤ (rows i).length) : (rowsAt rows i k i).length = (rows i).length := by
  rw [rowsAt_i, List.length_append, List.length_replicate, List.length_drop]; omega
theorem rowsAt_set (rows : Nat → List Int) (i k : Nat) (h : k < (rows i).length) : rowsAt rows i (k + 1) i = (rowsAt rows i k i).set k (mkA i) := by
  rw [rowsAt_i, rowsAt_i, List.set_append_right _ _ (by rw [List.length_replicate]; exact Nat.le_refl _), List.length_replicate, Nat.sub_self, List.drop_eq_getElem_cons h, List.set_cons_zero, List.replicate_succ', List.append_assoc]; rfl
theorem rowsAt_ne (rows : Nat → List Int) (i k j : Nat) (h : j ≠ i) : rowsAt rows i (k + 1) j = rowsAt rows i k j := by
  unfold rowsAt; rw [if_neg h, if_neg h]
theorem rowsAt_next (rows : Nat → List Int) (i j : Nat) : rowsAt rows (i + 1) 0 j = rowsAt rows i (rows i).length j := by
  unfold rowsAt
  by_cases h1 : j < i
  · rw [if_pos h1, if_pos (by omega)]
  · by_cases h2 : j = i
    · subst h2; rw [if_neg h1, if_pos (by omega), if_pos rfl, List.drop_length, List.append_nil]
    · rw [if_neg (by omega), if_neg h1, if_neg h2]
      by_cases h3 : j = i + 1
      · subst h3; rw [if_pos rfl]; rfl
      · rw [if_neg h3]
theorem rowsAt_zero (rows : Nat → List Int) (j : Nat) : rowsAt rows 0 0 j = rows j := by
  unfold rowsAt
  by_cases h : j = 0
  · subst h; rfl
  · rw [if_neg (by omega), if_neg h]
theorem Fam.store {w : World} {tag : Nat → Nat} {ov : Value} {m : Nat} {vs : List Value} {rows rows' : Nat → List Int} (h : Fam w tag 2 cL ov m vs rows) {i k g nn cap : Nat} {z : Int} (hv : vs[i]? = some (.slice (some ⟨g, 0, none⟩) nn cap)) (hr : rows' i = (rows i).set k z) (hr' : ∀ j, j < m → j ≠ i → rows' j = rows j) :
    Fam (w.setCell ⟨g, k, none⟩ (.int .i64 z)) tag 2 cL ov m vs rows' := by
  have s : Sm (· = cL i) tag w (w.setCell ⟨g, k, none⟩ (.int .i64 z)) := Sm.setCell _ (h.itag i _ g hv rfl)
  refine h.mvRow (i := i) s (by unfold cL; omega) (fun j _ hj => by unfold cL; omega) (fun v hv' => ?_) hr'
  rw [hv] at hv'
  cases hv'
  have hin := h.inner i _ hv
  obtain ⟨oa, cu, e⟩ := own_shape hin
  injection e with _ e2 _
  rw [← e2] at hin
  have h2 := (hin.stored k (.int .i64 z)).1
  rw [hr, List.length_set, ← e2]
  have e3 : cellsI ((rows i).set k z) = (cellsI (rows i)).set k (.int .i64 z) := by unfold cellsI; rw [List.map_set]
  rw [e3]; exact h2
theorem Fam.none (w : World) (tag : Nat → Nat) (t : Nat) (rows : Nat → List Int) : Fam w tag t cL (.slice none 0 0) 0 [] rows :=
  ⟨World.ownsRow_nil _ _ _ _, fun g e => by simp [Value.ownBlock] at e, fun j v hj => by simp at hj, fun j v g hj => by simp at hj⟩
theorem Rel.refl {w : World} {b : Nat} {e : TypeId} {size : Nat} {v : Value} {n : Nat} {xs : List Value} (h : w.ownsRow b e size v n xs) : Rel v v := fun g e1 _ => by
  rcases h.2 with ⟨rfl, _⟩ | ⟨g', cap, cur, rfl, _⟩
  · simp [Value.ownBlock] at e1
  · cases e1; exact ⟨n, n, cap, rfl, rfl⟩
theorem cellsI_snoc (l : List Int) (z : Int) : cellsI l ++ [.int .i64 z] = cellsI (l ++ [z]) := by simp [cellsI]
theorem take16 (k : Nat) (a z : Int) : (List.replicate k a ++ List.replicate 700 z).take (k + 16) = List.replicate k a ++ List.replicate 16 z := by
  rw [List.take_append, List.length_replicate, Nat.add_sub_cancel_left, List.take_of_length_le (by rw [List.length_replicate]; omega), List.take_replicate]
  congr 1
set_option maxRecDepth 100000 in
set_option maxHeartbeats 8000000 in
theorem closeInts (b : Nat) (tag : Nat → Nat) (w : World) (ov ow : Value) (m : Nat) (vs us : List Value) (rows : Nat → List Int) (N : Nat) (hk : Bk w b tag ov ow m vs us rows N) :
    Calls Tryz.prog 60 #[.pointer (some ⟨b, 0, none⟩)] w fun e w' => e = .returned (.bool true) ∧ (∃ o1 om, BoxB w' b ov ow o1 om N) ∧ Sm (· ≠ 0) tag w w' := by
  obtain ⟨iI, hiI, hzI0, hzI1, hzI2⟩ := info_parts infoI
  obtain ⟨iL, hiL, hzL0, hzL1, hzL2⟩ := info_parts infoL
  obtain ⟨hbx, hbt, hlive, hwant, hfresh, ⟨hN1, hN2⟩, hrow⟩ := hk
  have hm : m ≤ 1300000 := by omega
  have hrow' := hide' hrow
  have hfresh' := hide' hfresh
  have hlive0 : Hid (Fam w tag 2 cL ov m vs rows) := hlive
  have hbx' := hide' hbx
  clear hwant hlive hfresh hrow hN1 hN2
  obtain ⟨oa, cap, rfl⟩ := own_shape hlive0.out.outer
  have c4 := hbx.c4
  clear hbx
  go_enter Tryz.func60, Tryz.ntmps60
  go_wp2
  go_loopw [3] (fun i wr => ∃ (c : Nat), c ≤ m ∧ i = .int .i64 c ∧ BoxB wr b (.slice oa m cap) ow (.slice none 0 0) (.slice none 0 0) N ∧ Fam wr tag 2 cL (.slice oa m cap) m vs (rowsAt rows c 0) ∧ Sm (· ≠ 0) tag w wr) (fun i _ => ((m : Int) - intOf i).toNat)
  case atStart => exact ⟨0, Nat.zero_le _, rfl, hbx'.out, hlive0.out.congr (fun j _ => rowsAt_zero rows j), Sm.refl _ _ _⟩
  case round =>
    obtain ⟨c, hc, rfl, hb, hL, hS⟩ := hrel
    have d4 := hb.c4
    by_cases hlt : c < m
    · obtain ⟨g, cap2, e, _, _⟩ := hL.outer.form (by omega)
      obtain ⟨rfl, rfl⟩ : oa = some ⟨g, 0, none⟩ ∧ cap = cap2 := by injection e with h1 h2 h3; exact ⟨h1, h3⟩
      obtain ⟨v, hv⟩ : ∃ v, vs[c]? = some v := ⟨_, List.getElem?_eq_getElem (by rw [hL.len]; exact hlt)⟩
      have hin := hL.inner c v hv
      rw [rowsAt_len rows c 0 (Nat.zero_le _)] at hin
      have hnc := hrow'.out c hlt
      obtain ⟨ox, cx, rfl⟩ := own_shape hin
      have hv' := hide' hv
      have hL' := hide' hL
      have hb' := hide' hb
      have hS' := hide' hS
      obtain ⟨nc, hnc'⟩ : ∃ nc, (rows c).length = nc := ⟨_, rfl⟩
      rw [hnc'] at hnc hin hv'
      rw [hnc'] at hv
      have hnE := hide' hnc'
      clear hL hb hS e c4 hin hnc' hv
      go_wp2
      go_loopw [4] (fun k wr2 => ∃ (f : Nat), f ≤ nc ∧ k = .int .i64 f ∧ BoxB wr2 b (.slice (some ⟨g, 0, none⟩) m cap) ow (.slice none 0 0) (.slice none 0 0) N ∧ Fam wr2 tag 2 cL (.slice (some ⟨g, 0, none⟩) m cap) m vs (rowsAt rows c f) ∧ Sm (· ≠ 0) tag w wr2) (fun k _ => ((nc : Int) - intOf k).toNat)
      case atStart => exact ⟨0, Nat.zero_le _, rfl, hb'.out, hL'.out, hS'.out⟩
      case round =>
        clear hb' hL' hS' d4
        obtain ⟨f, hf, rfl, hb, hL, hS⟩ := hrel
        have d4 := hb.c4
        have cv : wr.cell? ⟨g, c, none⟩ = some (.slice ox nc cx) := by rw [hL.outer.cellAt c (by omega)]; exact hv'.out
        by_cases hflt : f < nc
        · have hin := hL.inner c _ hv'.out
          rw [rowsAt_len rows c f (by rw [hnE.out]; omega), hnE.out] at hin
          obtain ⟨gx, cx2, e, _, _⟩ := hin.form (by omega)
          obtain ⟨rfl, rfl⟩ : ox = some ⟨gx, 0, none⟩ ∧ cx = cx2 := by injection e with h1 h2 h3; exact ⟨h1, h3⟩
          obtain ⟨z, hz⟩ : ∃ z, (rowsAt rows c f c)[f]? = some z := ⟨_, List.getElem?_eq_getElem (by rw [rowsAt_len rows c f (by rw [hnE.out]; omega), hnE.out]; exact hflt)⟩
          have cz := cell_in hin hz
          have fz := hin.frozenAt f
          have hL' := hide' hL
          have hb' := hide' hb
          have hS' := hide' hS
          have ht : Hid (tag gx = cL c) := hL.itag c _ gx hv'.out rfl
          clear hL hb hS e hin hz
          go_wp2
          have s1 : Sm (· = cL c) tag wr (wr.setCell ⟨gx, f, none⟩ (.int .i64 (-1000 - (c : Int)))) := Sm.setCell _ ht.out
          exact ⟨⟨f + 1, by omega, by go_num, hb'.out.mv s1 (by rw [hbt]; unfold cL; omega), hL'.out.store hv'.out (rowsAt_set rows c f (by rw [hnE.out]; exact hflt)) (fun j _ hj => rowsAt_ne rows c f j hj), hS'.out.trans (s1.mono fun t et => by rw [et]; unfold cL; omega) (fun _ _ => rfl)⟩, by simp [intOf]; omega⟩
        · obtain rfl : f = nc := by omega
          have hL' := hide' hL
          have hb' := hide' hb
          have hS' := hide' hS
          clear hL hb hS
          go_wp2
          exact ⟨⟨c + 1, by omega, by go_num, hb'.out, hL'.out.congr (fun j _ => by rw [rowsAt_next, hnE.out]), hS'.out⟩, by simp [intOf]; omega⟩
    · obtain rfl : m = c := by omega
      have hP0 : Hid (PC w tag wr tag b (.slice oa m cap) ow (.slice none 0 0) (.slice none 0 0) N m vs (fun j => (rows j).length) 0 [] 0 []) :=
        ⟨hb, hbt, hL.congr (fun j hj => by show _ = rowsAt rows m 0 j; rw [rowsAt, if_pos hj]), Fam.none _ _ _ _, Fam.none _ _ _ _, fun j v v1 _ h => by simp at h, fun g hg => hfresh'.out g (by have := hS.size; omega), hS, fun _ _ => rfl⟩
      clear hL hb hS hlive0 hbx' c4 hfresh'
      generalize hnn : (fun j => (rows j).length) = n at hP0
      have hn : Hid (∀ j, j < m → n j ≤ 1000000) := fun j hj => by rw [← hnn]; exact hrow'.out j hj
      clear hnn hrow'
      go_wp2
      go_loopw [5] (fun i wr2 => ∃ (c : Nat) (tagr : Nat → Nat) (o1 : Value) (vs1 : List Value), c ≤ m ∧ i = .int .i64 c ∧ PC w tag wr2 tagr b (.slice oa m cap) ow o1 (.slice none 0 0) N m vs n c vs1 0 []) (fun i _ => ((m : Int) - intOf i).toNat)
      case atStart => exact ⟨0, tag, _, _, Nat.zero_le _, rfl, hP0.out⟩
      case round =>
        clear hP0 d4
        obtain ⟨c, tagr, o1, vs1, hc, rfl, hP⟩ := hrel
        have d4 := hP.box.c4
        by_cases hlt2 : c < m
        · obtain ⟨g, cap2, e, _, _⟩ := hP.live.outer.form (by omega)
          obtain ⟨rfl, rfl⟩ : oa = some ⟨g, 0, none⟩ ∧ cap = cap2 := by injection e with h1 h2 h3; exact ⟨h1, h3⟩
          obtain ⟨v, hv⟩ : ∃ v, vs[c]? = some v := ⟨_, List.getElem?_eq_getElem (by rw [hP.live.len]; exact hlt2)⟩
          have hin := hP.live.inner c v hv
          rw [List.length_replicate] at hin
          have cv : wr.cell? ⟨g, c, none⟩ = some v := by rw [hP.live.outer.cellAt c (by omega)]; exact hv
          have hnc := hn.out c hlt2
          obtain ⟨nc, hnc'⟩ : ∃ nc, n c = nc := ⟨_, rfl⟩
          rw [hnc'] at hnc hin
          obtain ⟨ox, cx, rfl⟩ := own_shape hin
          have hnE := hide' hnc'
          have hv' := hide' hv
          have hP' := hide' hP
          have hin' := hide' hin
          clear hnc' hv hP hin e
          go_wp2
          go_loopw [6, 7] (fun lv k wr2 => ∃ (f : Nat) (tag2 : Nat → Nat), f ≤ 16 ∧ k = .int .i64 f ∧ PC w tag wr2 tag2 b (.slice (some ⟨g, 0, none⟩) m cap) ow o1 (.slice none 0 0) N m vs n c vs1 0 [] ∧ wr2.ownsRow 0 3 1 lv (nc + f) (cellsI (List.replicate nc (mkA c) ++ List.replicate f (mkB c))) ∧ (∀ q, lv.ownBlock = some q → tag2 q = cL c) ∧ Rel (.slice ox nc cx) lv) (fun _ k _ => ((16 : Int) - intOf k).toNat)
          case atStart => exact ⟨0, tagr, by decide, rfl, hP'.out, by simpa using hin'.out, fun q hq => hP'.out.live.itag c _ q hv'.out hq, Rel.refl hin'.out⟩
          case round =>
            clear hP' hin' d4 cv
            obtain ⟨f, tag2, hf, rfl, hP, hrow, hltg, hrel2⟩ := hrel
            have hP' := hide' hP
            have hrow' := hide' hrow
            have hltg' := hide' hltg
            have hrel2' := hide' hrel2
            by_cases hflt : f < 16
            · obtain ⟨ol, cl, rfl⟩ := own_shape hrow
              clear hP hrow hltg hrel2
              go_wp2_with (at_builtin; go_loud (refine wpList_append_two _ rfl _ _ 48 rfl 0 3 iI (.int .i64 0) 1 8 Tryz.underlying48 hiI hzI0 hzI1 hzI2 rfl (by decide) (.slice ol (nc + f) cl) (nc + f) (cellsI (List.replicate nc (mkA c) ++ List.replicate f (mkB c))) rfl (hrow'.out.alloc _) ⟨wr.heap.size, 0, none⟩ 1 1 [.int .i64 (-5000000 - (c : Int))] rfl rfl (cell_one_new _ _ _) (by simp [Value.oneCell']) (by decide) (by unfold maxLen; omega) (by omega) (Nat.zero_le _) ?_); intro g5 cap5 w5 hnew5 hold5 hat5)
              have hnew6 : w5.ownsRow 0 3 1 (.slice (some ⟨g5, 0, none⟩) (nc + (f + 1)) cap5) (nc + (f + 1)) (cellsI (List.replicate nc (mkA c) ++ List.replicate (f + 1) (mkB c))) := by
                have h := hnew5
                rw [show (-5000000 - (c : Int)) = mkB c from rfl, cellsI_snoc, List.append_assoc, ← List.replicate_succ'] at h
                exact h
              obtain ⟨tag3, hP3, ht3, hr3, _⟩ := (hP'.out.alloc _).grow hv'.out hltg'.out hrel2'.out hnew6 hat5 (by rw [hnE.out]; omega) (by rw [hnE.out]; exact List.take_left' (List.length_replicate ..)) (fun u hu => by rw [hP'.out.lenO c (Nat.le_refl _)] at hu; cases hu) (Nat.zero_le _)
              exact ⟨⟨f + 1, tag3, by omega, by go_num, hP3, hnew6, fun q hq => by cases hq; exact ht3, hr3⟩, by simp [intOf]; omega⟩
            · obtain rfl : f = 16 := by omega
              have d6 := hP.box.c6
              obtain ⟨ol, cl, rfl⟩ := own_shape hrow
              clear hP hrow hltg hrel2
              go_wp2_with (at_builtin; go_loud (refine wpList_append_two _ rfl _ _ 55 rfl 0 48 iL (.slice none 0 0) 1 24 Tryz.underlying55 hiL hzL0 hzL1 hzL2 rfl (by decide) o1 c vs1 rfl (hP'.out.one.outer.alloc _) ⟨wr.heap.size, 0, none⟩ 1 1 [.slice ol (nc + 16) cl] rfl rfl (cell_one_new _ _ _) (by simp [Value.oneCell']) (by decide) (by unfold maxLen; omega) (by omega) (Nat.zero_le _) ?_); intro g6 cap6 w6 hnew6 hold6 hat6; have hb6 := hide' ((hP'.out.alloc _).boxO hat6); have c66 := hb6.out.c6; have f66 := hb6.out.fz 6)
              obtain ⟨tag3, hP3⟩ := (hP'.out.alloc _).push1 hv'.out hrel2'.out hltg'.out (by unfold grA; rw [hnE.out]; exact hrow'.out.alloc _) hnew6 hold6 hat6
              exact ⟨⟨c + 1, tag3, _, _, by omega, by go_num, hP3⟩, by simp [intOf]; omega⟩
        · obtain rfl : m = c := by omega
          have d6 := hP.box.c6
          have KL := hide' (lookInts b wr tagr _ ow o1 (.slice none 0 0) o1 N m 4 16 cL n vs vs1 hP.box hP.live hP.one hm hn.out (by decide))
          have hP' := hide' hP
          clear hP
          go_wp2_with (go_at_call 80; refine KL.out.mono ?_; rintro e w7 ⟨rfl, hw7⟩; obtain rfl : wr = w7 := hw7.symm)
          go_loopw [8] (fun i wr2 => ∃ (c : Nat) (tagr : Nat → Nat) (om : Value) (vs2 : List Value), c ≤ m ∧ i = .int .i64 c ∧ PC w tag wr2 tagr b (.slice oa m cap) ow o1 om N m vs n m vs1 c vs2) (fun i _ => ((m : Int) - intOf i).toNat)
          case atStart => exact ⟨0, tagr, _, _, Nat.zero_le _, rfl, hP'.out⟩
          case round =>
            clear hP' d4 d6 KL
            obtain ⟨c, tagr, om, vs2, hc2, rfl, hP⟩ := hrel
            have d4 := hP.box.c4
            by_cases hlt3 : c < m
            · obtain ⟨g, cap2, e, _, _⟩ := hP.live.outer.form (by omega)
              obtain ⟨rfl, rfl⟩ : oa = some ⟨g, 0, none⟩ ∧ cap = cap2 := by injection e with h1 h2 h3; exact ⟨h1, h3⟩
              obtain ⟨v, hv⟩ : ∃ v, vs[c]? = some v := ⟨_, List.getElem?_eq_getElem (by rw [hP.live.len]; exact hlt3)⟩
              have hin := hP.live.inner c v hv
              rw [List.length_replicate] at hin
              have hnc := hn.out c hlt3
              obtain ⟨nc, hnc'⟩ : ∃ nc, n c = nc := ⟨_, rfl⟩
              rw [hnc'] at hnc hin
              obtain ⟨ox, cx, rfl⟩ := own_shape hin
              have hnE := hide' hnc'
              have hv' := hide' hv
              have hP' := hide' hP
              clear hnc' hv hP hin e
              obtain ⟨wr0, e0⟩ : ∃ x, x = wr := ⟨_, rfl⟩
              subst e0
              go_wp2
              go_loopw [9, 10] (fun mv k wr2 => ∃ (f : Nat), f ≤ 700 ∧ k = .int .i64 f ∧ wr2.ownsRow wr0.heap.size 3 1 mv f (cellsI (List.replicate f (mkB c))) ∧ Below wr0.heap.size wr0 wr2) (fun _ k _ => ((700 : Int) - intOf k).toNat)
              case atStart => exact ⟨0, by decide, rfl, World.ownsRow_nil _ _ _ _, Below.refl _ _⟩
              case round =>
                obtain ⟨f, hf, rfl, hrow, hB⟩ := hrel
                have hrow' := hide' hrow
                have hB' := hide' hB
                have hBs := hB.size
                by_cases hflt : f < 700
                · obtain ⟨ol, cl, rfl⟩ := own_shape hrow
                  clear hrow hB
                  go_wp2_with (at_builtin; go_loud (refine wpList_append_two _ rfl _ _ 48 rfl wr0.heap.size 3 iI (.int .i64 0) 1 8 Tryz.underlying48 hiI hzI0 hzI1 hzI2 rfl (by decide) (.slice ol f cl) f (cellsI (List.replicate f (mkB c))) rfl (hrow'.out.alloc _) ⟨wr.heap.size, 0, none⟩ 1 1 [.int .i64 (-5000000 - (c : Int))] rfl rfl (cell_one_new _ _ _) (by simp [Value.oneCell']) (by decide) (by unfold maxLen; omega) (by omega) (by simp; omega) ?_); intro g5 cap5 w5 hnew5 hold5 hat5)
                  have hnew6 : w5.ownsRow wr0.heap.size 3 1 (.slice (some ⟨g5, 0, none⟩) (f + 1) cap5) (f + 1) (cellsI (List.replicate (f + 1) (mkB c))) := by
                    have h := hnew5
                    rw [show (-5000000 - (c : Int)) = mkB c from rfl, cellsI_snoc, ← List.replicate_succ'] at h
                    exact h
                  have hB6 : Below wr0.heap.size wr0 w5 := by
                    have hBa := hB'.out.alloc hBs (.cells #[.int .i64 (-5000000 - (c : Int))] 3)
                    rcases hat5 with ⟨e, hg⟩ | ⟨_, hg⟩
                    · exact hBa.grown hg hBa.size (fun k ek => by cases ek; exact (hnew5.lt g5 rfl).1)
                    · exact hBa.grown hg hBa.size (fun k ek => by cases ek)
                  exact ⟨⟨f + 1, by omega, by go_num, hnew6, hB6⟩, by simp [intOf]; omega⟩
                · obtain rfl : f = 700 := by omega
                  have hP2 := hide' (hP'.out.below hB)
                  obtain ⟨gm, cm, rfl, _, _⟩ := hrow.form (by decide)
                  have c4a := hP2.out.drew.box.c4
                  have c7a := hP2.out.drew.box.c7
                  have cva : wr.drew.cell? ⟨g, c, none⟩ = some (.slice ox nc cx) := by rw [hP2.out.drew.live.outer.cellAt c (by omega)]; exact hv'.out
                  have hin : Hid (wr.drew.ownsRow 0 3 1 (.slice ox nc cx) nc (cellsI (List.replicate nc (mkA c)))) := by
                    have h := hP2.out.drew.live.inner c _ hv'.out
                    rwa [List.length_replicate, hnE.out] at h
                  have hnews : Hid (∀ j u, (cellsI (List.replicate 700 (mkB c)))[j]? = some u → wr.drew.cell? (Addr.add ⟨gm, 0, none⟩ j) = some u) := hrow.cells rfl
                  have hlen7 : Hid ((cellsI (List.replicate 700 (mkB c))).length = 700 * 1) := by show _ = _; rw [cellsI_len, List.length_replicate]
                  generalize hL7 : cellsI (List.replicate 700 (mkB c)) = L7 at *
                  have hone7 : Hid (∀ u ∈ L7, u.oneCell' = true) := by rw [← hL7]; exact one_cells _
                  have hL7' := hide' hL7
                  clear hP' hrow hB hrow' hB' hL7 d4
                  go_wp2
                  refine wp_region_held_drew (S := (fun _ => True)) (by kernel_rfl) ?_ (fun hHeld => ?_)
                  · trivial
                  refine wpAnyH_take (i := 0) (oi := { dst := some 103, op := Op.move (Operand.tmp 0), type := 53, pos := "keep.go:143", after := #[], guard := none }) (v := ?_) rfl (by kernel_rfl) (by kernel_rfl) (by kernel_rfl) (fun _ _ _ h => h) (Or.inl ⟨by rfl, ?_⟩) (by assumption) ?_
                  rotate_left
                  · intro w hSw; (try dsimp only at hSw); go_simp <;> with_reducible rfl
                  simp only [Act.put, List.setIfInBounds_toArray, List.set_cons_zero, List.set_cons_succ]
                  refine wpAnyH_take (i := 1) (oi := { dst := some 104, op := Op.move (Operand.tmp 0), type := 53, pos := "keep.go:143", after := #[], guard := none }) (v := ?_) rfl (by kernel_rfl) (by kernel_rfl) (by kernel_rfl) (fun _ _ _ h => h) (Or.inl ⟨by rfl, ?_⟩) (by assumption) ?_
                  rotate_left
                  · intro w hSw; (try dsimp only at hSw); go_simp <;> with_reducible rfl
                  simp only [Act.put, List.setIfInBounds_toArray, List.set_cons_zero, List.set_cons_succ]
                  refine wpAnyH_take (i := 2) (oi := { dst := some 105, op := Op.nilCheck (Operand.tmp 104), type := 0, pos := "keep.go:143", after := #[{ on := 1, ground := Ground.data }], guard := none }) (v := ?_) rfl (by kernel_rfl) (by kernel_rfl) (by kernel_rfl) (fun _ _ _ h => h) (Or.inl ⟨by rfl, ?_⟩) (by assumption) ?_
                  rotate_left
                  · intro w hSw; (try dsimp only at hSw); go_simp <;> with_reducible rfl
                  simp only [Act.put, List.setIfInBounds_toArray, List.set_cons_zero, List.set_cons_succ]
                  refine wpAnyH_take (i := 3) (oi := { dst := some 106, op := Op.fieldAddr 58 (Operand.tmp 105) 7, type := 0, pos := "keep.go:143", after := #[{ on := 2, ground := Ground.data }], guard := none }) (v := ?_) rfl (by kernel_rfl) (by kernel_rfl) (by kernel_rfl) (fun _ _ _ h => h) (Or.inl ⟨by rfl, ?_⟩) (by assumption) ?_
                  rotate_left
                  · intro w hSw; (try dsimp only at hSw); go_simp <;> with_reducible rfl
                  simp only [Act.put, List.setIfInBounds_toArray, List.set_cons_zero, List.set_cons_succ]
                  refine wpAnyH_take (i := 5) (oi := { dst := some 108, op := Op.move (Operand.tmp 0), type := 53, pos := "keep.go:143", after := #[], guard := none }) (v := ?_) rfl (by kernel_rfl) (by kernel_rfl) (by kernel_rfl) (fun _ _ _ h => h) (Or.inl ⟨by rfl, ?_⟩) (by assumption) ?_
                  rotate_left
                  · intro w hSw; (try dsimp only at hSw); go_simp <;> with_reducible rfl
                  simp only [Act.put, List.setIfInBounds_toArray, List.set_cons_zero, List.set_cons_succ]
                  refine wpAnyH_take (i := 6) (oi := { dst := some 109, op := Op.nilCheck (Operand.tmp 108), type := 0, pos := "keep.go:143", after := #[{ on := 5, ground := Ground.data }], guard := none }) (v := ?_) rfl (by kernel_rfl) (by kernel_rfl) (by kernel_rfl) (fun _ _ _ h => h) (Or.inl ⟨by rfl, ?_⟩) (by assumption) ?_
                  rotate_left
                  · intro w hSw; (try dsimp only at hSw); go_simp <;> with_reducible rfl
                  simp only [Act.put, List.setIfInBounds_toArray, List.set_cons_zero, List.set_cons_succ]
                  refine wpAnyH_take (i := 7) (oi := { dst := some 110, op := Op.fieldAddr 58 (Operand.tmp 109) 4, type := 0, pos := "keep.go:143", after := #[{ on := 6, ground := Ground.data }], guard := none }) (v := ?_) rfl (by kernel_rfl) (by kernel_rfl) (by kernel_rfl) (fun _ _ _ h => h) (Or.inl ⟨by rfl, ?_⟩) (by assumption) ?_
                  rotate_left
                  · intro w hSw; (try dsimp only at hSw); go_simp <;> with_reducible rfl
                  simp only [Act.put, List.setIfInBounds_toArray, List.set_cons_zero, List.set_cons_succ]
                  refine wpAnyH_take (i := 9) (oi := { dst := some 112, op := Op.move (Operand.tmp 8), type := 3, pos := "keep.go:143", after := #[], guard := none }) (v := ?_) rfl (by kernel_rfl) (by kernel_rfl) (by kernel_rfl) (fun _ _ _ h => h) (Or.inl ⟨by rfl, ?_⟩) (by assumption) ?_
                  rotate_left
                  · intro w hSw; (try dsimp only at hSw); go_simp <;> with_reducible rfl
                  simp only [Act.put, List.setIfInBounds_toArray, List.set_cons_zero, List.set_cons_succ]
                  refine wpAnyH_take (i := 12) (oi := { dst := some 115, op := Op.move (Operand.tmp 9), type := 48, pos := "keep.go:143", after := #[], guard := none }) (v := ?_) rfl (by kernel_rfl) (by kernel_rfl) (by kernel_rfl) (fun _ _ _ h => h) (Or.inl ⟨by rfl, ?_⟩) (by assumption) ?_
                  rotate_left
                  · intro w hSw; (try dsimp only at hSw); go_simp <;> with_reducible rfl
                  simp only [Act.put, List.setIfInBounds_toArray, List.set_cons_zero, List.set_cons_succ]
                  refine wpAnyH_ready (rs := [4, 8]) (by kernel_rfl) (by simp) ?_
                  refine AllReadyH.cons (o := { dst := some 107, op := Op.load 55 (Operand.tmp 106), type := 55, pos := "keep.go:143", after := #[{ on := 3, ground := Ground.data }], guard := none }) rfl (fun K hK => ?_) ?_
                  · skip
                    go_simp
                    refine hK.out _ _ ?_ (fun hHeld => ?_)
                    · trivial
                    clear hK K
                    try simp only [Act.put, List.setIfInBounds_toArray, List.set_cons_zero, List.set_cons_succ]
                    refine wpAnyH_ready (rs := [8]) (by kernel_rfl) (by simp) ?_
                    refine AllReadyH.cons (o := { dst := some 111, op := Op.load 55 (Operand.tmp 110), type := 55, pos := "keep.go:143", after := #[{ on := 7, ground := Ground.data }], guard := none }) rfl (fun K hK => ?_) AllReadyH.nil
                    go_simp
                    refine hK.out _ _ ?_ (fun hHeld => ?_)
                    · trivial
                    clear hK K
                    try simp only [Act.put, List.setIfInBounds_toArray, List.set_cons_zero, List.set_cons_succ]
                    refine wpAnyH_take (i := 10) (oi := { dst := some 113, op := Op.indexAddr 55 (Operand.tmp 111) (Operand.tmp 112), type := 0, pos := "keep.go:143", after := #[{ on := 8, ground := Ground.data }, { on := 9, ground := Ground.data }], guard := none }) (v := ?_) rfl (by kernel_rfl) (by kernel_rfl) (by kernel_rfl) (fun _ _ _ h => h) (Or.inl ⟨by rfl, ?_⟩) (by assumption) ?_
                    rotate_left
                    · intro w hSw; (try dsimp only at hSw); go_simp <;> with_reducible rfl
                    simp only [Act.put, List.setIfInBounds_toArray, List.set_cons_zero, List.set_cons_succ]
                    refine wpAnyH_ready (rs := [11]) (by kernel_rfl) (by simp) ?_
                    refine AllReadyH.cons (o := { dst := some 114, op := Op.load 48 (Operand.tmp 113), type := 48, pos := "keep.go:143", after := #[{ on := 10, ground := Ground.data }], guard := none }) rfl (fun K hK => ?_) AllReadyH.nil
                    go_simp
                    refine hK.out _ _ ?_ (fun hHeld => ?_)
                    · trivial
                    clear hK K
                    try simp only [Act.put, List.setIfInBounds_toArray, List.set_cons_zero, List.set_cons_succ]
                    refine wpAnyH_ready (rs := [13]) (by kernel_rfl) (by simp) ?_
                    refine AllReadyH.cons (o := { dst := some 116, op := Op.call { callee := Callee.builtin Builtin.append, args := #[Operand.tmp 114, Operand.tmp 115], argTypes := #[48, 48] }, type := 48, pos := "keep.go:143", after := #[{ on := 11, ground := Ground.data }, { on := 12, ground := Ground.data }], guard := none }) rfl (fun K hK => ?_) AllReadyH.nil
                    rw [if_pos (by rfl)]
                    refine wp_append_two _ (.tmp 114) (.tmp 115) 48 rfl 0 3 iI (.int .i64 0) 1 8 Tryz.underlying48 hiI hzI0 hzI1 hzI2 rfl (by decide) (.slice ox nc cx) nc (cellsI (List.replicate nc (mkA c))) rfl hin.out ⟨gm, 0, none⟩ 700 cm L7 rfl hlen7.out hnews.out hone7.out (by decide) (by unfold maxLen; omega) (by omega) (Nat.zero_le _) ?_; intro g5 cap5 w5 hnew5 hold5 hat5; have hnew5' : Hid (w5.ownsRow 0 3 1 (.slice (some ⟨g5, 0, none⟩) (nc + 700) cap5) (nc + 700) (cellsI (List.replicate nc (mkA c) ++ List.replicate 700 (mkB c)))) := (by have h := hnew5; rw [← hL7'.out] at h; unfold cellsI at h ⊢; rw [List.map_append]; exact h); clear hnew5; obtain ⟨tag5, hP5, ht5, hr5, _⟩ := hP2.out.drew.grow hv'.out (fun k ek => hP2.out.live.itag c _ k hv'.out ek) (Rel.refl hin.out) hnew5'.out hat5 (by rw [hnE.out]; omega) (by rw [hnE.out]; exact List.take_left' (List.length_replicate ..)) (fun u hu => ⟨(hP2.out.rel c _ u hv'.out hu).symm, by rw [hnE.out]; omega, by unfold grA; rw [hnE.out]; exact take16 _ _ _⟩) (Nat.le_refl _); have hP5' := hide' hP5; have ht5' := hide' ht5; clear hP5 hold5 hat5 hr5 ht5; have c7b := hP5'.out.box.c7; have c7c := (hP5'.out.alloc (.cells #[.slice (some ⟨g5, 0, none⟩) (nc + 700) cap5] 48)).box.c7; (try dsimp only)
                    refine hK.out _ _ ?_ (fun hHeld => ?_)
                    · trivial
                    clear hK K
                    try simp only [Act.put, List.setIfInBounds_toArray, List.set_cons_zero, List.set_cons_succ]
                    refine wpAnyH_ready (rs := [14]) (by kernel_rfl) (by simp) ?_
                    refine AllReadyH.cons (o := { dst := some 117, op := Op.buildSlice 55 1 #[(0, Operand.tmp 116)], type := 55, pos := "keep.go:143", after := #[{ on := 13, ground := Ground.data }], guard := none }) rfl (fun K hK => ?_) AllReadyH.nil
                    go_simp
                    refine hK.out _ _ ?_ (fun hHeld => ?_)
                    · trivial
                    clear hK K
                    try simp only [Act.put, List.setIfInBounds_toArray, List.set_cons_zero, List.set_cons_succ]
                    refine wpAnyH_ready (rs := [15]) (by kernel_rfl) (by simp) ?_
                    refine AllReadyH.cons (o := { dst := some 118, op := Op.call { callee := Callee.builtin Builtin.append, args := #[Operand.tmp 107, Operand.tmp 117], argTypes := #[55, 55] }, type := 55, pos := "keep.go:143", after := #[{ on := 4, ground := Ground.data }, { on := 14, ground := Ground.data }, { on := 13, ground := Ground.chain }], guard := none }) rfl (fun K hK => ?_) AllReadyH.nil
                    rw [if_pos (by rfl)]
                    refine wp_append_two _ (.tmp 107) (.tmp 117) 55 rfl 0 48 iL (.slice none 0 0) 1 24 Tryz.underlying55 hiL hzL0 hzL1 hzL2 rfl (by decide) om c vs2 rfl (hP5'.out.many.outer.alloc _) ⟨w5.heap.size, 0, none⟩ 1 1 [.slice (some ⟨g5, 0, none⟩) (nc + 700) cap5] rfl rfl (cell_one_new _ _ _) (by simp [Value.oneCell']) (by decide) (by unfold maxLen; omega) (by omega) (Nat.zero_le _) ?_; intro g6 cap6 w6 hnew6 hold6 hat6; have hb6 := hide' ((hP5'.out.alloc _).boxM hat6); have c66 := hb6.out.c7; have f66 := hb6.out.fz 7; (try dsimp only)
                    refine hK.out _ _ ?_ (fun hHeld => ?_)
                    · trivial
                    clear hK K
                    try simp only [Act.put, List.setIfInBounds_toArray, List.set_cons_zero, List.set_cons_succ]
                    refine wpAnyH_take (i := 16) (oi := { dst := some 119, op := Op.nilCheck (Operand.tmp 103), type := 0, pos := "keep.go:143", after := #[{ on := 0, ground := Ground.data }, { on := 0, ground := Ground.phase }, { on := 1, ground := Ground.phase }, { on := 2, ground := Ground.phase }, { on := 3, ground := Ground.phase }, { on := 4, ground := Ground.phase }, { on := 5, ground := Ground.phase }, { on := 6, ground := Ground.phase }, { on := 7, ground := Ground.phase }, { on := 8, ground := Ground.phase }, { on := 9, ground := Ground.phase }, { on := 10, ground := Ground.phase }, { on := 11, ground := Ground.phase }, { on := 12, ground := Ground.phase }, { on := 13, ground := Ground.phase }, { on := 14, ground := Ground.phase }, { on := 15, ground := Ground.phase }], guard := none }) (v := ?_) rfl (by kernel_rfl) (by kernel_rfl) (by kernel_rfl) (fun _ _ _ h => h) (Or.inl ⟨by rfl, ?_⟩) (by assumption) ?_
                    rotate_left
                    · intro w hSw; (try dsimp only at hSw); go_simp <;> with_reducible rfl
                    simp only [Act.put, List.setIfInBounds_toArray, List.set_cons_zero, List.set_cons_succ]
                    refine wpAnyH_take (i := 17) (oi := { dst := some 120, op := Op.fieldAddr 58 (Operand.tmp 119) 7, type := 0, pos := "keep.go:143", after := #[{ on := 16, ground := Ground.data }, { on := 0, ground := Ground.phase }, { on := 1, ground := Ground.phase }, { on := 2, ground := Ground.phase }, { on := 3, ground := Ground.phase }, { on := 4, ground := Ground.phase }, { on := 5, ground := Ground.phase }, { on := 6, ground := Ground.phase }, { on := 7, ground := Ground.phase }, { on := 8, ground := Ground.phase }, { on := 9, ground := Ground.phase }, { on := 10, ground := Ground.phase }, { on := 11, ground := Ground.phase }, { on := 12, ground := Ground.phase }, { on := 13, ground := Ground.phase }, { on := 14, ground := Ground.phase }, { on := 15, ground := Ground.phase }], guard := none }) (v := ?_) rfl (by kernel_rfl) (by kernel_rfl) (by kernel_rfl) (fun _ _ _ h => h) (Or.inl ⟨by rfl, ?_⟩) (by assumption) ?_
                    rotate_left
                    · intro w hSw; (try dsimp only at hSw); go_simp <;> with_reducible rfl
                    simp only [Act.put, List.setIfInBounds_toArray, List.set_cons_zero, List.set_cons_succ]
                    refine wpAnyH_ready (rs := [18]) (by kernel_rfl) (by simp) ?_
                    refine AllReadyH.cons (o := { dst := none, op := Op.store 55 (Operand.tmp 120) (Operand.tmp 118), type := 0, pos := "keep.go:143", after := #[{ on := 17, ground := Ground.data }, { on := 15, ground := Ground.data }, { on := 15, ground := Ground.chain }, { on := 0, ground := Ground.phase }, { on := 1, ground := Ground.phase }, { on := 2, ground := Ground.phase }, { on := 3, ground := Ground.phase }, { on := 4, ground := Ground.phase }, { on := 5, ground := Ground.phase }, { on := 6, ground := Ground.phase }, { on := 7, ground := Ground.phase }, { on := 8, ground := Ground.phase }, { on := 9, ground := Ground.phase }, { on := 10, ground := Ground.phase }, { on := 11, ground := Ground.phase }, { on := 12, ground := Ground.phase }, { on := 13, ground := Ground.phase }, { on := 14, ground := Ground.phase }, { on := 15, ground := Ground.phase }], guard := none }) rfl (fun K hK => ?_) AllReadyH.nil
                    go_simp
                    refine hK.out _ _ ?_ (fun hHeld => ?_)
                    · trivial
                    clear hK K
                    try simp only [Act.put, List.setIfInBounds_toArray, List.set_cons_zero, List.set_cons_succ]
                    refine wpAnyH_done (by kernel_rfl) ?_ _
                    skip
                    go_wp2
                    obtain ⟨tag6, hP6⟩ := (hP5'.out.alloc _).push2 (fun k ek => by cases ek; exact ht5'.out) (by unfold grA; rw [hnE.out]; exact hnew5'.out.alloc _) hnew6 hold6 hat6
                    exact ⟨⟨c + 1, tag6, _, _, by omega, by go_num, hP6⟩, by simp [intOf]; omega⟩
                  refine AllReadyH.cons (o := { dst := some 111, op := Op.load 55 (Operand.tmp 110), type := 55, pos := "keep.go:143", after := #[{ on := 7, ground := Ground.data }], guard := none }) rfl (fun K hK => ?_) AllReadyH.nil
                  go_simp
                  refine hK.out _ _ ?_ (fun hHeld => ?_)
                  · trivial
                  clear hK K
                  try simp only [Act.put, List.setIfInBounds_toArray, List.set_cons_zero, List.set_cons_succ]
                  refine wpAnyH_take (i := 10) (oi := { dst := some 113, op := Op.indexAddr 55 (Operand.tmp 111) (Operand.tmp 112), type := 0, pos := "keep.go:143", after := #[{ on := 8, ground := Ground.data }, { on := 9, ground := Ground.data }], guard := none }) (v := ?_) rfl (by kernel_rfl) (by kernel_rfl) (by kernel_rfl) (fun _ _ _ h => h) (Or.inl ⟨by rfl, ?_⟩) (by assumption) ?_
                  rotate_left
                  · intro w hSw; (try dsimp only at hSw); go_simp <;> with_reducible rfl
                  simp only [Act.put, List.setIfInBounds_toArray, List.set_cons_zero, List.set_cons_succ]
                  refine wpAnyH_ready (rs := [4, 11]) (by kernel_rfl) (by simp) ?_
                  refine AllReadyH.cons (o := { dst := some 107, op := Op.load 55 (Operand.tmp 106), type := 55, pos := "keep.go:143", after := #[{ on := 3, ground := Ground.data }], guard := none }) rfl (fun K hK => ?_) ?_
                  · skip
                    go_simp
                    refine hK.out _ _ ?_ (fun hHeld => ?_)
                    · trivial
                    clear hK K
                    try simp only [Act.put, List.setIfInBounds_toArray, List.set_cons_zero, List.set_cons_succ]
                    refine wpAnyH_ready (rs := [11]) (by kernel_rfl) (by simp) ?_
                    refine AllReadyH.cons (o := { dst := some 114, op := Op.load 48 (Operand.tmp 113), type := 48, pos := "keep.go:143", after := #[{ on := 10, ground := Ground.data }], guard := none }) rfl (fun K hK => ?_) AllReadyH.nil
                    go_simp
                    refine hK.out _ _ ?_ (fun hHeld => ?_)
                    · trivial
                    clear hK K
                    try simp only [Act.put, List.setIfInBounds_toArray, List.set_cons_zero, List.set_cons_succ]
                    refine wpAnyH_ready (rs := [13]) (by kernel_rfl) (by simp) ?_
                    refine AllReadyH.cons (o := { dst := some 116, op := Op.call { callee := Callee.builtin Builtin.append, args := #[Operand.tmp 114, Operand.tmp 115], argTypes := #[48, 48] }, type := 48, pos := "keep.go:143", after := #[{ on := 11, ground := Ground.data }, { on := 12, ground := Ground.data }], guard := none }) rfl (fun K hK => ?_) AllReadyH.nil
                    rw [if_pos (by rfl)]
                    refine wp_append_two _ (.tmp 114) (.tmp 115) 48 rfl 0 3 iI (.int .i64 0) 1 8 Tryz.underlying48 hiI hzI0 hzI1 hzI2 rfl (by decide) (.slice ox nc cx) nc (cellsI (List.replicate nc (mkA c))) rfl hin.out ⟨gm, 0, none⟩ 700 cm L7 rfl hlen7.out hnews.out hone7.out (by decide) (by unfold maxLen; omega) (by omega) (Nat.zero_le _) ?_; intro g5 cap5 w5 hnew5 hold5 hat5; have hnew5' : Hid (w5.ownsRow 0 3 1 (.slice (some ⟨g5, 0, none⟩) (nc + 700) cap5) (nc + 700) (cellsI (List.replicate nc (mkA c) ++ List.replicate 700 (mkB c)))) := (by have h := hnew5; rw [← hL7'.out] at h; unfold cellsI at h ⊢; rw [List.map_append]; exact h); clear hnew5; obtain ⟨tag5, hP5, ht5, hr5, _⟩ := hP2.out.drew.grow hv'.out (fun k ek => hP2.out.live.itag c _ k hv'.out ek) (Rel.refl hin.out) hnew5'.out hat5 (by rw [hnE.out]; omega) (by rw [hnE.out]; exact List.take_left' (List.length_replicate ..)) (fun u hu => ⟨(hP2.out.rel c _ u hv'.out hu).symm, by rw [hnE.out]; omega, by unfold grA; rw [hnE.out]; exact take16 _ _ _⟩) (Nat.le_refl _); have hP5' := hide' hP5; have ht5' := hide' ht5; clear hP5 hold5 hat5 hr5 ht5; have c7b := hP5'.out.box.c7; have c7c := (hP5'.out.alloc (.cells #[.slice (some ⟨g5, 0, none⟩) (nc + 700) cap5] 48)).box.c7; (try dsimp only)
                    refine hK.out _ _ ?_ (fun hHeld => ?_)
                    · trivial
                    clear hK K
                    try simp only [Act.put, List.setIfInBounds_toArray, List.set_cons_zero, List.set_cons_succ]
                    refine wpAnyH_ready (rs := [14]) (by kernel_rfl) (by simp) ?_
                    refine AllReadyH.cons (o := { dst := some 117, op := Op.buildSlice 55 1 #[(0, Operand.tmp 116)], type := 55, pos := "keep.go:143", after := #[{ on := 13, ground := Ground.data }], guard := none }) rfl (fun K hK => ?_) AllReadyH.nil
                    go_simp
                    refine hK.out _ _ ?_ (fun hHeld => ?_)
                    · trivial
                    clear hK K
                    try simp only [Act.put, List.setIfInBounds_toArray, List.set_cons_zero, List.set_cons_succ]
                    refine wpAnyH_ready (rs := [15]) (by kernel_rfl) (by simp) ?_
                    refine AllReadyH.cons (o := { dst := some 118, op := Op.call { callee := Callee.builtin Builtin.append, args := #[Operand.tmp 107, Operand.tmp 117], argTypes := #[55, 55] }, type := 55, pos := "keep.go:143", after := #[{ on := 4, ground := Ground.data }, { on := 14, ground := Ground.data }, { on := 13, ground := Ground.chain }], guard := none }) rfl (fun K hK => ?_) AllReadyH.nil
                    rw [if_pos (by rfl)]
                    refine wp_append_two _ (.tmp 107) (.tmp 117) 55 rfl 0 48 iL (.slice none 0 0) 1 24 Tryz.underlying55 hiL hzL0 hzL1 hzL2 rfl (by decide) om c vs2 rfl (hP5'.out.many.outer.alloc _) ⟨w5.heap.size, 0, none⟩ 1 1 [.slice (some ⟨g5, 0, none⟩) (nc + 700) cap5] rfl rfl (cell_one_new _ _ _) (by simp [Value.oneCell']) (by decide) (by unfold maxLen; omega) (by omega) (Nat.zero_le _) ?_; intro g6 cap6 w6 hnew6 hold6 hat6; have hb6 := hide' ((hP5'.out.alloc _).boxM hat6); have c66 := hb6.out.c7; have f66 := hb6.out.fz 7; (try dsimp only)
                    refine hK.out _ _ ?_ (fun hHeld => ?_)
                    · trivial
                    clear hK K
                    try simp only [Act.put, List.setIfInBounds_toArray, List.set_cons_zero, List.set_cons_succ]
                    refine wpAnyH_take (i := 16) (oi := { dst := some 119, op := Op.nilCheck (Operand.tmp 103), type := 0, pos := "keep.go:143", after := #[{ on := 0, ground := Ground.data }, { on := 0, ground := Ground.phase }, { on := 1, ground := Ground.phase }, { on := 2, ground := Ground.phase }, { on := 3, ground := Ground.phase }, { on := 4, ground := Ground.phase }, { on := 5, ground := Ground.phase }, { on := 6, ground := Ground.phase }, { on := 7, ground := Ground.phase }, { on := 8, ground := Ground.phase }, { on := 9, ground := Ground.phase }, { on := 10, ground := Ground.phase }, { on := 11, ground := Ground.phase }, { on := 12, ground := Ground.phase }, { on := 13, ground := Ground.phase }, { on := 14, ground := Ground.phase }, { on := 15, ground := Ground.phase }], guard := none }) (v := ?_) rfl (by kernel_rfl) (by kernel_rfl) (by kernel_rfl) (fun _ _ _ h => h) (Or.inl ⟨by rfl, ?_⟩) (by assumption) ?_
                    rotate_left
                    · intro w hSw; (try dsimp only at hSw); go_simp <;> with_reducible rfl
                    simp only [Act.put, List.setIfInBounds_toArray, List.set_cons_zero, List.set_cons_succ]
                    refine wpAnyH_take (i := 17) (oi := { dst := some 120, op := Op.fieldAddr 58 (Operand.tmp 119) 7, type := 0, pos := "keep.go:143", after := #[{ on := 16, ground := Ground.data }, { on := 0, ground := Ground.phase }, { on := 1, ground := Ground.phase }, { on := 2, ground := Ground.phase }, { on := 3, ground := Ground.phase }, { on := 4, ground := Ground.phase }, { on := 5, ground := Ground.phase }, { on := 6, ground := Ground.phase }, { on := 7, ground := Ground.phase }, { on := 8, ground := Ground.phase }, { on := 9, ground := Ground.phase }, { on := 10, ground := Ground.phase }, { on := 11, ground := Ground.phase }, { on := 12, ground := Ground.phase }, { on := 13, ground := Ground.phase }, { on := 14, ground := Ground.phase }, { on := 15, ground := Ground.phase }], guard := none }) (v := ?_) rfl (by kernel_rfl) (by kernel_rfl) (by kernel_rfl) (fun _ _ _ h => h) (Or.inl ⟨by rfl, ?_⟩) (by assumption) ?_
                    rotate_left
                    · intro w hSw; (try dsimp only at hSw); go_simp <;> with_reducible rfl
                    simp only [Act.put, List.setIfInBounds_toArray, List.set_cons_zero, List.set_cons_succ]
                    refine wpAnyH_ready (rs := [18]) (by kernel_rfl) (by simp) ?_
                    refine AllReadyH.cons (o := { dst := none, op := Op.store 55 (Operand.tmp 120) (Operand.tmp 118), type := 0, pos := "keep.go:143", after := #[{ on := 17, ground := Ground.data }, { on := 15, ground := Ground.data }, { on := 15, ground := Ground.chain }, { on := 0, ground := Ground.phase }, { on := 1, ground := Ground.phase }, { on := 2, ground := Ground.phase }, { on := 3, ground := Ground.phase }, { on := 4, ground := Ground.phase }, { on := 5, ground := Ground.phase }, { on := 6, ground := Ground.phase }, { on := 7, ground := Ground.phase }, { on := 8, ground := Ground.phase }, { on := 9, ground := Ground.phase }, { on := 10, ground := Ground.phase }, { on := 11, ground := Ground.phase }, { on := 12, ground := Ground.phase }, { on := 13, ground := Ground.phase }, { on := 14, ground := Ground.phase }, { on := 15, ground := Ground.phase }], guard := none }) rfl (fun K hK => ?_) AllReadyH.nil
                    go_simp
                    refine hK.out _ _ ?_ (fun hHeld => ?_)
                    · trivial
                    clear hK K
                    try simp only [Act.put, List.setIfInBounds_toArray, List.set_cons_zero, List.set_cons_succ]
                    refine wpAnyH_done (by kernel_rfl) ?_ _
                    skip
                    go_wp2
                    obtain ⟨tag6, hP6⟩ := (hP5'.out.alloc _).push2 (fun k ek => by cases ek; exact ht5'.out) (by unfold grA; rw [hnE.out]; exact hnew5'.out.alloc _) hnew6 hold6 hat6
                    exact ⟨⟨c + 1, tag6, _, _, by omega, by go_num, hP6⟩, by simp [intOf]; omega⟩
                  refine AllReadyH.cons (o := { dst := some 114, op := Op.load 48 (Operand.tmp 113), type := 48, pos := "keep.go:143", after := #[{ on := 10, ground := Ground.data }], guard := none }) rfl (fun K hK => ?_) AllReadyH.nil
                  go_simp
                  refine hK.out _ _ ?_ (fun hHeld => ?_)
                  · trivial
                  clear hK K
                  try simp only [Act.put, List.setIfInBounds_toArray, List.set_cons_zero, List.set_cons_succ]
                  refine wpAnyH_ready (rs := [4, 13]) (by kernel_rfl) (by simp) ?_
                  refine AllReadyH.cons (o := { dst := some 107, op := Op.load 55 (Operand.tmp 106), type := 55, pos := "keep.go:143", after := #[{ on := 3, ground := Ground.data }], guard := none }) rfl (fun K hK => ?_) ?_
                  · skip
                    go_simp
                    refine hK.out _ _ ?_ (fun hHeld => ?_)
                    · trivial
                    clear hK K
                    try simp only [Act.put, List.setIfInBounds_toArray, List.set_cons_zero, List.set_cons_succ]
                    refine wpAnyH_ready (rs := [13]) (by kernel_rfl) (by simp) ?_
                    refine AllReadyH.cons (o := { dst := some 116, op := Op.call { callee := Callee.builtin Builtin.append, args := #[Operand.tmp 114, Operand.tmp 115], argTypes := #[48, 48] }, type := 48, pos := "keep.go:143", after := #[{ on := 11, ground := Ground.data }, { on := 12, ground := Ground.data }], guard := none }) rfl (fun K hK => ?_) AllReadyH.nil
                    rw [if_pos (by rfl)]
                    refine wp_append_two _ (.tmp 114) (.tmp 115) 48 rfl 0 3 iI (.int .i64 0) 1 8 Tryz.underlying48 hiI hzI0 hzI1 hzI2 rfl (by decide) (.slice ox nc cx) nc (cellsI (List.replicate nc (mkA c))) rfl hin.out ⟨gm, 0, none⟩ 700 cm L7 rfl hlen7.out hnews.out hone7.out (by decide) (by unfold maxLen; omega) (by omega) (Nat.zero_le _) ?_; intro g5 cap5 w5 hnew5 hold5 hat5; have hnew5' : Hid (w5.ownsRow 0 3 1 (.slice (some ⟨g5, 0, none⟩) (nc + 700) cap5) (nc + 700) (cellsI (List.replicate nc (mkA c) ++ List.replicate 700 (mkB c)))) := (by have h := hnew5; rw [← hL7'.out] at h; unfold cellsI at h ⊢; rw [List.map_append]; exact h); clear hnew5; obtain ⟨tag5, hP5, ht5, hr5, _⟩ := hP2.out.drew.grow hv'.out (fun k ek => hP2.out.live.itag c _ k hv'.out ek) (Rel.refl hin.out) hnew5'.out hat5 (by rw [hnE.out]; omega) (by rw [hnE.out]; exact List.take_left' (List.length_replicate ..)) (fun u hu => ⟨(hP2.out.rel c _ u hv'.out hu).symm, by rw [hnE.out]; omega, by unfold grA; rw [hnE.out]; exact take16 _ _ _⟩) (Nat.le_refl _); have hP5' := hide' hP5; have ht5' := hide' ht5; clear hP5 hold5 hat5 hr5 ht5; have c7b := hP5'.out.box.c7; have c7c := (hP5'.out.alloc (.cells #[.slice (some ⟨g5, 0, none⟩) (nc + 700) cap5] 48)).box.c7; (try dsimp only)
                    refine hK.out _ _ ?_ (fun hHeld => ?_)
                    · trivial
                    clear hK K
                    try simp only [Act.put, List.setIfInBounds_toArray, List.set_cons_zero, List.set_cons_succ]
                    refine wpAnyH_ready (rs := [14]) (by kernel_rfl) (by simp) ?_
                    refine AllReadyH.cons (o := { dst := some 117, op := Op.buildSlice 55 1 #[(0, Operand.tmp 116)], type := 55, pos := "keep.go:143", after := #[{ on := 13, ground := Ground.data }], guard := none }) rfl (fun K hK => ?_) AllReadyH.nil
                    go_simp
                    refine hK.out _ _ ?_ (fun hHeld => ?_)
                    · trivial
                    clear hK K
                    try simp only [Act.put, List.setIfInBounds_toArray, List.set_cons_zero, List.set_cons_succ]
                    refine wpAnyH_ready (rs := [15]) (by kernel_rfl) (by simp) ?_
                    refine AllReadyH.cons (o := { dst := some 118, op := Op.call { callee := Callee.builtin Builtin.append, args := #[Operand.tmp 107, Operand.tmp 117], argTypes := #[55, 55] }, type := 55, pos := "keep.go:143", after := #[{ on := 4, ground := Ground.data }, { on := 14, ground := Ground.data }, { on := 13, ground := Ground.chain }], guard := none }) rfl (fun K hK => ?_) AllReadyH.nil
                    rw [if_pos (by rfl)]
                    refine wp_append_two _ (.tmp 107) (.tmp 117) 55 rfl 0 48 iL (.slice none 0 0) 1 24 Tryz.underlying55 hiL hzL0 hzL1 hzL2 rfl (by decide) om c vs2 rfl (hP5'.out.many.outer.alloc _) ⟨w5.heap.size, 0, none⟩ 1 1 [.slice (some ⟨g5, 0, none⟩) (nc + 700) cap5] rfl rfl (cell_one_new _ _ _) (by simp [Value.oneCell']) (by decide) (by unfold maxLen; omega) (by omega) (Nat.zero_le _) ?_; intro g6 cap6 w6 hnew6 hold6 hat6; have hb6 := hide' ((hP5'.out.alloc _).boxM hat6); have c66 := hb6.out.c7; have f66 := hb6.out.fz 7; (try dsimp only)
                    refine hK.out _ _ ?_ (fun hHeld => ?_)
                    · trivial
                    clear hK K
                    try simp only [Act.put, List.setIfInBounds_toArray, List.set_cons_zero, List.set_cons_succ]
                    refine wpAnyH_take (i := 16) (oi := { dst := some 119, op := Op.nilCheck (Operand.tmp 103), type := 0, pos := "keep.go:143", after := #[{ on := 0, ground := Ground.data }, { on := 0, ground := Ground.phase }, { on := 1, ground := Ground.phase }, { on := 2, ground := Ground.phase }, { on := 3, ground := Ground.phase }, { on := 4, ground := Ground.phase }, { on := 5, ground := Ground.phase }, { on := 6, ground := Ground.phase }, { on := 7, ground := Ground.phase }, { on := 8, ground := Ground.phase }, { on := 9, ground := Ground.phase }, { on := 10, ground := Ground.phase }, { on := 11, ground := Ground.phase }, { on := 12, ground := Ground.phase }, { on := 13, ground := Ground.phase }, { on := 14, ground := Ground.phase }, { on := 15, ground := Ground.phase }], guard := none }) (v := ?_) rfl (by kernel_rfl) (by kernel_rfl) (by kernel_rfl) (fun _ _ _ h => h) (Or.inl ⟨by rfl, ?_⟩) (by assumption) ?_
                    rotate_left
                    · intro w hSw; (try dsimp only at hSw); go_simp <;> with_reducible rfl
                    simp only [Act.put, List.setIfInBounds_toArray, List.set_cons_zero, List.set_cons_succ]
                    refine wpAnyH_take (i := 17) (oi := { dst := some 120, op := Op.fieldAddr 58 (Operand.tmp 119) 7, type := 0, pos := "keep.go:143", after := #[{ on := 16, ground := Ground.data }, { on := 0, ground := Ground.phase }, { on := 1, ground := Ground.phase }, { on := 2, ground := Ground.phase }, { on := 3, ground := Ground.phase }, { on := 4, ground := Ground.phase }, { on := 5, ground := Ground.phase }, { on := 6, ground := Ground.phase }, { on := 7, ground := Ground.phase }, { on := 8, ground := Ground.phase }, { on := 9, ground := Ground.phase }, { on := 10, ground := Ground.phase }, { on := 11, ground := Ground.phase }, { on := 12, ground := Ground.phase }, { on := 13, ground := Ground.phase }, { on := 14, ground := Ground.phase }, { on := 15, ground := Ground.phase }], guard := none }) (v := ?_) rfl (by kernel_rfl) (by kernel_rfl) (by kernel_rfl) (fun _ _ _ h => h) (Or.inl ⟨by rfl, ?_⟩) (by assumption) ?_
                    rotate_left
                    · intro w hSw; (try dsimp only at hSw); go_simp <;> with_reducible rfl
                    simp only [Act.put, List.setIfInBounds_toArray, List.set_cons_zero, List.set_cons_succ]
                    refine wpAnyH_ready (rs := [18]) (by kernel_rfl) (by simp) ?_
                    refine AllReadyH.cons (o := { dst := none, op := Op.store 55 (Operand.tmp 120) (Operand.tmp 118), type := 0, pos := "keep.go:143", after := #[{ on := 17, ground := Ground.data }, { on := 15, ground := Ground.data }, { on := 15, ground := Ground.chain }, { on := 0, ground := Ground.phase }, { on := 1, ground := Ground.phase }, { on := 2, ground := Ground.phase }, { on := 3, ground := Ground.phase }, { on := 4, ground := Ground.phase }, { on := 5, ground := Ground.phase }, { on := 6, ground := Ground.phase }, { on := 7, ground := Ground.phase }, { on := 8, ground := Ground.phase }, { on := 9, ground := Ground.phase }, { on := 10, ground := Ground.phase }, { on := 11, ground := Ground.phase }, { on := 12, ground := Ground.phase }, { on := 13, ground := Ground.phase }, { on := 14, ground := Ground.phase }, { on := 15, ground := Ground.phase }], guard := none }) rfl (fun K hK => ?_) AllReadyH.nil
                    go_simp
                    refine hK.out _ _ ?_ (fun hHeld => ?_)
                    · trivial
                    clear hK K
                    try simp only [Act.put, List.setIfInBounds_toArray, List.set_cons_zero, List.set_cons_succ]
                    refine wpAnyH_done (by kernel_rfl) ?_ _
                    skip
                    go_wp2
                    obtain ⟨tag6, hP6⟩ := (hP5'.out.alloc _).push2 (fun k ek => by cases ek; exact ht5'.out) (by unfold grA; rw [hnE.out]; exact hnew5'.out.alloc _) hnew6 hold6 hat6
                    exact ⟨⟨c + 1, tag6, _, _, by omega, by go_num, hP6⟩, by simp [intOf]; omega⟩
                  refine AllReadyH.cons (o := { dst := some 116, op := Op.call { callee := Callee.builtin Builtin.append, args := #[Operand.tmp 114, Operand.tmp 115], argTypes := #[48, 48] }, type := 48, pos := "keep.go:143", after := #[{ on := 11, ground := Ground.data }, { on := 12, ground := Ground.data }], guard := none }) rfl (fun K hK => ?_) AllReadyH.nil
                  rw [if_pos (by rfl)]
                  refine wp_append_two _ (.tmp 114) (.tmp 115) 48 rfl 0 3 iI (.int .i64 0) 1 8 Tryz.underlying48 hiI hzI0 hzI1 hzI2 rfl (by decide) (.slice ox nc cx) nc (cellsI (List.replicate nc (mkA c))) rfl hin.out ⟨gm, 0, none⟩ 700 cm L7 rfl hlen7.out hnews.out hone7.out (by decide) (by unfold maxLen; omega) (by omega) (Nat.zero_le _) ?_; intro g5 cap5 w5 hnew5 hold5 hat5; have hnew5' : Hid (w5.ownsRow 0 3 1 (.slice (some ⟨g5, 0, none⟩) (nc + 700) cap5) (nc + 700) (cellsI (List.replicate nc (mkA c) ++ List.replicate 700 (mkB c)))) := (by have h := hnew5; rw [← hL7'.out] at h; unfold cellsI at h ⊢; rw [List.map_append]; exact h); clear hnew5; obtain ⟨tag5, hP5, ht5, hr5, _⟩ := hP2.out.drew.grow hv'.out (fun k ek => hP2.out.live.itag c _ k hv'.out ek) (Rel.refl hin.out) hnew5'.out hat5 (by rw [hnE.out]; omega) (by rw [hnE.out]; exact List.take_left' (List.length_replicate ..)) (fun u hu => ⟨(hP2.out.rel c _ u hv'.out hu).symm, by rw [hnE.out]; omega, by unfold grA; rw [hnE.out]; exact take16 _ _ _⟩) (Nat.le_refl _); have hP5' := hide' hP5; have ht5' := hide' ht5; clear hP5 hold5 hat5 hr5 ht5; have c7b := hP5'.out.box.c7; have c7c := (hP5'.out.alloc (.cells #[.slice (some ⟨g5, 0, none⟩) (nc + 700) cap5] 48)).box.c7; (try dsimp only)
                  refine hK.out _ _ ?_ (fun hHeld => ?_)
                  · trivial
                  clear hK K
                  try simp only [Act.put, List.setIfInBounds_toArray, List.set_cons_zero, List.set_cons_succ]
                  refine wpAnyH_ready (rs := [4, 14]) (by kernel_rfl) (by simp) ?_
                  refine AllReadyH.cons (o := { dst := some 107, op := Op.load 55 (Operand.tmp 106), type := 55, pos := "keep.go:143", after := #[{ on := 3, ground := Ground.data }], guard := none }) rfl (fun K hK => ?_) ?_
                  · skip
                    go_simp
                    refine hK.out _ _ ?_ (fun hHeld => ?_)
                    · trivial
                    clear hK K
                    try simp only [Act.put, List.setIfInBounds_toArray, List.set_cons_zero, List.set_cons_succ]
                    refine wpAnyH_ready (rs := [14]) (by kernel_rfl) (by simp) ?_
                    refine AllReadyH.cons (o := { dst := some 117, op := Op.buildSlice 55 1 #[(0, Operand.tmp 116)], type := 55, pos := "keep.go:143", after := #[{ on := 13, ground := Ground.data }], guard := none }) rfl (fun K hK => ?_) AllReadyH.nil
                    go_simp
                    refine hK.out _ _ ?_ (fun hHeld => ?_)
                    · trivial
                    clear hK K
                    try simp only [Act.put, List.setIfInBounds_toArray, List.set_cons_zero, List.set_cons_succ]
                    refine wpAnyH_ready (rs := [15]) (by kernel_rfl) (by simp) ?_
                    refine AllReadyH.cons (o := { dst := some 118, op := Op.call { callee := Callee.builtin Builtin.append, args := #[Operand.tmp 107, Operand.tmp 117], argTypes := #[55, 55] }, type := 55, pos := "keep.go:143", after := #[{ on := 4, ground := Ground.data }, { on := 14, ground := Ground.data }, { on := 13, ground := Ground.chain }], guard := none }) rfl (fun K hK => ?_) AllReadyH.nil
                    rw [if_pos (by rfl)]
                    refine wp_append_two _ (.tmp 107) (.tmp 117) 55 rfl 0 48 iL (.slice none 0 0) 1 24 Tryz.underlying55 hiL hzL0 hzL1 hzL2 rfl (by decide) om c vs2 rfl (hP5'.out.many.outer.alloc _) ⟨w5.heap.size, 0, none⟩ 1 1 [.slice (some ⟨g5, 0, none⟩) (nc + 700) cap5] rfl rfl (cell_one_new _ _ _) (by simp [Value.oneCell']) (by decide) (by unfold maxLen; omega) (by omega) (Nat.zero_le _) ?_; intro g6 cap6 w6 hnew6 hold6 hat6; have hb6 := hide' ((hP5'.out.alloc _).boxM hat6); have c66 := hb6.out.c7; have f66 := hb6.out.fz 7; (try dsimp only)
                    refine hK.out _ _ ?_ (fun hHeld => ?_)
                    · trivial
                    clear hK K
                    try simp only [Act.put, List.setIfInBounds_toArray, List.set_cons_zero, List.set_cons_succ]
                    refine wpAnyH_take (i := 16) (oi := { dst := some 119, op := Op.nilCheck (Operand.tmp 103), type := 0, pos := "keep.go:143", after := #[{ on := 0, ground := Ground.data }, { on := 0, ground := Ground.phase }, { on := 1, ground := Ground.phase }, { on := 2, ground := Ground.phase }, { on := 3, ground := Ground.phase }, { on := 4, ground := Ground.phase }, { on := 5, ground := Ground.phase }, { on := 6, ground := Ground.phase }, { on := 7, ground := Ground.phase }, { on := 8, ground := Ground.phase }, { on := 9, ground := Ground.phase }, { on := 10, ground := Ground.phase }, { on := 11, ground := Ground.phase }, { on := 12, ground := Ground.phase }, { on := 13, ground := Ground.phase }, { on := 14, ground := Ground.phase }, { on := 15, ground := Ground.phase }], guard := none }) (v := ?_) rfl (by kernel_rfl) (by kernel_rfl) (by kernel_rfl) (fun _ _ _ h => h) (Or.inl ⟨by rfl, ?_⟩) (by assumption) ?_
                    rotate_left
                    · intro w hSw; (try dsimp only at hSw); go_simp <;> with_reducible rfl
                    simp only [Act.put, List.setIfInBounds_toArray, List.set_cons_zero, List.set_cons_succ]
                    refine wpAnyH_take (i := 17) (oi := { dst := some 120, op := Op.fieldAddr 58 (Operand.tmp 119) 7, type := 0, pos := "keep.go:143", after := #[{ on := 16, ground := Ground.data }, { on := 0, ground := Ground.phase }, { on := 1, ground := Ground.phase }, { on := 2, ground := Ground.phase }, { on := 3, ground := Ground.phase }, { on := 4, ground := Ground.phase }, { on := 5, ground := Ground.phase }, { on := 6, ground := Ground.phase }, { on := 7, ground := Ground.phase }, { on := 8, ground := Ground.phase }, { on := 9, ground := Ground.phase }, { on := 10, ground := Ground.phase }, { on := 11, ground := Ground.phase }, { on := 12, ground := Ground.phase }, { on := 13, ground := Ground.phase }, { on := 14, ground := Ground.phase }, { on := 15, ground := Ground.phase }], guard := none }) (v := ?_) rfl (by kernel_rfl) (by kernel_rfl) (by kernel_rfl) (fun _ _ _ h => h) (Or.inl ⟨by rfl, ?_⟩) (by assumption) ?_
                    rotate_left
                    · intro w hSw; (try dsimp only at hSw); go_simp <;> with_reducible rfl
                    simp only [Act.put, List.setIfInBounds_toArray, List.set_cons_zero, List.set_cons_succ]
                    refine wpAnyH_ready (rs := [18]) (by kernel_rfl) (by simp) ?_
                    refine AllReadyH.cons (o := { dst := none, op := Op.store 55 (Operand.tmp 120) (Operand.tmp 118), type := 0, pos := "keep.go:143", after := #[{ on := 17, ground := Ground.data }, { on := 15, ground := Ground.data }, { on := 15, ground := Ground.chain }, { on := 0, ground := Ground.phase }, { on := 1, ground := Ground.phase }, { on := 2, ground := Ground.phase }, { on := 3, ground := Ground.phase }, { on := 4, ground := Ground.phase }, { on := 5, ground := Ground.phase }, { on := 6, ground := Ground.phase }, { on := 7, ground := Ground.phase }, { on := 8, ground := Ground.phase }, { on := 9, ground := Ground.phase }, { on := 10, ground := Ground.phase }, { on := 11, ground := Ground.phase }, { on := 12, ground := Ground.phase }, { on := 13, ground := Ground.phase }, { on := 14, ground := Ground.phase }, { on := 15, ground := Ground.phase }], guard := none }) rfl (fun K hK => ?_) AllReadyH.nil
                    go_simp
                    refine hK.out _ _ ?_ (fun hHeld => ?_)
                    · trivial
                    clear hK K
                    try simp only [Act.put, List.setIfInBounds_toArray, List.set_cons_zero, List.set_cons_succ]
                    refine wpAnyH_done (by kernel_rfl) ?_ _
                    skip
                    go_wp2
                    obtain ⟨tag6, hP6⟩ := (hP5'.out.alloc _).push2 (fun k ek => by cases ek; exact ht5'.out) (by unfold grA; rw [hnE.out]; exact hnew5'.out.alloc _) hnew6 hold6 hat6
                    exact ⟨⟨c + 1, tag6, _, _, by omega, by go_num, hP6⟩, by simp [intOf]; omega⟩
                  refine AllReadyH.cons (o := { dst := some 117, op := Op.buildSlice 55 1 #[(0, Operand.tmp 116)], type := 55, pos := "keep.go:143", after := #[{ on := 13, ground := Ground.data }], guard := none }) rfl (fun K hK => ?_) AllReadyH.nil
                  go_simp
                  refine hK.out _ _ ?_ (fun hHeld => ?_)
                  · trivial
                  clear hK K
                  try simp only [Act.put, List.setIfInBounds_toArray, List.set_cons_zero, List.set_cons_succ]
                  refine wpAnyH_ready (rs := [4]) (by kernel_rfl) (by simp) ?_
                  refine AllReadyH.cons (o := { dst := some 107, op := Op.load 55 (Operand.tmp 106), type := 55, pos := "keep.go:143", after := #[{ on := 3, ground := Ground.data }], guard := none }) rfl (fun K hK => ?_) AllReadyH.nil
                  go_simp
                  refine hK.out _ _ ?_ (fun hHeld => ?_)
                  · trivial
                  clear hK K
                  try simp only [Act.put, List.setIfInBounds_toArray, List.set_cons_zero, List.set_cons_succ]
                  refine wpAnyH_ready (rs := [15]) (by kernel_rfl) (by simp) ?_
                  refine AllReadyH.cons (o := { dst := some 118, op := Op.call { callee := Callee.builtin Builtin.append, args := #[Operand.tmp 107, Operand.tmp 117], argTypes := #[55, 55] }, type := 55, pos := "keep.go:143", after := #[{ on := 4, ground := Ground.data }, { on := 14, ground := Ground.data }, { on := 13, ground := Ground.chain }], guard := none }) rfl (fun K hK => ?_) AllReadyH.nil
                  rw [if_pos (by rfl)]
                  refine wp_append_two _ (.tmp 107) (.tmp 117) 55 rfl 0 48 iL (.slice none 0 0) 1 24 Tryz.underlying55 hiL hzL0 hzL1 hzL2 rfl (by decide) om c vs2 rfl (hP5'.out.many.outer.alloc _) ⟨w5.heap.size, 0, none⟩ 1 1 [.slice (some ⟨g5, 0, none⟩) (nc + 700) cap5] rfl rfl (cell_one_new _ _ _) (by simp [Value.oneCell']) (by decide) (by unfold maxLen; omega) (by omega) (Nat.zero_le _) ?_; intro g6 cap6 w6 hnew6 hold6 hat6; have hb6 := hide' ((hP5'.out.alloc _).boxM hat6); have c66 := hb6.out.c7; have f66 := hb6.out.fz 7; (try dsimp only)
                  refine hK.out _ _ ?_ (fun hHeld => ?_)
                  · trivial
                  clear hK K
                  try simp only [Act.put, List.setIfInBounds_toArray, List.set_cons_zero, List.set_cons_succ]
                  refine wpAnyH_take (i := 16) (oi := { dst := some 119, op := Op.nilCheck (Operand.tmp 103), type := 0, pos := "keep.go:143", after := #[{ on := 0, ground := Ground.data }, { on := 0, ground := Ground.phase }, { on := 1, ground := Ground.phase }, { on := 2, ground := Ground.phase }, { on := 3, ground := Ground.phase }, { on := 4, ground := Ground.phase }, { on := 5, ground := Ground.phase }, { on := 6, ground := Ground.phase }, { on := 7, ground := Ground.phase }, { on := 8, ground := Ground.phase }, { on := 9, ground := Ground.phase }, { on := 10, ground := Ground.phase }, { on := 11, ground := Ground.phase }, { on := 12, ground := Ground.phase }, { on := 13, ground := Ground.phase }, { on := 14, ground := Ground.phase }, { on := 15, ground := Ground.phase }], guard := none }) (v := ?_) rfl (by kernel_rfl) (by kernel_rfl) (by kernel_rfl) (fun _ _ _ h => h) (Or.inl ⟨by rfl, ?_⟩) (by assumption) ?_
                  rotate_left
                  · intro w hSw; (try dsimp only at hSw); go_simp <;> with_reducible rfl
                  simp only [Act.put, List.setIfInBounds_toArray, List.set_cons_zero, List.set_cons_succ]
                  refine wpAnyH_take (i := 17) (oi := { dst := some 120, op := Op.fieldAddr 58 (Operand.tmp 119) 7, type := 0, pos := "keep.go:143", after := #[{ on := 16, ground := Ground.data }, { on := 0, ground := Ground.phase }, { on := 1, ground := Ground.phase }, { on := 2, ground := Ground.phase }, { on := 3, ground := Ground.phase }, { on := 4, ground := Ground.phase }, { on := 5, ground := Ground.phase }, { on := 6, ground := Ground.phase }, { on := 7, ground := Ground.phase }, { on := 8, ground := Ground.phase }, { on := 9, ground := Ground.phase }, { on := 10, ground := Ground.phase }, { on := 11, ground := Ground.phase }, { on := 12, ground := Ground.phase }, { on := 13, ground := Ground.phase }, { on := 14, ground := Ground.phase }, { on := 15, ground := Ground.phase }], guard := none }) (v := ?_) rfl (by kernel_rfl) (by kernel_rfl) (by kernel_rfl) (fun _ _ _ h => h) (Or.inl ⟨by rfl, ?_⟩) (by assumption) ?_
                  rotate_left
                  · intro w hSw; (try dsimp only at hSw); go_simp <;> with_reducible rfl
                  simp only [Act.put, List.setIfInBounds_toArray, List.set_cons_zero, List.set_cons_succ]
                  refine wpAnyH_ready (rs := [18]) (by kernel_rfl) (by simp) ?_
                  refine AllReadyH.cons (o := { dst := none, op := Op.store 55 (Operand.tmp 120) (Operand.tmp 118), type := 0, pos := "keep.go:143", after := #[{ on := 17, ground := Ground.data }, { on := 15, ground := Ground.data }, { on := 15, ground := Ground.chain }, { on := 0, ground := Ground.phase }, { on := 1, ground := Ground.phase }, { on := 2, ground := Ground.phase }, { on := 3, ground := Ground.phase }, { on := 4, ground := Ground.phase }, { on := 5, ground := Ground.phase }, { on := 6, ground := Ground.phase }, { on := 7, ground := Ground.phase }, { on := 8, ground := Ground.phase }, { on := 9, ground := Ground.phase }, { on := 10, ground := Ground.phase }, { on := 11, ground := Ground.phase }, { on := 12, ground := Ground.phase }, { on := 13, ground := Ground.phase }, { on := 14, ground := Ground.phase }, { on := 15, ground := Ground.phase }], guard := none }) rfl (fun K hK => ?_) AllReadyH.nil
                  go_simp
                  refine hK.out _ _ ?_ (fun hHeld => ?_)
                  · trivial
                  clear hK K
                  try simp only [Act.put, List.setIfInBounds_toArray, List.set_cons_zero, List.set_cons_succ]
                  refine wpAnyH_done (by kernel_rfl) ?_ _
                  skip
                  go_wp2
                  obtain ⟨tag6, hP6⟩ := (hP5'.out.alloc _).push2 (fun k ek => by cases ek; exact ht5'.out) (by unfold grA; rw [hnE.out]; exact hnew5'.out.alloc _) hnew6 hold6 hat6
                  exact ⟨⟨c + 1, tag6, _, _, by omega, by go_num, hP6⟩, by simp [intOf]; omega⟩
            · obtain rfl : m = c := by omega
              have hP' := hide' hP
              have KL1 := hide' (lookInts b wr tagr _ ow o1 om om N m 5 700 cL n vs vs2 hP.box hP.live hP.many hm hn.out (by decide))
              have KL2 := hide' (lookInts b wr tagr _ ow o1 om o1 N m 4 16 cL n vs vs1 hP.box hP.live hP.one hm hn.out (by decide))
              have d7 := hP.box.c7
              have d6 := hP.box.c6
              obtain ⟨y1, y2, rfl⟩ := own_shape hP.one.outer
              obtain ⟨x1, x2, rfl⟩ := own_shape hP.many.outer
              clear hP
              go_wp2_with (first | (go_at_call_of 80 (Value.slice x1 m x2); refine KL1.out.mono ?_; rintro e w8 ⟨rfl, hw8⟩; obtain rfl : wr = w8 := hw8.symm) | (go_at_call_of 80 (Value.slice y1 m y2); refine KL2.out.mono ?_; rintro e w8 ⟨rfl, hw8⟩; obtain rfl : wr = w8 := hw8.symm))
              go_ret
              exact ⟨rfl, ⟨_, _, hP'.out.box⟩, hP'.out.S⟩
end Go.Proofs.YtlipdccfhnnleaaGreatDoor.K
namespace Go.Proofs.YtlipdccfhnnleaaGreatDoor.K
open Go.RowKit
theorem Bk.below {w w' : World} {b : Nat} {tag : Nat → Nat} {ov ow : Value} {m : Nat} {vs us : List Value} {rows : Nat → List Int} {N : Nat} (h : Bk w b tag ov ow m vs us rows N) (hB : Below w.heap.size w w') : Bk w' b tag ov ow m vs us rows N := by
  have s : Sm (fun _ => False) tag w w' := Sm.below hB
  exact ⟨h.box.mv s (fun x => x), h.bt, h.live.mv s (fun x => x) (fun _ _ x => x), h.want.mv s (fun x => x) (fun _ _ x => x), fun g hg => h.fresh g (Nat.le_trans hB.size hg), h.hN, h.hrow⟩
set_option maxHeartbeats 1000000 in
theorem lookBytes0 (b : Value) (w : World) : Calls Tryz.prog 79 #[b, .slice none 0 0] w fun e w' => e = .returned (.bool true) ∧ w' = w := by
  go_enter Tryz.func79, Tryz.ntmps79
  go_wp2
  go_loop [5] (fun i => i = .int .i64 0) (fun _ => 0)
  case atStart => rfl
  case round =>
    obtain rfl := hrel
    go_wp2
    go_ret
    exact ⟨rfl, rfl⟩
set_option maxHeartbeats 1000000 in
theorem lookTexts0 (b : Value) (w : World) : Calls Tryz.prog 82 #[b, .slice none 0 0] w fun e w' => e = .returned (.bool true) ∧ w' = w := by
  go_enter Tryz.func82, Tryz.ntmps82
  go_wp2
  go_loop [5] (fun i => i = .int .i64 0) (fun _ => 0)
  case atStart => rfl
  case round =>
    obtain rfl := hrel
    go_wp2
    go_ret
    exact ⟨rfl, rfl⟩
set_option maxRecDepth 100000 in
set_option maxHeartbeats 4000000 in
theorem closeBytes0 (b : Nat) (w : World) (ov ow o1 om : Value) (N : Int) (hb : BoxB w b ov ow o1 om N) : Calls Tryz.prog 59 #[.pointer (some ⟨b, 0, none⟩)] w fun e w' => e = .returned (.bool true) ∧ w' = w := by
  have c0 := hb.c0
  have c2 := hb.c2
  have c3 := hb.c3
  have K := hide' (lookBytes0 (.pointer (some ⟨b, 0, none⟩)) w)
  clear hb
  go_enter Tryz.func59, Tryz.ntmps59
  go_wp2
  go_loop [3] (fun i => i = .int .i64 0) (fun _ => 0)
  case atStart => rfl
  case round =>
    obtain rfl := hrel
    go_wp2
    go_loop [5] (fun i => i = .int .i64 0) (fun _ => 0)
    case atStart => rfl
    case round =>
      obtain rfl := hrel
      go_wp2_with (go_at_call 79; refine K.out.mono ?_; rintro e w7 ⟨rfl, hw7⟩; obtain rfl : w = w7 := hw7.symm)
      go_loop [8] (fun i => i = .int .i64 0) (fun _ => 0)
      case atStart => rfl
      case round =>
        obtain rfl := hrel
        go_wp2_with (go_at_call 79; refine K.out.mono ?_; rintro e w7 ⟨rfl, hw7⟩; obtain rfl : w = w7 := hw7.symm)
        go_ret
        exact ⟨rfl, rfl⟩
set_option maxRecDepth 100000 in
set_option maxHeartbeats 4000000 in
theorem closeTexts0 (b : Nat) (w : World) (ov ow o1 om : Value) (N : Int) (hb : BoxB w b ov ow o1 om N) : Calls Tryz.prog 61 #[.pointer (some ⟨b, 0, none⟩)] w fun e w' => e = .returned (.bool true) ∧ w' = w := by
  have c0 := hb.c8
  have c2 := hb.c10
  have c3 := hb.c11
  have K := hide' (lookTexts0 (.pointer (some ⟨b, 0, none⟩)) w)
  clear hb
  go_enter Tryz.func61, Tryz.ntmps61
  go_wp2
  go_loop [3] (fun i => i = .int .i64 0) (fun _ => 0)
  case atStart => rfl
  case round =>
    obtain rfl := hrel
    go_wp2
    go_loop [5] (fun i => i = .int .i64 0) (fun _ => 0)
    case atStart => rfl
    case round =>
      obtain rfl := hrel
      go_wp2_with (go_at_call 82; refine K.out.mono ?_; rintro e w7 ⟨rfl, hw7⟩; obtain rfl : w = w7 := hw7.symm)
      go_loop [8] (fun i => i = .int .i64 0) (fun _ => 0)
      case atStart => rfl
      case round =>
        obtain rfl := hrel
        go_wp2_with (go_at_call 82; refine K.out.mono ?_; rintro e w7 ⟨rfl, hw7⟩; obtain rfl : w = w7 := hw7.symm)
        go_ret
        exact ⟨rfl, rfl⟩
theorem cell_over {W W' : World} {b o : Nat} {v : Value} (h : W.cell? ⟨b, o, none⟩ = some v) (hb : Below W.heap.size W W') : W'.cell? ⟨b, o, none⟩ = some v := (hb.cell (p := ⟨b, o, none⟩) (cell_lt h)).trans h
theorem keep4 {W0 W w1 : World} {b1 b2 b3 b4 o1 o2 o3 o4 : Nat} {u1 u2 u3 u4 : Value} (h : W.cell? ⟨b1, o1, none⟩ = some u1 ∧ W.cell? ⟨b2, o2, none⟩ = some u2 ∧ W.cell? ⟨b3, o3, none⟩ = some u3 ∧ W.cell? ⟨b4, o4, none⟩ = some u4 ∧ Below W0.heap.size W0 W) (hb : Below W.heap.size W w1) :
    w1.cell? ⟨b1, o1, none⟩ = some u1 ∧ w1.cell? ⟨b2, o2, none⟩ = some u2 ∧ w1.cell? ⟨b3, o3, none⟩ = some u3 ∧ w1.cell? ⟨b4, o4, none⟩ = some u4 ∧ Below W0.heap.size W0 w1 :=
  ⟨cell_over h.1 hb, cell_over h.2.1 hb, cell_over h.2.2.1 hb, cell_over h.2.2.2.1 hb, h.2.2.2.2.trans (hb.mono h.2.2.2.2.size)⟩
set_option maxRecDepth 100000 in
set_option maxHeartbeats 4000000 in
theorem stands (b : Nat) (tag : Nat → Nat) (w : World) (ov ow : Value) (m : Nat) (vs us : List Value) (rows : Nat → List Int) (N : Nat) (hk : Bk w b tag ov ow m vs us rows N) :
    Calls Tryz.prog 58 #[.pointer (some ⟨b, 0, none⟩)] w fun e w' => e = .returned (.bool true) ∧ Below w.heap.size w w' := by
  have hm : m ≤ 1300000 := by have := hk.hN; omega
  have c0 := hk.box.c0
  obtain ⟨oa, cap, rfl⟩ := own_shape hk.live.outer
  obtain ⟨ob, cb, rfl⟩ := own_shape hk.want.outer
  have hk' := hide' hk
  clear hk
  go_enter Tryz.func58, Tryz.ntmps58
  go_wp2
  go_loop [3] (fun i => i = .int .i64 0) (fun _ => 0)
  case atStart => rfl
  case round =>
    obtain rfl := hrel
    go_wp2
    go_loopw [4] (fun i wr => ∃ (c : Nat), c ≤ m ∧ i = .int .i64 c ∧ Below w.heap.size w wr) (fun i _ => ((m : Int) - intOf i).toNat)
    case atStart => exact ⟨0, Nat.zero_le _, rfl, Below.refl _ _⟩
    case round =>
      clear c0
      obtain ⟨c, hc, rfl, hB⟩ := hrel
      have hkr := hk'.out.below hB
      have c4 := hkr.box.c4
      by_cases hlt : c < m
      · have c5 := hkr.box.c5
        obtain ⟨g, cap2, e, _, _⟩ := hkr.live.outer.form (by omega)
        obtain ⟨rfl, rfl⟩ : oa = some ⟨g, 0, none⟩ ∧ cap = cap2 := by injection e with h1 h2 h3; exact ⟨h1, h3⟩
        obtain ⟨g1, cap3, e1, _, _⟩ := hkr.want.outer.form (by omega)
        obtain ⟨rfl, rfl⟩ : ob = some ⟨g1, 0, none⟩ ∧ cb = cap3 := by injection e1 with h1 h2 h3; exact ⟨h1, h3⟩
        obtain ⟨v, hv⟩ : ∃ v, vs[c]? = some v := ⟨_, List.getElem?_eq_getElem (by rw [hkr.live.len]; exact hlt)⟩
        obtain ⟨u, hu⟩ : ∃ u, us[c]? = some u := ⟨_, List.getElem?_eq_getElem (by rw [hkr.want.len]; exact hlt)⟩
        have cv : wr.cell? ⟨g, c, none⟩ = some v := by rw [hkr.live.outer.cellAt c (by omega)]; exact hv
        have cu : wr.cell? ⟨g1, c, none⟩ = some u := by rw [hkr.want.outer.cellAt c (by omega)]; exact hu
        have r1 := RowI.of_owns (hkr.live.inner c v hv)
        have r2 := RowI.of_owns (hkr.want.inner c u hu)
        have hl := hkr.hrow c hlt
        have KI : Hid (∀ W, Below wr.heap.size wr W → Calls Tryz.prog 45 #[v, u] W fun e w' => e = .returned (.bool true) ∧ Below W.heap.size W w') := fun W hW => by
          have := keepInts (rows c) (rows c) v u W (r1.below hW (Nat.le_refl _)) (r2.below hW (Nat.le_refl _)) hl hl
          simpa using this
        have hB' := hide' hB
        have hi0 : Hid (wr.drew.cell? ⟨b, 4, none⟩ = some (.slice (some ⟨g, 0, none⟩) m cap) ∧ wr.drew.cell? ⟨b, 5, none⟩ = some (.slice (some ⟨g1, 0, none⟩) m cb) ∧ wr.drew.cell? ⟨g, c, none⟩ = some v ∧ wr.drew.cell? ⟨g1, c, none⟩ = some u ∧ Below wr.heap.size wr wr.drew) := ⟨c4, c5, cv, cu, (Below.refl _ _).drew⟩
        clear hkr e e1 hv hu r1 r2 hl hB
        go_wp2
        go_region_held3 (fun V => V.cell? ⟨b, 4, none⟩ = some (.slice (some ⟨g, 0, none⟩) m cap) ∧ V.cell? ⟨b, 5, none⟩ = some (.slice (some ⟨g1, 0, none⟩) m cb) ∧ V.cell? ⟨g, c, none⟩ = some v ∧ V.cell? ⟨g1, c, none⟩ = some u ∧ Below wr.heap.size wr V) (first | (exact keep4 (by assumption) hb) | (exact keep4 hi0.out hb) | (exact hi0.out)) (first | (go_at_call 45; refine (KI.out _ (by first | exact ‹_ ∧ _ ∧ _ ∧ _ ∧ _›.2.2.2.2 | exact (Below.refl _ _).drew)).mono ?_; rintro e w7 ⟨rfl, hb⟩))
        go_wp2
        exact ⟨⟨c + 1, by omega, by go_num, hB'.out.trans (‹_ ∧ _ ∧ _ ∧ _ ∧ Below wr.heap.size wr w7›.2.2.2.2.mono hB'.out.size)⟩, by simp [intOf]; omega⟩
      · have c8 := hkr.box.c8
        clear hkr
        go_wp2
        go_loop [5] (fun i => i = .int .i64 0) (fun _ => 0)
        case atStart => rfl
        case round =>
          obtain rfl := hrel
          go_wp2
          go_ret
          exact ⟨rfl, hB⟩
set_option maxRecDepth 100000 in
set_option maxHeartbeats 2000000 in
theorem bookClose (b : Nat) (tag : Nat → Nat) (w : World) (hk : Book w b tag) :
    Calls Tryz.prog 21 #[.pointer (some ⟨b, 0, none⟩)] w fun e w' => e = .returned (.bool true) ∧ Sm (· ≠ 0) tag w w' := by
  obtain ⟨ov, ow, m, vs, us, rows, N, hk⟩ := hk
  have K1 := hide' (stands b tag w ov ow m vs us rows N hk)
  have K2 : Hid (∀ W, Below w.heap.size w W → Calls Tryz.prog 59 #[.pointer (some ⟨b, 0, none⟩)] W fun e w' => e = .returned (.bool true) ∧ w' = W) := fun W hW => closeBytes0 b W _ _ _ _ _ (hk.below hW).box
  have K3 : Hid (∀ W, Below w.heap.size w W → Calls Tryz.prog 60 #[.pointer (some ⟨b, 0, none⟩)] W fun e w' => e = .returned (.bool true) ∧ (∃ o1 om, BoxB w' b ov ow o1 om N) ∧ Sm (· ≠ 0) tag W w') := fun W hW => closeInts b tag W _ _ _ _ _ _ _ (hk.below hW)
  have K4 : Hid (∀ W, (∃ o1 om, BoxB W b ov ow o1 om N) → Calls Tryz.prog 61 #[.pointer (some ⟨b, 0, none⟩)] W fun e w' => e = .returned (.bool true) ∧ w' = W) := fun W ⟨o1, om, hW⟩ => closeTexts0 b W _ _ _ _ _ hW
  clear hk
  go_enter Tryz.func21, Tryz.ntmps21
  go_wp2_with (first | (go_at_call 58; refine K1.out.mono ?_; rintro e w1 ⟨rfl, hb1⟩; have hb1' := hide' hb1; clear hb1) | (go_at_call 59; refine (K2.out _ hb1'.out).mono ?_; rintro e w2 ⟨rfl, hw2⟩; obtain rfl : w1 = w2 := hw2.symm) | (go_at_call 60; refine (K3.out _ hb1'.out).mono ?_; rintro e w3 ⟨rfl, hbx, hs⟩; have hbx' := hide' hbx; have hs' := hide' hs; clear hbx hs) | (go_at_call 61; refine (K4.out _ hbx'.out).mono ?_; rintro e w4 ⟨rfl, hw4⟩; obtain rfl : w3 = w4 := hw4.symm))
  go_ret
  exact ⟨rfl, (Sm.below hb1'.out).trans hs'.out (fun _ _ => rfl)⟩
end Go.Proofs.YtlipdccfhnnleaaGreatDoor.K
namespace Go.Proofs.YtlipdccfhnnleaaGreatDoor.K
open Go.RowKit
set_option maxRecDepth 100000 in
set_option maxHeartbeats 4000000 in
theorem bookInts (b : Nat) (tag : Nat → Nat) (v : Value) (l : List Int) (w : World) (hB : Book w b tag) (hv : w.ownsRow 0 3 1 v l.length (cellsI l)) (hl : l.length ≤ 1000000) (hvt : ∀ g, v.ownBlock = some g → tag g = 0) :
    Calls Tryz.prog 18 #[.pointer (some ⟨b, 0, none⟩), v] w fun e w' => e = .returned (.tuple #[]) ∧ ∃ tag', Book w' b tag' ∧ Fr tag v w tag' w' := by
  obtain ⟨iI, hiI, hzI0, hzI1, hzI2⟩ := info_parts infoI
  obtain ⟨iL, hiL, hzL0, hzL1, hzL2⟩ := info_parts infoL
  obtain ⟨ov, ow, m, vs, us, rows, N, hbx, hbt, hlive, hwant, hfresh, ⟨hN1, hN2⟩, hrow⟩ := hB
  have hlt := hbx.lt
  have c12 := hbx.c12
  have f12 := hbx.fz 12
  have KF := hide' (bookFull b N w c12)
  have hv' := hide' hv
  have hvt' := hide' hvt
  have hlive' := hide' hlive
  have hwant' := hide' hwant
  have hbx' := hide' hbx
  have h1v := hide' (own_one hv)
  obtain ⟨oa, cap, rfl⟩ := own_shape hv
  clear hv hlive hwant hbx
  by_cases hfull : 200000 < N
  · have hd : decide (200000 < N) = true := by simpa using hfull
    rw [hd] at KF
    go_enter Tryz.func18, Tryz.ntmps18
    go_wp2_with (go_at_call 57; refine KF.out.mono ?_; rintro e w1 ⟨rfl, rfl⟩)
    first | go_end0 | refine bodyPost_ret (results_none rfl _ _ _) rfl ?_
    exact ⟨rfl, tag, ⟨_, _, _, _, _, _, _, hbx'.out, hbt, hlive'.out, hwant'.out, hfresh, ⟨hN1, hN2⟩, hrow⟩, ⟨rfl, rfl, rfl, Nat.le_refl _, fun _ _ h _ => h, fun _ _ _ _ => rfl⟩⟩
  · have hd : decide (200000 < N) = false := by simpa using hfull
    rw [hd] at KF
    have hbk : Hid (Bk w b tag ov ow m vs us rows N) := ⟨hbx'.out, hbt, hlive'.out, hwant'.out, hfresh, ⟨hN1, hN2⟩, hrow⟩
    have hb1 := hide' (hbx'.out.s12 (N + l.length + 1))
    have S1 : Hid (Sm (· = 1) tag w (w.setCell ⟨b, 12, none⟩ (.int .i64 (N + l.length + 1)))) := Sm.setCell _ hbt
    have c4 := hb1.out.c4
    have hO1 := hide' ((hlive'.out.mv S1.out (by decide) (fun j _ => by omega)).outer.alloc (.cells #[.slice oa l.length cap] 48))
    have hnb := hide' (World.news_of_block (cs := #[.slice oa l.length cap]) (B := w.heap.size) (by have := heap_new (w.setCell ⟨b, 12, none⟩ (.int .i64 (N + l.length + 1))) (.cells #[.slice oa l.length cap] 48); rwa [size_set] at this))
    clear hbx' hlive' hwant' S1 hfresh hrow hd hvt
    go_enter Tryz.func18, Tryz.ntmps18
    go_wp2_with (first | (go_at_call 57; refine KF.out.mono ?_; rintro e w1 ⟨rfl, hw1⟩; obtain rfl : w = w1 := hw1.symm) | (at_builtin; go_loud (refine wpList_append_two _ rfl _ _ 55 rfl 0 48 iL (.slice none 0 0) 1 24 Tryz.underlying55 hiL hzL0 hzL1 hzL2 rfl (by decide) ov m vs rfl hO1.out ⟨w.heap.size, 0, none⟩ 1 1 [.slice oa l.length cap] rfl rfl hnb.out (by simpa using h1v.out) (by decide) (by unfold maxLen; omega) (by omega) (Nat.zero_le _) ?_); intro g2 cap2 w2 hnew2 hold2 hat2; have hb2 := hide' (boxA hbk.out hat2); have c42 := hb2.out.c4; have f42 := hb2.out.fz 4))
    obtain ⟨tag2, rows2, hrm, hHB, hFr, hv3⟩ := stageA hbk.out (by omega) hv'.out hl hvt'.out hnew2 hold2 hat2
    generalize w2.setCell ⟨b, 4, none⟩ (.slice (some ⟨g2, 0, none⟩) (m + 1) cap2) = W3 at *
    have hHB' := hide' hHB
    have hFr' := hide' hFr
    have hv3' := hide' hv3
    have hrm' := hide' hrm
    have c5 := hHB.box.c5
    have hbs := hHB.box.lt
    have hm1 := hHB.hN
    clear hHB hFr hv3 hrm hbk hb1 c4 hO1 hnb hb2 c42 f42 hnew2 hold2 hat2 hv' KF c12 f12 hlt
    have cV := hide' (fun V (h : Below W3.heap.size W3 V) => (boxW hHB'.out h).c5)
    have B0 : Hid (Below W3.heap.size W3 W3.drew) := (Below.refl _ _).drew
    have B1 : Hid (Below W3.heap.size W3 (W3.drew.alloc (.cells #[] 3))) := B0.out.alloc (Nat.le_refl _) _
    have c5a := cV.out _ B0.out
    have c5b := cV.out _ B1.out
    have hZ := hide' (owns_zero W3.drew W3.heap.size (Nat.le_refl _) 3)
    have hR := hide' ((RowI.of_owns hv3'.out).below B1.out (Nat.le_refl _))
    refine wp_region_held_drew (S := (fun _ => True)) (by kernel_rfl) ?_ (fun hHeld => ?_)
    · trivial
    refine wpAnyH_take (i := 0) (oi := { dst := some 27, op := Op.move (Operand.tmp 0), type := 53, pos := "keep.go:39", after := #[], guard := none }) (v := ?_) rfl (by kernel_rfl) (by kernel_rfl) (by kernel_rfl) (fun _ _ _ h => h) (Or.inl ⟨by rfl, ?_⟩) (by assumption) ?_
    rotate_left
    · intro w hSw; (try dsimp only at hSw); go_simp <;> with_reducible rfl
    simp only [Act.put, List.setIfInBounds_toArray, List.set_cons_zero, List.set_cons_succ]
    refine wpAnyH_take (i := 1) (oi := { dst := some 28, op := Op.move (Operand.tmp 0), type := 53, pos := "keep.go:39", after := #[], guard := none }) (v := ?_) rfl (by kernel_rfl) (by kernel_rfl) (by kernel_rfl) (fun _ _ _ h => h) (Or.inl ⟨by rfl, ?_⟩) (by assumption) ?_
    rotate_left
    · intro w hSw; (try dsimp only at hSw); go_simp <;> with_reducible rfl
    simp only [Act.put, List.setIfInBounds_toArray, List.set_cons_zero, List.set_cons_succ]
    refine wpAnyH_take (i := 2) (oi := { dst := some 29, op := Op.nilCheck (Operand.tmp 28), type := 0, pos := "keep.go:39", after := #[{ on := 1, ground := Ground.data }], guard := none }) (v := ?_) rfl (by kernel_rfl) (by kernel_rfl) (by kernel_rfl) (fun _ _ _ h => h) (Or.inl ⟨by rfl, ?_⟩) (by assumption) ?_
    rotate_left
    · intro w hSw; (try dsimp only at hSw); go_simp <;> with_reducible rfl
    simp only [Act.put, List.setIfInBounds_toArray, List.set_cons_zero, List.set_cons_succ]
    refine wpAnyH_take (i := 3) (oi := { dst := some 30, op := Op.fieldAddr 58 (Operand.tmp 29) 5, type := 0, pos := "keep.go:39", after := #[{ on := 2, ground := Ground.data }], guard := none }) (v := ?_) rfl (by kernel_rfl) (by kernel_rfl) (by kernel_rfl) (fun _ _ _ h => h) (Or.inl ⟨by rfl, ?_⟩) (by assumption) ?_
    rotate_left
    · intro w hSw; (try dsimp only at hSw); go_simp <;> with_reducible rfl
    simp only [Act.put, List.setIfInBounds_toArray, List.set_cons_zero, List.set_cons_succ]
    refine wpAnyH_take (i := 6) (oi := { dst := some 33, op := Op.move (Operand.tmp 1), type := 48, pos := "keep.go:39", after := #[], guard := none }) (v := ?_) rfl (by kernel_rfl) (by kernel_rfl) (by kernel_rfl) (fun _ _ _ h => h) (Or.inl ⟨by rfl, ?_⟩) (by assumption) ?_
    rotate_left
    · intro w hSw; (try dsimp only at hSw); go_simp <;> with_reducible rfl
    simp only [Act.put, List.setIfInBounds_toArray, List.set_cons_zero, List.set_cons_succ]
    refine wpAnyH_ready (rs := [4, 5]) (by kernel_rfl) (by simp) ?_
    refine AllReadyH.cons (o := { dst := some 31, op := Op.load 55 (Operand.tmp 30), type := 55, pos := "keep.go:39", after := #[{ on := 3, ground := Ground.data }], guard := none }) rfl (fun K hK => ?_) ?_
    · skip
      go_simp
      refine hK.out _ _ ?_ (fun hHeld => ?_)
      · trivial
      clear hK K
      try simp only [Act.put, List.setIfInBounds_toArray, List.set_cons_zero, List.set_cons_succ]
      refine wpAnyH_ready (rs := [5]) (by kernel_rfl) (by simp) ?_
      refine AllReadyH.cons (o := { dst := some 32, op := Op.buildSlice 48 0 #[], type := 48, pos := "keep.go:39", after := #[], guard := none }) rfl (fun K hK => ?_) AllReadyH.nil
      go_simp
      refine hK.out _ _ ?_ (fun hHeld => ?_)
      · trivial
      clear hK K
      try simp only [Act.put, List.setIfInBounds_toArray, List.set_cons_zero, List.set_cons_succ]
      refine wpAnyH_ready (rs := [7]) (by kernel_rfl) (by simp) ?_
      refine AllReadyH.cons (o := { dst := some 34, op := Op.call { callee := Callee.builtin Builtin.append, args := #[Operand.tmp 32, Operand.tmp 33], argTypes := #[48, 48] }, type := 48, pos := "keep.go:39", after := #[{ on := 5, ground := Ground.data }, { on := 6, ground := Ground.data }], guard := none }) rfl (fun K hK => ?_) AllReadyH.nil
      rw [if_pos (by rfl)]
      refine wp_copyZ _ (.tmp 32) (.tmp 33) W3.heap.size (.slice oa l.length cap) l rfl rfl hZ.out rfl hR.out hl ?_; intro u w4 hu4 hg4; obtain ⟨ou, cu, rfl⟩ := own_shape hu4; have hB4 := hide' (B1.out.grown hg4 (by simp) (fun j ej => by cases ej; exact Nat.le_refl _)); have c5c := cV.out _ hB4.out; have B5 : Hid (Below W3.heap.size W3 (w4.alloc (.cells #[.slice ou l.length cu] 48))) := hB4.out.alloc hB4.out.size _; have c5d := cV.out _ B5.out; have h1u := hide' (own_one hu4); have hu4' := hide' hu4; have hO5 := hide' (outW hHB'.out B5.out); clear hu4 hg4; (try dsimp only)
      refine hK.out _ _ ?_ (fun hHeld => ?_)
      · trivial
      clear hK K
      try simp only [Act.put, List.setIfInBounds_toArray, List.set_cons_zero, List.set_cons_succ]
      refine wpAnyH_ready (rs := [8]) (by kernel_rfl) (by simp) ?_
      refine AllReadyH.cons (o := { dst := some 35, op := Op.buildSlice 55 1 #[(0, Operand.tmp 34)], type := 55, pos := "keep.go:39", after := #[{ on := 7, ground := Ground.data }], guard := none }) rfl (fun K hK => ?_) AllReadyH.nil
      go_simp
      refine hK.out _ _ ?_ (fun hHeld => ?_)
      · trivial
      clear hK K
      try simp only [Act.put, List.setIfInBounds_toArray, List.set_cons_zero, List.set_cons_succ]
      refine wpAnyH_ready (rs := [9]) (by kernel_rfl) (by simp) ?_
      refine AllReadyH.cons (o := { dst := some 36, op := Op.call { callee := Callee.builtin Builtin.append, args := #[Operand.tmp 31, Operand.tmp 35], argTypes := #[55, 55] }, type := 55, pos := "keep.go:39", after := #[{ on := 4, ground := Ground.data }, { on := 8, ground := Ground.data }, { on := 7, ground := Ground.chain }], guard := none }) rfl (fun K hK => ?_) AllReadyH.nil
      rw [if_pos (by rfl)]
      refine wp_append_two _ (.tmp 31) (.tmp 35) 55 rfl 0 48 iL (.slice none 0 0) 1 24 Tryz.underlying55 hiL hzL0 hzL1 hzL2 rfl (by decide) ow m us rfl hO5.out ⟨w4.heap.size, 0, none⟩ 1 1 [.slice ou l.length cu] rfl rfl (cell_one_new _ _ _) (by simpa using h1u.out) (by decide) (by unfold maxLen; omega) (by omega) (Nat.zero_le _) ?_; intro g5 cap5 w5 hnew5 hold5 hat5; have hb5 := hide' (boxE hHB'.out hB4.out hat5); have c5f := hb5.out.c5; have f5f := hb5.out.fz 5; (try dsimp only)
      refine hK.out _ _ ?_ (fun hHeld => ?_)
      · trivial
      clear hK K
      try simp only [Act.put, List.setIfInBounds_toArray, List.set_cons_zero, List.set_cons_succ]
      refine wpAnyH_take (i := 10) (oi := { dst := some 37, op := Op.nilCheck (Operand.tmp 27), type := 0, pos := "keep.go:39", after := #[{ on := 0, ground := Ground.data }, { on := 0, ground := Ground.phase }, { on := 1, ground := Ground.phase }, { on := 2, ground := Ground.phase }, { on := 3, ground := Ground.phase }, { on := 4, ground := Ground.phase }, { on := 5, ground := Ground.phase }, { on := 6, ground := Ground.phase }, { on := 7, ground := Ground.phase }, { on := 8, ground := Ground.phase }, { on := 9, ground := Ground.phase }], guard := none }) (v := ?_) rfl (by kernel_rfl) (by kernel_rfl) (by kernel_rfl) (fun _ _ _ h => h) (Or.inl ⟨by rfl, ?_⟩) (by assumption) ?_
      rotate_left
      · intro w hSw; (try dsimp only at hSw); go_simp <;> with_reducible rfl
      simp only [Act.put, List.setIfInBounds_toArray, List.set_cons_zero, List.set_cons_succ]
      refine wpAnyH_take (i := 11) (oi := { dst := some 38, op := Op.fieldAddr 58 (Operand.tmp 37) 5, type := 0, pos := "keep.go:39", after := #[{ on := 10, ground := Ground.data }, { on := 0, ground := Ground.phase }, { on := 1, ground := Ground.phase }, { on := 2, ground := Ground.phase }, { on := 3, ground := Ground.phase }, { on := 4, ground := Ground.phase }, { on := 5, ground := Ground.phase }, { on := 6, ground := Ground.phase }, { on := 7, ground := Ground.phase }, { on := 8, ground := Ground.phase }, { on := 9, ground := Ground.phase }], guard := none }) (v := ?_) rfl (by kernel_rfl) (by kernel_rfl) (by kernel_rfl) (fun _ _ _ h => h) (Or.inl ⟨by rfl, ?_⟩) (by assumption) ?_
      rotate_left
      · intro w hSw; (try dsimp only at hSw); go_simp <;> with_reducible rfl
      simp only [Act.put, List.setIfInBounds_toArray, List.set_cons_zero, List.set_cons_succ]
      refine wpAnyH_ready (rs := [12]) (by kernel_rfl) (by simp) ?_
      refine AllReadyH.cons (o := { dst := none, op := Op.store 55 (Operand.tmp 38) (Operand.tmp 36), type := 0, pos := "keep.go:39", after := #[{ on := 11, ground := Ground.data }, { on := 9, ground := Ground.data }, { on := 9, ground := Ground.chain }, { on := 0, ground := Ground.phase }, { on := 1, ground := Ground.phase }, { on := 2, ground := Ground.phase }, { on := 3, ground := Ground.phase }, { on := 4, ground := Ground.phase }, { on := 5, ground := Ground.phase }, { on := 6, ground := Ground.phase }, { on := 7, ground := Ground.phase }, { on := 8, ground := Ground.phase }, { on := 9, ground := Ground.phase }], guard := none }) rfl (fun K hK => ?_) AllReadyH.nil
      go_simp
      refine hK.out _ _ ?_ (fun hHeld => ?_)
      · trivial
      clear hK K
      try simp only [Act.put, List.setIfInBounds_toArray, List.set_cons_zero, List.set_cons_succ]
      refine wpAnyH_done (by kernel_rfl) ?_ _
      skip
      go_wp2
      first | go_end0 | refine bodyPost_ret (results_none rfl _ _ _) rfl ?_
      obtain ⟨tag3, hBk3, hFr3⟩ := stageB hHB'.out hB4.out (by rw [hrm'.out]; exact hu4'.out) hnew5 hold5 hat5
      exact ⟨rfl, tag3, hBk3, hFr'.out.trans hFr3⟩
    refine AllReadyH.cons (o := { dst := some 32, op := Op.buildSlice 48 0 #[], type := 48, pos := "keep.go:39", after := #[], guard := none }) rfl (fun K hK => ?_) AllReadyH.nil
    go_simp
    refine hK.out _ _ ?_ (fun hHeld => ?_)
    · trivial
    clear hK K
    try simp only [Act.put, List.setIfInBounds_toArray, List.set_cons_zero, List.set_cons_succ]
    refine wpAnyH_ready (rs := [4, 7]) (by kernel_rfl) (by simp) ?_
    refine AllReadyH.cons (o := { dst := some 31, op := Op.load 55 (Operand.tmp 30), type := 55, pos := "keep.go:39", after := #[{ on := 3, ground := Ground.data }], guard := none }) rfl (fun K hK => ?_) ?_
    · skip
      go_simp
      refine hK.out _ _ ?_ (fun hHeld => ?_)
      · trivial
      clear hK K
      try simp only [Act.put, List.setIfInBounds_toArray, List.set_cons_zero, List.set_cons_succ]
      refine wpAnyH_ready (rs := [7]) (by kernel_rfl) (by simp) ?_
      refine AllReadyH.cons (o := { dst := some 34, op := Op.call { callee := Callee.builtin Builtin.append, args := #[Operand.tmp 32, Operand.tmp 33], argTypes := #[48, 48] }, type := 48, pos := "keep.go:39", after := #[{ on := 5, ground := Ground.data }, { on := 6, ground := Ground.data }], guard := none }) rfl (fun K hK => ?_) AllReadyH.nil
      rw [if_pos (by rfl)]
      refine wp_copyZ _ (.tmp 32) (.tmp 33) W3.heap.size (.slice oa l.length cap) l rfl rfl hZ.out rfl hR.out hl ?_; intro u w4 hu4 hg4; obtain ⟨ou, cu, rfl⟩ := own_shape hu4; have hB4 := hide' (B1.out.grown hg4 (by simp) (fun j ej => by cases ej; exact Nat.le_refl _)); have c5c := cV.out _ hB4.out; have B5 : Hid (Below W3.heap.size W3 (w4.alloc (.cells #[.slice ou l.length cu] 48))) := hB4.out.alloc hB4.out.size _; have c5d := cV.out _ B5.out; have h1u := hide' (own_one hu4); have hu4' := hide' hu4; have hO5 := hide' (outW hHB'.out B5.out); clear hu4 hg4; (try dsimp only)
      refine hK.out _ _ ?_ (fun hHeld => ?_)
      · trivial
      clear hK K
      try simp only [Act.put, List.setIfInBounds_toArray, List.set_cons_zero, List.set_cons_succ]
      refine wpAnyH_ready (rs := [8]) (by kernel_rfl) (by simp) ?_
      refine AllReadyH.cons (o := { dst := some 35, op := Op.buildSlice 55 1 #[(0, Operand.tmp 34)], type := 55, pos := "keep.go:39", after := #[{ on := 7, ground := Ground.data }], guard := none }) rfl (fun K hK => ?_) AllReadyH.nil
      go_simp
      refine hK.out _ _ ?_ (fun hHeld => ?_)
      · trivial
      clear hK K
      try simp only [Act.put, List.setIfInBounds_toArray, List.set_cons_zero, List.set_cons_succ]
      refine wpAnyH_ready (rs := [9]) (by kernel_rfl) (by simp) ?_
      refine AllReadyH.cons (o := { dst := some 36, op := Op.call { callee := Callee.builtin Builtin.append, args := #[Operand.tmp 31, Operand.tmp 35], argTypes := #[55, 55] }, type := 55, pos := "keep.go:39", after := #[{ on := 4, ground := Ground.data }, { on := 8, ground := Ground.data }, { on := 7, ground := Ground.chain }], guard := none }) rfl (fun K hK => ?_) AllReadyH.nil
      rw [if_pos (by rfl)]
      refine wp_append_two _ (.tmp 31) (.tmp 35) 55 rfl 0 48 iL (.slice none 0 0) 1 24 Tryz.underlying55 hiL hzL0 hzL1 hzL2 rfl (by decide) ow m us rfl hO5.out ⟨w4.heap.size, 0, none⟩ 1 1 [.slice ou l.length cu] rfl rfl (cell_one_new _ _ _) (by simpa using h1u.out) (by decide) (by unfold maxLen; omega) (by omega) (Nat.zero_le _) ?_; intro g5 cap5 w5 hnew5 hold5 hat5; have hb5 := hide' (boxE hHB'.out hB4.out hat5); have c5f := hb5.out.c5; have f5f := hb5.out.fz 5; (try dsimp only)
      refine hK.out _ _ ?_ (fun hHeld => ?_)
      · trivial
      clear hK K
      try simp only [Act.put, List.setIfInBounds_toArray, List.set_cons_zero, List.set_cons_succ]
      refine wpAnyH_take (i := 10) (oi := { dst := some 37, op := Op.nilCheck (Operand.tmp 27), type := 0, pos := "keep.go:39", after := #[{ on := 0, ground := Ground.data }, { on := 0, ground := Ground.phase }, { on := 1, ground := Ground.phase }, { on := 2, ground := Ground.phase }, { on := 3, ground := Ground.phase }, { on := 4, ground := Ground.phase }, { on := 5, ground := Ground.phase }, { on := 6, ground := Ground.phase }, { on := 7, ground := Ground.phase }, { on := 8, ground := Ground.phase }, { on := 9, ground := Ground.phase }], guard := none }) (v := ?_) rfl (by kernel_rfl) (by kernel_rfl) (by kernel_rfl) (fun _ _ _ h => h) (Or.inl ⟨by rfl, ?_⟩) (by assumption) ?_
      rotate_left
      · intro w hSw; (try dsimp only at hSw); go_simp <;> with_reducible rfl
      simp only [Act.put, List.setIfInBounds_toArray, List.set_cons_zero, List.set_cons_succ]
      refine wpAnyH_take (i := 11) (oi := { dst := some 38, op := Op.fieldAddr 58 (Operand.tmp 37) 5, type := 0, pos := "keep.go:39", after := #[{ on := 10, ground := Ground.data }, { on := 0, ground := Ground.phase }, { on := 1, ground := Ground.phase }, { on := 2, ground := Ground.phase }, { on := 3, ground := Ground.phase }, { on := 4, ground := Ground.phase }, { on := 5, ground := Ground.phase }, { on := 6, ground := Ground.phase }, { on := 7, ground := Ground.phase }, { on := 8, ground := Ground.phase }, { on := 9, ground := Ground.phase }], guard := none }) (v := ?_) rfl (by kernel_rfl) (by kernel_rfl) (by kernel_rfl) (fun _ _ _ h => h) (Or.inl ⟨by rfl, ?_⟩) (by assumption) ?_
      rotate_left
      · intro w hSw; (try dsimp only at hSw); go_simp <;> with_reducible rfl
      simp only [Act.put, List.setIfInBounds_toArray, List.set_cons_zero, List.set_cons_succ]
      refine wpAnyH_ready (rs := [12]) (by kernel_rfl) (by simp) ?_
      refine AllReadyH.cons (o := { dst := none, op := Op.store 55 (Operand.tmp 38) (Operand.tmp 36), type := 0, pos := "keep.go:39", after := #[{ on := 11, ground := Ground.data }, { on := 9, ground := Ground.data }, { on := 9, ground := Ground.chain }, { on := 0, ground := Ground.phase }, { on := 1, ground := Ground.phase }, { on := 2, ground := Ground.phase }, { on := 3, ground := Ground.phase }, { on := 4, ground := Ground.phase }, { on := 5, ground := Ground.phase }, { on := 6, ground := Ground.phase }, { on := 7, ground := Ground.phase }, { on := 8, ground := Ground.phase }, { on := 9, ground := Ground.phase }], guard := none }) rfl (fun K hK => ?_) AllReadyH.nil
      go_simp
      refine hK.out _ _ ?_ (fun hHeld => ?_)
      · trivial
      clear hK K
      try simp only [Act.put, List.setIfInBounds_toArray, List.set_cons_zero, List.set_cons_succ]
      refine wpAnyH_done (by kernel_rfl) ?_ _
      skip
      go_wp2
      first | go_end0 | refine bodyPost_ret (results_none rfl _ _ _) rfl ?_
      obtain ⟨tag3, hBk3, hFr3⟩ := stageB hHB'.out hB4.out (by rw [hrm'.out]; exact hu4'.out) hnew5 hold5 hat5
      exact ⟨rfl, tag3, hBk3, hFr'.out.trans hFr3⟩
    refine AllReadyH.cons (o := { dst := some 34, op := Op.call { callee := Callee.builtin Builtin.append, args := #[Operand.tmp 32, Operand.tmp 33], argTypes := #[48, 48] }, type := 48, pos := "keep.go:39", after := #[{ on := 5, ground := Ground.data }, { on := 6, ground := Ground.data }], guard := none }) rfl (fun K hK => ?_) AllReadyH.nil
    rw [if_pos (by rfl)]
    refine wp_copyZ _ (.tmp 32) (.tmp 33) W3.heap.size (.slice oa l.length cap) l rfl rfl hZ.out rfl hR.out hl ?_; intro u w4 hu4 hg4; obtain ⟨ou, cu, rfl⟩ := own_shape hu4; have hB4 := hide' (B1.out.grown hg4 (by simp) (fun j ej => by cases ej; exact Nat.le_refl _)); have c5c := cV.out _ hB4.out; have B5 : Hid (Below W3.heap.size W3 (w4.alloc (.cells #[.slice ou l.length cu] 48))) := hB4.out.alloc hB4.out.size _; have c5d := cV.out _ B5.out; have h1u := hide' (own_one hu4); have hu4' := hide' hu4; have hO5 := hide' (outW hHB'.out B5.out); clear hu4 hg4; (try dsimp only)
    refine hK.out _ _ ?_ (fun hHeld => ?_)
    · trivial
    clear hK K
    try simp only [Act.put, List.setIfInBounds_toArray, List.set_cons_zero, List.set_cons_succ]
    refine wpAnyH_ready (rs := [4, 8]) (by kernel_rfl) (by simp) ?_
    refine AllReadyH.cons (o := { dst := some 31, op := Op.load 55 (Operand.tmp 30), type := 55, pos := "keep.go:39", after := #[{ on := 3, ground := Ground.data }], guard := none }) rfl (fun K hK => ?_) ?_
    · skip
      go_simp
      refine hK.out _ _ ?_ (fun hHeld => ?_)
      · trivial
      clear hK K
      try simp only [Act.put, List.setIfInBounds_toArray, List.set_cons_zero, List.set_cons_succ]
      refine wpAnyH_ready (rs := [8]) (by kernel_rfl) (by simp) ?_
      refine AllReadyH.cons (o := { dst := some 35, op := Op.buildSlice 55 1 #[(0, Operand.tmp 34)], type := 55, pos := "keep.go:39", after := #[{ on := 7, ground := Ground.data }], guard := none }) rfl (fun K hK => ?_) AllReadyH.nil
      go_simp
      refine hK.out _ _ ?_ (fun hHeld => ?_)
      · trivial
      clear hK K
      try simp only [Act.put, List.setIfInBounds_toArray, List.set_cons_zero, List.set_cons_succ]
      refine wpAnyH_ready (rs := [9]) (by kernel_rfl) (by simp) ?_
      refine AllReadyH.cons (o := { dst := some 36, op := Op.call { callee := Callee.builtin Builtin.append, args := #[Operand.tmp 31, Operand.tmp 35], argTypes := #[55, 55] }, type := 55, pos := "keep.go:39", after := #[{ on := 4, ground := Ground.data }, { on := 8, ground := Ground.data }, { on := 7, ground := Ground.chain }], guard := none }) rfl (fun K hK => ?_) AllReadyH.nil
      rw [if_pos (by rfl)]
      refine wp_append_two _ (.tmp 31) (.tmp 35) 55 rfl 0 48 iL (.slice none 0 0) 1 24 Tryz.underlying55 hiL hzL0 hzL1 hzL2 rfl (by decide) ow m us rfl hO5.out ⟨w4.heap.size, 0, none⟩ 1 1 [.slice ou l.length cu] rfl rfl (cell_one_new _ _ _) (by simpa using h1u.out) (by decide) (by unfold maxLen; omega) (by omega) (Nat.zero_le _) ?_; intro g5 cap5 w5 hnew5 hold5 hat5; have hb5 := hide' (boxE hHB'.out hB4.out hat5); have c5f := hb5.out.c5; have f5f := hb5.out.fz 5; (try dsimp only)
      refine hK.out _ _ ?_ (fun hHeld => ?_)
      · trivial
      clear hK K
      try simp only [Act.put, List.setIfInBounds_toArray, List.set_cons_zero, List.set_cons_succ]
      refine wpAnyH_take (i := 10) (oi := { dst := some 37, op := Op.nilCheck (Operand.tmp 27), type := 0, pos := "keep.go:39", after := #[{ on := 0, ground := Ground.data }, { on := 0, ground := Ground.phase }, { on := 1, ground := Ground.phase }, { on := 2, ground := Ground.phase }, { on := 3, ground := Ground.phase }, { on := 4, ground := Ground.phase }, { on := 5, ground := Ground.phase }, { on := 6, ground := Ground.phase }, { on := 7, ground := Ground.phase }, { on := 8, ground := Ground.phase }, { on := 9, ground := Ground.phase }], guard := none }) (v := ?_) rfl (by kernel_rfl) (by kernel_rfl) (by kernel_rfl) (fun _ _ _ h => h) (Or.inl ⟨by rfl, ?_⟩) (by assumption) ?_
      rotate_left
      · intro w hSw; (try dsimp only at hSw); go_simp <;> with_reducible rfl
      simp only [Act.put, List.setIfInBounds_toArray, List.set_cons_zero, List.set_cons_succ]
      refine wpAnyH_take (i := 11) (oi := { dst := some 38, op := Op.fieldAddr 58 (Operand.tmp 37) 5, type := 0, pos := "keep.go:39", after := #[{ on := 10, ground := Ground.data }, { on := 0, ground := Ground.phase }, { on := 1, ground := Ground.phase }, { on := 2, ground := Ground.phase }, { on := 3, ground := Ground.phase }, { on := 4, ground := Ground.phase }, { on := 5, ground := Ground.phase }, { on := 6, ground := Ground.phase }, { on := 7, ground := Ground.phase }, { on := 8, ground := Ground.phase }, { on := 9, ground := Ground.phase }], guard := none }) (v := ?_) rfl (by kernel_rfl) (by kernel_rfl) (by kernel_rfl) (fun _ _ _ h => h) (Or.inl ⟨by rfl, ?_⟩) (by assumption) ?_
      rotate_left
      · intro w hSw; (try dsimp only at hSw); go_simp <;> with_reducible rfl
      simp only [Act.put, List.setIfInBounds_toArray, List.set_cons_zero, List.set_cons_succ]
      refine wpAnyH_ready (rs := [12]) (by kernel_rfl) (by simp) ?_
      refine AllReadyH.cons (o := { dst := none, op := Op.store 55 (Operand.tmp 38) (Operand.tmp 36), type := 0, pos := "keep.go:39", after := #[{ on := 11, ground := Ground.data }, { on := 9, ground := Ground.data }, { on := 9, ground := Ground.chain }, { on := 0, ground := Ground.phase }, { on := 1, ground := Ground.phase }, { on := 2, ground := Ground.phase }, { on := 3, ground := Ground.phase }, { on := 4, ground := Ground.phase }, { on := 5, ground := Ground.phase }, { on := 6, ground := Ground.phase }, { on := 7, ground := Ground.phase }, { on := 8, ground := Ground.phase }, { on := 9, ground := Ground.phase }], guard := none }) rfl (fun K hK => ?_) AllReadyH.nil
      go_simp
      refine hK.out _ _ ?_ (fun hHeld => ?_)
      · trivial
      clear hK K
      try simp only [Act.put, List.setIfInBounds_toArray, List.set_cons_zero, List.set_cons_succ]
      refine wpAnyH_done (by kernel_rfl) ?_ _
      skip
      go_wp2
      first | go_end0 | refine bodyPost_ret (results_none rfl _ _ _) rfl ?_
      obtain ⟨tag3, hBk3, hFr3⟩ := stageB hHB'.out hB4.out (by rw [hrm'.out]; exact hu4'.out) hnew5 hold5 hat5
      exact ⟨rfl, tag3, hBk3, hFr'.out.trans hFr3⟩
    refine AllReadyH.cons (o := { dst := some 35, op := Op.buildSlice 55 1 #[(0, Operand.tmp 34)], type := 55, pos := "keep.go:39", after := #[{ on := 7, ground := Ground.data }], guard := none }) rfl (fun K hK => ?_) AllReadyH.nil
    go_simp
    refine hK.out _ _ ?_ (fun hHeld => ?_)
    · trivial
    clear hK K
    try simp only [Act.put, List.setIfInBounds_toArray, List.set_cons_zero, List.set_cons_succ]
    refine wpAnyH_ready (rs := [4]) (by kernel_rfl) (by simp) ?_
    refine AllReadyH.cons (o := { dst := some 31, op := Op.load 55 (Operand.tmp 30), type := 55, pos := "keep.go:39", after := #[{ on := 3, ground := Ground.data }], guard := none }) rfl (fun K hK => ?_) AllReadyH.nil
    go_simp
    refine hK.out _ _ ?_ (fun hHeld => ?_)
    · trivial
    clear hK K
    try simp only [Act.put, List.setIfInBounds_toArray, List.set_cons_zero, List.set_cons_succ]
    refine wpAnyH_ready (rs := [9]) (by kernel_rfl) (by simp) ?_
    refine AllReadyH.cons (o := { dst := some 36, op := Op.call { callee := Callee.builtin Builtin.append, args := #[Operand.tmp 31, Operand.tmp 35], argTypes := #[55, 55] }, type := 55, pos := "keep.go:39", after := #[{ on := 4, ground := Ground.data }, { on := 8, ground := Ground.data }, { on := 7, ground := Ground.chain }], guard := none }) rfl (fun K hK => ?_) AllReadyH.nil
    rw [if_pos (by rfl)]
    refine wp_append_two _ (.tmp 31) (.tmp 35) 55 rfl 0 48 iL (.slice none 0 0) 1 24 Tryz.underlying55 hiL hzL0 hzL1 hzL2 rfl (by decide) ow m us rfl hO5.out ⟨w4.heap.size, 0, none⟩ 1 1 [.slice ou l.length cu] rfl rfl (cell_one_new _ _ _) (by simpa using h1u.out) (by decide) (by unfold maxLen; omega) (by omega) (Nat.zero_le _) ?_; intro g5 cap5 w5 hnew5 hold5 hat5; have hb5 := hide' (boxE hHB'.out hB4.out hat5); have c5f := hb5.out.c5; have f5f := hb5.out.fz 5; (try dsimp only)
    refine hK.out _ _ ?_ (fun hHeld => ?_)
    · trivial
    clear hK K
    try simp only [Act.put, List.setIfInBounds_toArray, List.set_cons_zero, List.set_cons_succ]
    refine wpAnyH_take (i := 10) (oi := { dst := some 37, op := Op.nilCheck (Operand.tmp 27), type := 0, pos := "keep.go:39", after := #[{ on := 0, ground := Ground.data }, { on := 0, ground := Ground.phase }, { on := 1, ground := Ground.phase }, { on := 2, ground := Ground.phase }, { on := 3, ground := Ground.phase }, { on := 4, ground := Ground.phase }, { on := 5, ground := Ground.phase }, { on := 6, ground := Ground.phase }, { on := 7, ground := Ground.phase }, { on := 8, ground := Ground.phase }, { on := 9, ground := Ground.phase }], guard := none }) (v := ?_) rfl (by kernel_rfl) (by kernel_rfl) (by kernel_rfl) (fun _ _ _ h => h) (Or.inl ⟨by rfl, ?_⟩) (by assumption) ?_
    rotate_left
    · intro w hSw; (try dsimp only at hSw); go_simp <;> with_reducible rfl
    simp only [Act.put, List.setIfInBounds_toArray, List.set_cons_zero, List.set_cons_succ]
    refine wpAnyH_take (i := 11) (oi := { dst := some 38, op := Op.fieldAddr 58 (Operand.tmp 37) 5, type := 0, pos := "keep.go:39", after := #[{ on := 10, ground := Ground.data }, { on := 0, ground := Ground.phase }, { on := 1, ground := Ground.phase }, { on := 2, ground := Ground.phase }, { on := 3, ground := Ground.phase }, { on := 4, ground := Ground.phase }, { on := 5, ground := Ground.phase }, { on := 6, ground := Ground.phase }, { on := 7, ground := Ground.phase }, { on := 8, ground := Ground.phase }, { on := 9, ground := Ground.phase }], guard := none }) (v := ?_) rfl (by kernel_rfl) (by kernel_rfl) (by kernel_rfl) (fun _ _ _ h => h) (Or.inl ⟨by rfl, ?_⟩) (by assumption) ?_
    rotate_left
    · intro w hSw; (try dsimp only at hSw); go_simp <;> with_reducible rfl
    simp only [Act.put, List.setIfInBounds_toArray, List.set_cons_zero, List.set_cons_succ]
    refine wpAnyH_ready (rs := [12]) (by kernel_rfl) (by simp) ?_
    refine AllReadyH.cons (o := { dst := none, op := Op.store 55 (Operand.tmp 38) (Operand.tmp 36), type := 0, pos := "keep.go:39", after := #[{ on := 11, ground := Ground.data }, { on := 9, ground := Ground.data }, { on := 9, ground := Ground.chain }, { on := 0, ground := Ground.phase }, { on := 1, ground := Ground.phase }, { on := 2, ground := Ground.phase }, { on := 3, ground := Ground.phase }, { on := 4, ground := Ground.phase }, { on := 5, ground := Ground.phase }, { on := 6, ground := Ground.phase }, { on := 7, ground := Ground.phase }, { on := 8, ground := Ground.phase }, { on := 9, ground := Ground.phase }], guard := none }) rfl (fun K hK => ?_) AllReadyH.nil
    go_simp
    refine hK.out _ _ ?_ (fun hHeld => ?_)
    · trivial
    clear hK K
    try simp only [Act.put, List.setIfInBounds_toArray, List.set_cons_zero, List.set_cons_succ]
    refine wpAnyH_done (by kernel_rfl) ?_ _
    skip
    go_wp2
    first | go_end0 | refine bodyPost_ret (results_none rfl _ _ _) rfl ?_
    obtain ⟨tag3, hBk3, hFr3⟩ := stageB hHB'.out hB4.out (by rw [hrm'.out]; exact hu4'.out) hnew5 hold5 hat5
    exact ⟨rfl, tag3, hBk3, hFr'.out.trans hFr3⟩
end Go.Proofs.YtlipdccfhnnleaaGreatDoor.K
namespace Go.Proofs.YtlipdccfhnnleaaGreatDoor.K
open Go.RowKit
theorem famNil (w : World) (tag : Nat → Nat) (t : Nat) (c : Nat → Nat) (rows : Nat → List Int) : Fam w tag t c (.slice none 0 0) 0 [] rows :=
  ⟨World.ownsRow_nil _ _ _ _, fun g e => by simp [Value.ownBlock] at e, fun j v hj => by simp at hj, fun j v g hj => by simp at hj⟩
theorem Book.below {w w' : World} {b : Nat} {tag : Nat → Nat} (h : Book w b tag) (hB : Below w.heap.size w w') : Book w' b tag := by
  obtain ⟨ov, ow, m, vs, us, rows, N, hk⟩ := h
  exact ⟨ov, ow, m, vs, us, rows, N, hk.below hB⟩
theorem Book.lt {w : World} {b : Nat} {tag : Nat → Nat} (h : Book w b tag) : b < w.heap.size := by
  obtain ⟨ov, ow, m, vs, us, rows, N, hk⟩ := h
  exact hk.box.lt
theorem Book.fresh {w : World} {b : Nat} {tag : Nat → Nat} (h : Book w b tag) : ∀ g, w.heap.size ≤ g → tag g = 0 := by
  obtain ⟨ov, ow, m, vs, us, rows, N, hk⟩ := h
  exact hk.fresh
theorem Book.start (w : World) : Book (w.alloc (.cells #[.slice none 0 0, .slice none 0 0, .slice none 0 0, .slice none 0 0, .slice none 0 0, .slice none 0 0, .slice none 0 0, .slice none 0 0, .slice none 0 0, .slice none 0 0, .slice none 0 0, .slice none 0 0, .int .i64 0] 58)) w.heap.size (fun g => if g = w.heap.size then 1 else 0) :=
  ⟨_, _, 0, [], [], fun _ => [], 0, ⟨heap_new w _, if_pos rfl, famNil _ _ _ _ _, famNil _ _ _ _ _, fun g hg => if_neg (by simp at hg; omega), ⟨Nat.le_refl _, by decide⟩, fun j hj => by omega⟩⟩
/-- A book, and what was there when it was made. -/
def BookO (W0 : World) (b : Nat) (W : World) : Prop := Below b W0 W ∧ ∃ tag, Book W b tag ∧ ∀ g, g < b → tag g = 0
theorem BookO.below {W0 W W' : World} {b : Nat} (h : BookO W0 b W) (hB : Below W.heap.size W W') : BookO W0 b W' := by
  obtain ⟨h1, tag, h2, h3⟩ := h
  exact ⟨h1.trans (hB.mono (Nat.le_of_lt h2.lt)), tag, h2.below hB, h3⟩
theorem BookO.start (w : World) : BookO (w.alloc (.cells #[.slice none 0 0, .slice none 0 0, .slice none 0 0, .slice none 0 0, .slice none 0 0, .slice none 0 0, .slice none 0 0, .slice none 0 0, .slice none 0 0, .slice none 0 0, .slice none 0 0, .slice none 0 0, .int .i64 0] 58)) w.heap.size (w.alloc (.cells #[.slice none 0 0, .slice none 0 0, .slice none 0 0, .slice none 0 0, .slice none 0 0, .slice none 0 0, .slice none 0 0, .slice none 0 0, .slice none 0 0, .slice none 0 0, .slice none 0 0, .slice none 0 0, .int .i64 0] 58)) :=
  ⟨Below.refl _ _, _, Book.start w, fun g hg => if_neg (by omega)⟩
/-- A row that a call has just made is taken in. -/
theorem ownInts {W0 W W2 : World} {b n : Nat} {v : Value} {l : List Int} (h : BookO W0 b W) (h2 : Below W.heap.size W W2) (hv : W2.ownsRow W.heap.size 3 1 v n (cellsI l)) (hl : l.length ≤ 1000000) :
    Calls Tryz.prog 18 #[.pointer (some ⟨b, 0, none⟩), v] W2 fun e w' => e = .returned (.tuple #[]) ∧ BookO W0 b w' := by
  obtain ⟨h1, tag, hk, h0⟩ := h
  have hn : n = l.length := by have := hv.1; rw [cellsI_len] at this; omega
  subst hn
  have hlt := hk.lt
  refine (bookInts b tag v l W2 (hk.below h2) (owns_low hv (Nat.zero_le _)) hl (fun g hg => hk.fresh g (hv.lt g hg).1)).mono ?_
  rintro e w' ⟨rfl, tag', hk', hf⟩
  have hne : ∀ g, g < b → v.ownBlock ≠ some g := fun g hg e => by have := (hv.lt g e).1; omega
  have hs := h2.size
  refine ⟨rfl, (h1.trans (h2.mono (by omega))).trans ⟨hf.os, hf.tape, hf.output, hf.size, fun k hk => hf.block k (by omega) (h0 k hk) (hne k hk)⟩, tag', hk', fun g hg => hf.tg g (by omega) (h0 g hg) (hne g hg)⟩
theorem ownClose {W0 W : World} {b : Nat} (h : BookO W0 b W) :
    Calls Tryz.prog 21 #[.pointer (some ⟨b, 0, none⟩)] W fun e w' => e = .returned (.bool true) ∧ Below b W0 w' := by
  obtain ⟨h1, tag, hk, h0⟩ := h
  have hlt := hk.lt
  refine (bookClose b tag W hk).mono ?_
  rintro e w' ⟨rfl, hs⟩
  exact ⟨rfl, h1.trans ⟨hs.os, hs.tape, hs.output, hs.size, fun k hk => hs.block k (by omega) (fun h => h (h0 k hk))⟩⟩
end Go.Proofs.YtlipdccfhnnleaaGreatDoor.K

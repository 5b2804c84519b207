/- Book.closeBytesN: it answers true, and turns nothing but the book's own. -/
import Derived.Test.YtgfnfbbiojnhaaaDoorKbPhase
import Derived.Deep.RegionHeld3
namespace Go.Proofs.YtgfnfbbiojnhaaaDoor.KB
open Go.RowKit
/-- The lists below i are marked, and k places of list i. -/
def rowsAt (rows : Nat → List Int) (i k j : Nat) : List Int := if j < i then List.replicate (rows j).length (mkA j) else if j = i then List.replicate k (mkA i) ++ (rows i).drop k else rows j
theorem rowsAt_i (rows : Nat → List Int) (i k : Nat) : rowsAt rows i k i = List.replicate k (mkA i) ++ (rows i).drop k := by rw [rowsAt, if_neg (Nat.lt_irrefl _), if_pos rfl]
theorem rowsAt_len (rows : Nat → List Int) (i k : Nat) (h : k ≤ (rows i).length) : (rowsAt rows i k i).length = (rows i).length := by
  rw [rowsAt_i, List.length_append, List.length_replicate, List.length_drop]; omega
theorem rowsAt_set (rows : Nat → List Int) (i k : Nat) (h : k < (rows i).length) : rowsAt rows i (k + 1) i = (rowsAt rows i k i).set k (mkA i) := by
  rw [rowsAt_i, rowsAt_i, List.set_append_right _ _ (by rw [List.length_replicate]; exact Nat.le_refl _), List.length_replicate, Nat.sub_self, List.drop_eq_getElem_cons h, List.set_cons_zero, List.replicate_succ', List.append_assoc]; rfl
theorem rowsAt_ne (rows : Nat → List Int) (i k j : Nat) (h : j ≠ i) : rowsAt rows i (k + 1) j = rowsAt rows i k j := by
  unfold rowsAt; rw [if_neg h, if_neg h]
theorem rowsAt_next (rows : Nat → List Int) (i j : Nat) : rowsAt rows (i + 1) 0 j = rowsAt rows i (rows i).length j := by
  unfold rowsAt
  by_cases h1 : j < i
  · rw [if_pos h1, if_pos (by omega)]
  · by_cases h2 : j = i
    · subst h2; rw [if_neg h1, if_pos (by omega), if_pos rfl, List.drop_length, List.append_nil]
    · rw [if_neg (by omega), if_neg h1, if_neg h2]
      by_cases h3 : j = i + 1
      · subst h3; rw [if_pos rfl]; rfl
      · rw [if_neg h3]
theorem rowsAt_zero (rows : Nat → List Int) (j : Nat) : rowsAt rows 0 0 j = rows j := by
  unfold rowsAt
  by_cases h : j = 0
  · subst h; rfl
  · rw [if_neg (by omega), if_neg h]
theorem Fam.store {w : World} {tag : Nat → Nat} {ov : Value} {m : Nat} {vs : List Value} {rows rows' : Nat → List Int} (h : Fam w tag 2 cL ov m vs rows) {i k g nn cap : Nat} {z : Int} (hv : vs[i]? = some (.slice (some ⟨g, 0, none⟩) nn cap)) (hr : rows' i = (rows i).set k z) (hr' : ∀ j, j < m → j ≠ i → rows' j = rows j) :
    Fam (w.setCell ⟨g, k, none⟩ (.int .u8 z)) tag 2 cL ov m vs rows' := by
  have s : Sm (· = cL i) tag w (w.setCell ⟨g, k, none⟩ (.int .u8 z)) := Sm.setCell _ (h.itag i _ g hv rfl)
  refine h.mvRow (i := i) s (by unfold cL; omega) (fun j _ hj => by unfold cL; omega) (fun v hv' => ?_) hr'
  rw [hv] at hv'
  cases hv'
  have hin := h.inner i _ hv
  obtain ⟨oa, cu, e⟩ := own_shape hin
  injection e with _ e2 _
  rw [← e2] at hin
  have h2 := (hin.stored k (.int .u8 z)).1
  rw [hr, List.length_set, ← e2]
  have e3 : cellsI ((rows i).set k z) = (cellsI (rows i)).set k (.int .u8 z) := by unfold cellsI; rw [List.map_set]
  rw [e3]; exact h2
theorem Fam.none (w : World) (tag : Nat → Nat) (t : Nat) (rows : Nat → List Int) : Fam w tag t cL (.slice none 0 0) 0 [] rows :=
  ⟨World.ownsRow_nil _ _ _ _, fun g e => by simp [Value.ownBlock] at e, fun j v hj => by simp at hj, fun j v g hj => by simp at hj⟩
theorem Rel.refl {w : World} {b : Nat} {e : TypeId} {size : Nat} {v : Value} {n : Nat} {xs : List Value} (h : w.ownsRow b e size v n xs) : Rel v v := fun g e1 _ => by
  rcases h.2 with ⟨rfl, _⟩ | ⟨g', cap, cur, rfl, _⟩
  · simp [Value.ownBlock] at e1
  · cases e1; exact ⟨n, n, cap, rfl, rfl⟩
theorem cellsI_snoc (l : List Int) (z : Int) : cellsI l ++ [.int .u8 z] = cellsI (l ++ [z]) := by simp [cellsI]
theorem take16 (k : Nat) (a z : Int) : (List.replicate k a ++ List.replicate 700 z).take (k + 16) = List.replicate k a ++ List.replicate 16 z := by
  rw [List.take_append, List.length_replicate, Nat.add_sub_cancel_left, List.take_of_length_le (by rw [List.length_replicate]; omega), List.take_replicate]
  congr 1
set_option maxRecDepth 100000 in
set_option maxHeartbeats 8000000 in
theorem closeBytesN (b : Nat) (tag : Nat → Nat) (w : World) (ov ow : Value) (m : Nat) (vs us : List Value) (rows : Nat → List Int) (N : Nat) (hk : Bk w b tag ov ow m vs us rows N) :
    Calls Tryd.prog 24 #[.pointer (some ⟨b, 0, none⟩)] w fun e w' => e = .returned (.bool true) ∧ (∃ o1 om, BoxB w' b ov ow o1 om N) ∧ Sm (· ≠ 0) tag w w' := by
  obtain ⟨iI, hiI, hzI0, hzI1, hzI2⟩ := info_parts infoI
  obtain ⟨iL, hiL, hzL0, hzL1, hzL2⟩ := info_parts infoL
  obtain ⟨hbx, hbt, hlive, hwant, hfresh, ⟨hN1, hN2⟩, hrow⟩ := hk
  have hm : m ≤ 1300000 := by omega
  have hrow' := hide' hrow
  have hfresh' := hide' hfresh
  have hlive0 : Hid (Fam w tag 2 cL ov m vs rows) := hlive
  have hbx' := hide' hbx
  clear hwant hlive hfresh hrow hN1 hN2
  obtain ⟨oa, cap, rfl⟩ := own_shape hlive0.out.outer
  have c4 := hbx.c0
  clear hbx
  go_enter Tryd.func24, Tryd.ntmps24
  go_wp2
  go_loopw [3] (fun i wr => ∃ (c : Nat), c ≤ m ∧ i = .int .i64 c ∧ BoxB wr b (.slice oa m cap) ow (.slice none 0 0) (.slice none 0 0) N ∧ Fam wr tag 2 cL (.slice oa m cap) m vs (rowsAt rows c 0) ∧ Sm (· ≠ 0) tag w wr) (fun i _ => ((m : Int) - intOf i).toNat)
  case atStart => exact ⟨0, Nat.zero_le _, rfl, hbx'.out, hlive0.out.congr (fun j _ => rowsAt_zero rows j), Sm.refl _ _ _⟩
  case round =>
    obtain ⟨c, hc, rfl, hb, hL, hS⟩ := hrel
    obtain ⟨ac, hac⟩ : ∃ ac : Nat, ac = c % 125 := ⟨_, rfl⟩
    have hlc : ac < 125 := by omega
    have htc : (((c : Nat) : Int)).tmod 125 = (ac : Int) := by rw [hac]; exact tmodN _
    have hAc : Hid ((ac : Int) = mkA c) := by rw [hac]; rfl
    have hBc : Hid (125 + (ac : Int) = mkB c) := by rw [hac]; rfl
    clear hac
    have d4 := hb.c0
    by_cases hlt : c < m
    · obtain ⟨g, cap2, e, _, _⟩ := hL.outer.form (by omega)
      obtain ⟨rfl, rfl⟩ : oa = some ⟨g, 0, none⟩ ∧ cap = cap2 := by injection e with h1 h2 h3; exact ⟨h1, h3⟩
      obtain ⟨v, hv⟩ : ∃ v, vs[c]? = some v := ⟨_, List.getElem?_eq_getElem (by rw [hL.len]; exact hlt)⟩
      have hin := hL.inner c v hv
      rw [rowsAt_len rows c 0 (Nat.zero_le _)] at hin
      have hnc := hrow'.out c hlt
      obtain ⟨ox, cx, rfl⟩ := own_shape hin
      have hv' := hide' hv
      have hL' := hide' hL
      have hb' := hide' hb
      have hS' := hide' hS
      obtain ⟨nc, hnc'⟩ : ∃ nc, (rows c).length = nc := ⟨_, rfl⟩
      rw [hnc'] at hnc hin hv'
      rw [hnc'] at hv
      have hnE := hide' hnc'
      clear hL hb hS e c4 hin hnc' hv
      go_wp2
      go_loopw [4] (fun k wr2 => ∃ (f : Nat), f ≤ nc ∧ k = .int .i64 f ∧ BoxB wr2 b (.slice (some ⟨g, 0, none⟩) m cap) ow (.slice none 0 0) (.slice none 0 0) N ∧ Fam wr2 tag 2 cL (.slice (some ⟨g, 0, none⟩) m cap) m vs (rowsAt rows c f) ∧ Sm (· ≠ 0) tag w wr2) (fun k _ => ((nc : Int) - intOf k).toNat)
      case atStart => exact ⟨0, Nat.zero_le _, rfl, hb'.out, hL'.out, hS'.out⟩
      case round =>
        clear hb' hL' hS' d4
        obtain ⟨f, hf, rfl, hb, hL, hS⟩ := hrel
        have d4 := hb.c0
        have cv : wr.cell? ⟨g, c, none⟩ = some (.slice ox nc cx) := by rw [hL.outer.cellAt c (by omega)]; exact hv'.out
        by_cases hflt : f < nc
        · have hin := hL.inner c _ hv'.out
          rw [rowsAt_len rows c f (by rw [hnE.out]; omega), hnE.out] at hin
          obtain ⟨gx, cx2, e, _, _⟩ := hin.form (by omega)
          obtain ⟨rfl, rfl⟩ : ox = some ⟨gx, 0, none⟩ ∧ cx = cx2 := by injection e with h1 h2 h3; exact ⟨h1, h3⟩
          obtain ⟨z, hz⟩ : ∃ z, (rowsAt rows c f c)[f]? = some z := ⟨_, List.getElem?_eq_getElem (by rw [rowsAt_len rows c f (by rw [hnE.out]; omega), hnE.out]; exact hflt)⟩
          have cz := cell_in hin hz
          have fz := hin.frozenAt f
          have hL' := hide' hL
          have hb' := hide' hb
          have hS' := hide' hS
          have ht : Hid (tag gx = cL c) := hL.itag c _ gx hv'.out rfl
          clear hL hb hS e hin hz
          go_wp2
          rw [hAc.out]
          have s1 : Sm (· = cL c) tag wr (wr.setCell ⟨gx, f, none⟩ (.int .u8 (mkA c))) := Sm.setCell _ ht.out
          exact ⟨⟨f + 1, by omega, by go_num, hb'.out.mv s1 (by rw [hbt]; unfold cL; omega), hL'.out.store hv'.out (rowsAt_set rows c f (by rw [hnE.out]; exact hflt)) (fun j _ hj => rowsAt_ne rows c f j hj), hS'.out.trans (s1.mono fun t et => by rw [et]; unfold cL; omega) (fun _ _ => rfl)⟩, by simp [intOf]; omega⟩
        · obtain rfl : f = nc := by omega
          have hL' := hide' hL
          have hb' := hide' hb
          have hS' := hide' hS
          clear hL hb hS
          go_wp2
          exact ⟨⟨c + 1, by omega, by go_num, hb'.out, hL'.out.congr (fun j _ => by rw [rowsAt_next, hnE.out]), hS'.out⟩, by simp [intOf]; omega⟩
    · obtain rfl : m = c := by omega
      have hP0 : Hid (PC w tag wr tag b (.slice oa m cap) ow (.slice none 0 0) (.slice none 0 0) N m vs (fun j => (rows j).length) 0 [] 0 []) :=
        ⟨hb, hbt, hL.congr (fun j hj => by show _ = rowsAt rows m 0 j; rw [rowsAt, if_pos hj]), Fam.none _ _ _ _, Fam.none _ _ _ _, fun j v v1 _ h => by simp at h, fun g hg => hfresh'.out g (by have := hS.size; omega), hS, fun _ _ => rfl⟩
      clear hL hb hS hlive0 hbx' c4 hfresh'
      generalize hnn : (fun j => (rows j).length) = n at hP0
      have hn : Hid (∀ j, j < m → n j ≤ 1000000) := fun j hj => by rw [← hnn]; exact hrow'.out j hj
      clear hnn hrow'
      go_wp2
      go_loopw [5] (fun i wr2 => ∃ (c : Nat) (tagr : Nat → Nat) (o1 : Value) (vs1 : List Value), c ≤ m ∧ i = .int .i64 c ∧ PC w tag wr2 tagr b (.slice oa m cap) ow o1 (.slice none 0 0) N m vs n c vs1 0 []) (fun i _ => ((m : Int) - intOf i).toNat)
      case atStart => exact ⟨0, tag, _, _, Nat.zero_le _, rfl, hP0.out⟩
      case round =>
        clear hP0 d4
        obtain ⟨c, tagr, o1, vs1, hc, rfl, hP⟩ := hrel
        obtain ⟨ac, hac⟩ : ∃ ac : Nat, ac = c % 125 := ⟨_, rfl⟩
        have hlc : ac < 125 := by omega
        have htc : (((c : Nat) : Int)).tmod 125 = (ac : Int) := by rw [hac]; exact tmodN _
        have hAc : Hid ((ac : Int) = mkA c) := by rw [hac]; rfl
        have hBc : Hid (125 + (ac : Int) = mkB c) := by rw [hac]; rfl
        clear hac
        have d4 := hP.box.c0
        by_cases hlt2 : c < m
        · obtain ⟨g, cap2, e, _, _⟩ := hP.live.outer.form (by omega)
          obtain ⟨rfl, rfl⟩ : oa = some ⟨g, 0, none⟩ ∧ cap = cap2 := by injection e with h1 h2 h3; exact ⟨h1, h3⟩
          obtain ⟨v, hv⟩ : ∃ v, vs[c]? = some v := ⟨_, List.getElem?_eq_getElem (by rw [hP.live.len]; exact hlt2)⟩
          have hin := hP.live.inner c v hv
          rw [List.length_replicate] at hin
          have cv : wr.cell? ⟨g, c, none⟩ = some v := by rw [hP.live.outer.cellAt c (by omega)]; exact hv
          have hnc := hn.out c hlt2
          obtain ⟨nc, hnc'⟩ : ∃ nc, n c = nc := ⟨_, rfl⟩
          rw [hnc'] at hnc hin
          obtain ⟨ox, cx, rfl⟩ := own_shape hin
          have hnE := hide' hnc'
          have hv' := hide' hv
          have hP' := hide' hP
          have hin' := hide' hin
          clear hnc' hv hP hin e
          go_wp2
          go_loopw [6, 7] (fun lv k wr2 => ∃ (f : Nat) (tag2 : Nat → Nat), f ≤ 16 ∧ k = .int .i64 f ∧ PC w tag wr2 tag2 b (.slice (some ⟨g, 0, none⟩) m cap) ow o1 (.slice none 0 0) N m vs n c vs1 0 [] ∧ wr2.ownsRow 0 5 1 lv (nc + f) (cellsI (List.replicate nc (mkA c) ++ List.replicate f (mkB c))) ∧ (∀ q, lv.ownBlock = some q → tag2 q = cL c) ∧ Rel (.slice ox nc cx) lv) (fun _ k _ => ((16 : Int) - intOf k).toNat)
          case atStart => exact ⟨0, tagr, by decide, rfl, hP'.out, by simpa using hin'.out, fun q hq => hP'.out.live.itag c _ q hv'.out hq, Rel.refl hin'.out⟩
          case round =>
            clear hP' hin' d4 cv
            obtain ⟨f, tag2, hf, rfl, hP, hrow, hltg, hrel2⟩ := hrel
            have hP' := hide' hP
            have hrow' := hide' hrow
            have hltg' := hide' hltg
            have hrel2' := hide' hrel2
            by_cases hflt : f < 16
            · obtain ⟨ol, cl, rfl⟩ := own_shape hrow
              clear hP hrow hltg hrel2
              go_wp2_with (at_builtin; go_loud (refine wpList_append_two _ rfl _ _ 24 rfl 0 5 iI (.int .u8 0) 1 1 Tryd.underlying24 hiI hzI0 hzI1 hzI2 rfl (by decide) (.slice ol (nc + f) cl) (nc + f) (cellsI (List.replicate nc (mkA c) ++ List.replicate f (mkB c))) rfl (hrow'.out.alloc _) ⟨wr.heap.size, 0, none⟩ 1 1 [.int .u8 (125 + (ac : Int))] rfl rfl (cell_one_new _ _ _) (by simp [Value.oneCell']) (by decide) (by unfold maxLen; omega) (by omega) (Nat.zero_le _) ?_); intro g5 cap5 w5 hnew5 hold5 hat5)
              have hnew6 : w5.ownsRow 0 5 1 (.slice (some ⟨g5, 0, none⟩) (nc + (f + 1)) cap5) (nc + (f + 1)) (cellsI (List.replicate nc (mkA c) ++ List.replicate (f + 1) (mkB c))) := by
                have h := hnew5
                rw [show (125 + (ac : Int)) = mkB c from hBc.out, cellsI_snoc, List.append_assoc, ← List.replicate_succ'] at h
                exact h
              obtain ⟨tag3, hP3, ht3, hr3, _⟩ := (hP'.out.alloc _).grow hv'.out hltg'.out hrel2'.out hnew6 hat5 (by rw [hnE.out]; omega) (by rw [hnE.out]; exact List.take_left' (List.length_replicate ..)) (fun u hu => by rw [hP'.out.lenO c (Nat.le_refl _)] at hu; cases hu) (Nat.zero_le _)
              exact ⟨⟨f + 1, tag3, by omega, by go_num, hP3, hnew6, fun q hq => by cases hq; exact ht3, hr3⟩, by simp [intOf]; omega⟩
            · obtain rfl : f = 16 := by omega
              have d6 := hP.box.c2
              obtain ⟨ol, cl, rfl⟩ := own_shape hrow
              clear hP hrow hltg hrel2
              go_wp2_with (at_builtin; go_loud (refine wpList_append_two _ rfl _ _ 39 rfl 0 24 iL (.slice none 0 0) 1 24 Tryd.underlying39 hiL hzL0 hzL1 hzL2 rfl (by decide) o1 c vs1 rfl (hP'.out.one.outer.alloc _) ⟨wr.heap.size, 0, none⟩ 1 1 [.slice ol (nc + 16) cl] rfl rfl (cell_one_new _ _ _) (by simp [Value.oneCell']) (by decide) (by unfold maxLen; omega) (by omega) (Nat.zero_le _) ?_); intro g6 cap6 w6 hnew6 hold6 hat6; have hb6 := hide' ((hP'.out.alloc _).boxO hat6); have c66 := hb6.out.c2; have f66 := hb6.out.fz 2)
              obtain ⟨tag3, hP3⟩ := (hP'.out.alloc _).push1 hv'.out hrel2'.out hltg'.out (by unfold grA; rw [hnE.out]; exact hrow'.out.alloc _) hnew6 hold6 hat6
              exact ⟨⟨c + 1, tag3, _, _, by omega, by go_num, hP3⟩, by simp [intOf]; omega⟩
        · obtain rfl : m = c := by omega
          have d6 := hP.box.c2
          have KL := hide' (lookBytesN b wr tagr _ ow o1 (.slice none 0 0) o1 N m 4 16 cL n vs vs1 hP.box hP.live hP.one hm hn.out (by decide))
          have hP' := hide' hP
          clear hP
          go_wp2_with (go_at_call 29; refine KL.out.mono ?_; rintro e w7 ⟨rfl, hw7⟩; obtain rfl : wr = w7 := hw7.symm)
          go_loopw [8] (fun i wr2 => ∃ (c : Nat) (tagr : Nat → Nat) (om : Value) (vs2 : List Value), c ≤ m ∧ i = .int .i64 c ∧ PC w tag wr2 tagr b (.slice oa m cap) ow o1 om N m vs n m vs1 c vs2) (fun i _ => ((m : Int) - intOf i).toNat)
          case atStart => exact ⟨0, tagr, _, _, Nat.zero_le _, rfl, hP'.out⟩
          case round =>
            clear hP' d4 d6 KL
            obtain ⟨c, tagr, om, vs2, hc2, rfl, hP⟩ := hrel
            obtain ⟨ac, hac⟩ : ∃ ac : Nat, ac = c % 125 := ⟨_, rfl⟩
            have hlc : ac < 125 := by omega
            have htc : (((c : Nat) : Int)).tmod 125 = (ac : Int) := by rw [hac]; exact tmodN _
            have hAc : Hid ((ac : Int) = mkA c) := by rw [hac]; rfl
            have hBc : Hid (125 + (ac : Int) = mkB c) := by rw [hac]; rfl
            clear hac
            have d4 := hP.box.c0
            by_cases hlt3 : c < m
            · obtain ⟨g, cap2, e, _, _⟩ := hP.live.outer.form (by omega)
              obtain ⟨rfl, rfl⟩ : oa = some ⟨g, 0, none⟩ ∧ cap = cap2 := by injection e with h1 h2 h3; exact ⟨h1, h3⟩
              obtain ⟨v, hv⟩ : ∃ v, vs[c]? = some v := ⟨_, List.getElem?_eq_getElem (by rw [hP.live.len]; exact hlt3)⟩
              have hin := hP.live.inner c v hv
              rw [List.length_replicate] at hin
              have hnc := hn.out c hlt3
              obtain ⟨nc, hnc'⟩ : ∃ nc, n c = nc := ⟨_, rfl⟩
              rw [hnc'] at hnc hin
              obtain ⟨ox, cx, rfl⟩ := own_shape hin
              have hnE := hide' hnc'
              have hv' := hide' hv
              have hP' := hide' hP
              clear hnc' hv hP hin e
              obtain ⟨wr0, e0⟩ : ∃ x, x = wr := ⟨_, rfl⟩
              subst e0
              go_wp2
              go_loopw [9, 10] (fun mv k wr2 => ∃ (f : Nat), f ≤ 700 ∧ k = .int .i64 f ∧ wr2.ownsRow wr0.heap.size 5 1 mv f (cellsI (List.replicate f (mkB c))) ∧ Below wr0.heap.size wr0 wr2) (fun _ k _ => ((700 : Int) - intOf k).toNat)
              case atStart => exact ⟨0, by decide, rfl, World.ownsRow_nil _ _ _ _, Below.refl _ _⟩
              case round =>
                obtain ⟨f, hf, rfl, hrow, hB⟩ := hrel
                have hrow' := hide' hrow
                have hB' := hide' hB
                have hBs := hB.size
                by_cases hflt : f < 700
                · obtain ⟨ol, cl, rfl⟩ := own_shape hrow
                  clear hrow hB
                  go_wp2_with (at_builtin; go_loud (refine wpList_append_two _ rfl _ _ 24 rfl wr0.heap.size 5 iI (.int .u8 0) 1 1 Tryd.underlying24 hiI hzI0 hzI1 hzI2 rfl (by decide) (.slice ol f cl) f (cellsI (List.replicate f (mkB c))) rfl (hrow'.out.alloc _) ⟨wr.heap.size, 0, none⟩ 1 1 [.int .u8 (125 + (ac : Int))] rfl rfl (cell_one_new _ _ _) (by simp [Value.oneCell']) (by decide) (by unfold maxLen; omega) (by omega) (by simp; omega) ?_); intro g5 cap5 w5 hnew5 hold5 hat5)
                  have hnew6 : w5.ownsRow wr0.heap.size 5 1 (.slice (some ⟨g5, 0, none⟩) (f + 1) cap5) (f + 1) (cellsI (List.replicate (f + 1) (mkB c))) := by
                    have h := hnew5
                    rw [show (125 + (ac : Int)) = mkB c from hBc.out, cellsI_snoc, ← List.replicate_succ'] at h
                    exact h
                  have hB6 : Below wr0.heap.size wr0 w5 := by
                    have hBa := hB'.out.alloc hBs (.cells #[.int .u8 (125 + (ac : Int))] 5)
                    rcases hat5 with ⟨e, hg⟩ | ⟨_, hg⟩
                    · exact hBa.grown hg hBa.size (fun k ek => by cases ek; exact (hnew5.lt g5 rfl).1)
                    · exact hBa.grown hg hBa.size (fun k ek => by cases ek)
                  exact ⟨⟨f + 1, by omega, by go_num, hnew6, hB6⟩, by simp [intOf]; omega⟩
                · obtain rfl : f = 700 := by omega
                  have hP2 := hide' (hP'.out.below hB)
                  obtain ⟨gm, cm, rfl, _, _⟩ := hrow.form (by decide)
                  have c4a := hP2.out.drew.box.c0
                  have c7a := hP2.out.drew.box.c3
                  have cva : wr.drew.cell? ⟨g, c, none⟩ = some (.slice ox nc cx) := by rw [hP2.out.drew.live.outer.cellAt c (by omega)]; exact hv'.out
                  have hin : Hid (wr.drew.ownsRow 0 5 1 (.slice ox nc cx) nc (cellsI (List.replicate nc (mkA c)))) := by
                    have h := hP2.out.drew.live.inner c _ hv'.out
                    rwa [List.length_replicate, hnE.out] at h
                  have hnews : Hid (∀ j u, (cellsI (List.replicate 700 (mkB c)))[j]? = some u → wr.drew.cell? (Addr.add ⟨gm, 0, none⟩ j) = some u) := hrow.cells rfl
                  have hlen7 : Hid ((cellsI (List.replicate 700 (mkB c))).length = 700 * 1) := by show _ = _; rw [cellsI_len, List.length_replicate]
                  generalize hL7 : cellsI (List.replicate 700 (mkB c)) = L7 at *
                  have hone7 : Hid (∀ u ∈ L7, u.oneCell' = true) := by rw [← hL7]; exact one_cells _
                  have hL7' := hide' hL7
                  clear hP' hrow hB hrow' hB' hL7 d4
                  go_wp2
                  refine wp_region_held_drew (S := (fun _ => True)) (by kernel_rfl) ?_ (fun hHeld => ?_)
                  · trivial
                  refine wpAnyH_take (i := 0) (oi := { dst := some 108, op := Op.move (Operand.tmp 0), type := 38, pos := "keep.go:105", after := #[], guard := none }) (v := ?_) rfl (by kernel_rfl) (by kernel_rfl) (by kernel_rfl) (fun _ _ _ h => h) (Or.inl ⟨by rfl, ?_⟩) (by assumption) ?_
                  rotate_left
                  · intro w hSw; (try dsimp only at hSw); go_simp <;> with_reducible rfl
                  simp only [Act.put, List.setIfInBounds_toArray, List.set_cons_zero, List.set_cons_succ]
                  refine wpAnyH_take (i := 1) (oi := { dst := some 109, op := Op.move (Operand.tmp 0), type := 38, pos := "keep.go:105", after := #[], guard := none }) (v := ?_) rfl (by kernel_rfl) (by kernel_rfl) (by kernel_rfl) (fun _ _ _ h => h) (Or.inl ⟨by rfl, ?_⟩) (by assumption) ?_
                  rotate_left
                  · intro w hSw; (try dsimp only at hSw); go_simp <;> with_reducible rfl
                  simp only [Act.put, List.setIfInBounds_toArray, List.set_cons_zero, List.set_cons_succ]
                  refine wpAnyH_take (i := 2) (oi := { dst := some 110, op := Op.nilCheck (Operand.tmp 109), type := 0, pos := "keep.go:105", after := #[{ on := 1, ground := Ground.data }], guard := none }) (v := ?_) rfl (by kernel_rfl) (by kernel_rfl) (by kernel_rfl) (fun _ _ _ h => h) (Or.inl ⟨by rfl, ?_⟩) (by assumption) ?_
                  rotate_left
                  · intro w hSw; (try dsimp only at hSw); go_simp <;> with_reducible rfl
                  simp only [Act.put, List.setIfInBounds_toArray, List.set_cons_zero, List.set_cons_succ]
                  refine wpAnyH_take (i := 3) (oi := { dst := some 111, op := Op.fieldAddr 43 (Operand.tmp 110) 3, type := 0, pos := "keep.go:105", after := #[{ on := 2, ground := Ground.data }], guard := none }) (v := ?_) rfl (by kernel_rfl) (by kernel_rfl) (by kernel_rfl) (fun _ _ _ h => h) (Or.inl ⟨by rfl, ?_⟩) (by assumption) ?_
                  rotate_left
                  · intro w hSw; (try dsimp only at hSw); go_simp <;> with_reducible rfl
                  simp only [Act.put, List.setIfInBounds_toArray, List.set_cons_zero, List.set_cons_succ]
                  refine wpAnyH_take (i := 5) (oi := { dst := some 113, op := Op.move (Operand.tmp 0), type := 38, pos := "keep.go:105", after := #[], guard := none }) (v := ?_) rfl (by kernel_rfl) (by kernel_rfl) (by kernel_rfl) (fun _ _ _ h => h) (Or.inl ⟨by rfl, ?_⟩) (by assumption) ?_
                  rotate_left
                  · intro w hSw; (try dsimp only at hSw); go_simp <;> with_reducible rfl
                  simp only [Act.put, List.setIfInBounds_toArray, List.set_cons_zero, List.set_cons_succ]
                  refine wpAnyH_take (i := 6) (oi := { dst := some 114, op := Op.nilCheck (Operand.tmp 113), type := 0, pos := "keep.go:105", after := #[{ on := 5, ground := Ground.data }], guard := none }) (v := ?_) rfl (by kernel_rfl) (by kernel_rfl) (by kernel_rfl) (fun _ _ _ h => h) (Or.inl ⟨by rfl, ?_⟩) (by assumption) ?_
                  rotate_left
                  · intro w hSw; (try dsimp only at hSw); go_simp <;> with_reducible rfl
                  simp only [Act.put, List.setIfInBounds_toArray, List.set_cons_zero, List.set_cons_succ]
                  refine wpAnyH_take (i := 7) (oi := { dst := some 115, op := Op.fieldAddr 43 (Operand.tmp 114) 0, type := 0, pos := "keep.go:105", after := #[{ on := 6, ground := Ground.data }], guard := none }) (v := ?_) rfl (by kernel_rfl) (by kernel_rfl) (by kernel_rfl) (fun _ _ _ h => h) (Or.inl ⟨by rfl, ?_⟩) (by assumption) ?_
                  rotate_left
                  · intro w hSw; (try dsimp only at hSw); go_simp <;> with_reducible rfl
                  simp only [Act.put, List.setIfInBounds_toArray, List.set_cons_zero, List.set_cons_succ]
                  refine wpAnyH_take (i := 9) (oi := { dst := some 117, op := Op.move (Operand.tmp 8), type := 3, pos := "keep.go:105", after := #[], guard := none }) (v := ?_) rfl (by kernel_rfl) (by kernel_rfl) (by kernel_rfl) (fun _ _ _ h => h) (Or.inl ⟨by rfl, ?_⟩) (by assumption) ?_
                  rotate_left
                  · intro w hSw; (try dsimp only at hSw); go_simp <;> with_reducible rfl
                  simp only [Act.put, List.setIfInBounds_toArray, List.set_cons_zero, List.set_cons_succ]
                  refine wpAnyH_take (i := 12) (oi := { dst := some 120, op := Op.move (Operand.tmp 9), type := 24, pos := "keep.go:105", after := #[], guard := none }) (v := ?_) rfl (by kernel_rfl) (by kernel_rfl) (by kernel_rfl) (fun _ _ _ h => h) (Or.inl ⟨by rfl, ?_⟩) (by assumption) ?_
                  rotate_left
                  · intro w hSw; (try dsimp only at hSw); go_simp <;> with_reducible rfl
                  simp only [Act.put, List.setIfInBounds_toArray, List.set_cons_zero, List.set_cons_succ]
                  refine wpAnyH_ready (rs := [4, 8]) (by kernel_rfl) (by simp) ?_
                  refine AllReadyH.cons (o := { dst := some 112, op := Op.load 39 (Operand.tmp 111), type := 39, pos := "keep.go:105", after := #[{ on := 3, ground := Ground.data }], guard := none }) rfl (fun K hK => ?_) ?_
                  · skip
                    go_simp
                    refine hK.out _ _ ?_ (fun hHeld => ?_)
                    · trivial
                    clear hK K
                    try simp only [Act.put, List.setIfInBounds_toArray, List.set_cons_zero, List.set_cons_succ]
                    refine wpAnyH_ready (rs := [8]) (by kernel_rfl) (by simp) ?_
                    refine AllReadyH.cons (o := { dst := some 116, op := Op.load 39 (Operand.tmp 115), type := 39, pos := "keep.go:105", after := #[{ on := 7, ground := Ground.data }], guard := none }) rfl (fun K hK => ?_) AllReadyH.nil
                    go_simp
                    refine hK.out _ _ ?_ (fun hHeld => ?_)
                    · trivial
                    clear hK K
                    try simp only [Act.put, List.setIfInBounds_toArray, List.set_cons_zero, List.set_cons_succ]
                    refine wpAnyH_take (i := 10) (oi := { dst := some 118, op := Op.indexAddr 39 (Operand.tmp 116) (Operand.tmp 117), type := 0, pos := "keep.go:105", after := #[{ on := 8, ground := Ground.data }, { on := 9, ground := Ground.data }], guard := none }) (v := ?_) rfl (by kernel_rfl) (by kernel_rfl) (by kernel_rfl) (fun _ _ _ h => h) (Or.inl ⟨by rfl, ?_⟩) (by assumption) ?_
                    rotate_left
                    · intro w hSw; (try dsimp only at hSw); go_simp <;> with_reducible rfl
                    simp only [Act.put, List.setIfInBounds_toArray, List.set_cons_zero, List.set_cons_succ]
                    refine wpAnyH_ready (rs := [11]) (by kernel_rfl) (by simp) ?_
                    refine AllReadyH.cons (o := { dst := some 119, op := Op.load 24 (Operand.tmp 118), type := 24, pos := "keep.go:105", after := #[{ on := 10, ground := Ground.data }], guard := none }) rfl (fun K hK => ?_) AllReadyH.nil
                    go_simp
                    refine hK.out _ _ ?_ (fun hHeld => ?_)
                    · trivial
                    clear hK K
                    try simp only [Act.put, List.setIfInBounds_toArray, List.set_cons_zero, List.set_cons_succ]
                    refine wpAnyH_ready (rs := [13]) (by kernel_rfl) (by simp) ?_
                    refine AllReadyH.cons (o := { dst := some 121, op := Op.call { callee := Callee.builtin Builtin.append, args := #[Operand.tmp 119, Operand.tmp 120], argTypes := #[24, 24] }, type := 24, pos := "keep.go:105", after := #[{ on := 11, ground := Ground.data }, { on := 12, ground := Ground.data }], guard := none }) rfl (fun K hK => ?_) AllReadyH.nil
                    rw [if_pos (by rfl)]
                    refine wp_append_two _ (.tmp 119) (.tmp 120) 24 rfl 0 5 iI (.int .u8 0) 1 1 Tryd.underlying24 hiI hzI0 hzI1 hzI2 rfl (by decide) (.slice ox nc cx) nc (cellsI (List.replicate nc (mkA c))) rfl hin.out ⟨gm, 0, none⟩ 700 cm L7 rfl hlen7.out hnews.out hone7.out (by decide) (by unfold maxLen; omega) (by omega) (Nat.zero_le _) ?_; intro g5 cap5 w5 hnew5 hold5 hat5; have hnew5' : Hid (w5.ownsRow 0 5 1 (.slice (some ⟨g5, 0, none⟩) (nc + 700) cap5) (nc + 700) (cellsI (List.replicate nc (mkA c) ++ List.replicate 700 (mkB c)))) := (by have h := hnew5; rw [← hL7'.out] at h; unfold cellsI at h ⊢; rw [List.map_append]; exact h); clear hnew5; obtain ⟨tag5, hP5, ht5, hr5, _⟩ := hP2.out.drew.grow hv'.out (fun k ek => hP2.out.live.itag c _ k hv'.out ek) (Rel.refl hin.out) hnew5'.out hat5 (by rw [hnE.out]; omega) (by rw [hnE.out]; exact List.take_left' (List.length_replicate ..)) (fun u hu => ⟨(hP2.out.rel c _ u hv'.out hu).symm, by rw [hnE.out]; omega, by unfold grA; rw [hnE.out]; exact take16 _ _ _⟩) (Nat.le_refl _); have hP5' := hide' hP5; have ht5' := hide' ht5; clear hP5 hold5 hat5 hr5 ht5; have c7b := hP5'.out.box.c3; have c7c := (hP5'.out.alloc (.cells #[.slice (some ⟨g5, 0, none⟩) (nc + 700) cap5] 24)).box.c3; (try dsimp only)
                    refine hK.out _ _ ?_ (fun hHeld => ?_)
                    · trivial
                    clear hK K
                    try simp only [Act.put, List.setIfInBounds_toArray, List.set_cons_zero, List.set_cons_succ]
                    refine wpAnyH_ready (rs := [14]) (by kernel_rfl) (by simp) ?_
                    refine AllReadyH.cons (o := { dst := some 122, op := Op.buildSlice 39 1 #[(0, Operand.tmp 121)], type := 39, pos := "keep.go:105", after := #[{ on := 13, ground := Ground.data }], guard := none }) rfl (fun K hK => ?_) AllReadyH.nil
                    go_simp
                    refine hK.out _ _ ?_ (fun hHeld => ?_)
                    · trivial
                    clear hK K
                    try simp only [Act.put, List.setIfInBounds_toArray, List.set_cons_zero, List.set_cons_succ]
                    refine wpAnyH_ready (rs := [15]) (by kernel_rfl) (by simp) ?_
                    refine AllReadyH.cons (o := { dst := some 123, op := Op.call { callee := Callee.builtin Builtin.append, args := #[Operand.tmp 112, Operand.tmp 122], argTypes := #[39, 39] }, type := 39, pos := "keep.go:105", after := #[{ on := 4, ground := Ground.data }, { on := 14, ground := Ground.data }, { on := 13, ground := Ground.chain }], guard := none }) rfl (fun K hK => ?_) AllReadyH.nil
                    rw [if_pos (by rfl)]
                    refine wp_append_two _ (.tmp 112) (.tmp 122) 39 rfl 0 24 iL (.slice none 0 0) 1 24 Tryd.underlying39 hiL hzL0 hzL1 hzL2 rfl (by decide) om c vs2 rfl (hP5'.out.many.outer.alloc _) ⟨w5.heap.size, 0, none⟩ 1 1 [.slice (some ⟨g5, 0, none⟩) (nc + 700) cap5] rfl rfl (cell_one_new _ _ _) (by simp [Value.oneCell']) (by decide) (by unfold maxLen; omega) (by omega) (Nat.zero_le _) ?_; intro g6 cap6 w6 hnew6 hold6 hat6; have hb6 := hide' ((hP5'.out.alloc _).boxM hat6); have c66 := hb6.out.c3; have f66 := hb6.out.fz 3; (try dsimp only)
                    refine hK.out _ _ ?_ (fun hHeld => ?_)
                    · trivial
                    clear hK K
                    try simp only [Act.put, List.setIfInBounds_toArray, List.set_cons_zero, List.set_cons_succ]
                    refine wpAnyH_take (i := 16) (oi := { dst := some 124, op := Op.nilCheck (Operand.tmp 108), type := 0, pos := "keep.go:105", after := #[{ on := 0, ground := Ground.data }, { on := 0, ground := Ground.phase }, { on := 1, ground := Ground.phase }, { on := 2, ground := Ground.phase }, { on := 3, ground := Ground.phase }, { on := 4, ground := Ground.phase }, { on := 5, ground := Ground.phase }, { on := 6, ground := Ground.phase }, { on := 7, ground := Ground.phase }, { on := 8, ground := Ground.phase }, { on := 9, ground := Ground.phase }, { on := 10, ground := Ground.phase }, { on := 11, ground := Ground.phase }, { on := 12, ground := Ground.phase }, { on := 13, ground := Ground.phase }, { on := 14, ground := Ground.phase }, { on := 15, ground := Ground.phase }], guard := none }) (v := ?_) rfl (by kernel_rfl) (by kernel_rfl) (by kernel_rfl) (fun _ _ _ h => h) (Or.inl ⟨by rfl, ?_⟩) (by assumption) ?_
                    rotate_left
                    · intro w hSw; (try dsimp only at hSw); go_simp <;> with_reducible rfl
                    simp only [Act.put, List.setIfInBounds_toArray, List.set_cons_zero, List.set_cons_succ]
                    refine wpAnyH_take (i := 17) (oi := { dst := some 125, op := Op.fieldAddr 43 (Operand.tmp 124) 3, type := 0, pos := "keep.go:105", after := #[{ on := 16, ground := Ground.data }, { on := 0, ground := Ground.phase }, { on := 1, ground := Ground.phase }, { on := 2, ground := Ground.phase }, { on := 3, ground := Ground.phase }, { on := 4, ground := Ground.phase }, { on := 5, ground := Ground.phase }, { on := 6, ground := Ground.phase }, { on := 7, ground := Ground.phase }, { on := 8, ground := Ground.phase }, { on := 9, ground := Ground.phase }, { on := 10, ground := Ground.phase }, { on := 11, ground := Ground.phase }, { on := 12, ground := Ground.phase }, { on := 13, ground := Ground.phase }, { on := 14, ground := Ground.phase }, { on := 15, ground := Ground.phase }], guard := none }) (v := ?_) rfl (by kernel_rfl) (by kernel_rfl) (by kernel_rfl) (fun _ _ _ h => h) (Or.inl ⟨by rfl, ?_⟩) (by assumption) ?_
                    rotate_left
                    · intro w hSw; (try dsimp only at hSw); go_simp <;> with_reducible rfl
                    simp only [Act.put, List.setIfInBounds_toArray, List.set_cons_zero, List.set_cons_succ]
                    refine wpAnyH_ready (rs := [18]) (by kernel_rfl) (by simp) ?_
                    refine AllReadyH.cons (o := { dst := none, op := Op.store 39 (Operand.tmp 125) (Operand.tmp 123), type := 0, pos := "keep.go:105", after := #[{ on := 17, ground := Ground.data }, { on := 15, ground := Ground.data }, { on := 15, ground := Ground.chain }, { on := 0, ground := Ground.phase }, { on := 1, ground := Ground.phase }, { on := 2, ground := Ground.phase }, { on := 3, ground := Ground.phase }, { on := 4, ground := Ground.phase }, { on := 5, ground := Ground.phase }, { on := 6, ground := Ground.phase }, { on := 7, ground := Ground.phase }, { on := 8, ground := Ground.phase }, { on := 9, ground := Ground.phase }, { on := 10, ground := Ground.phase }, { on := 11, ground := Ground.phase }, { on := 12, ground := Ground.phase }, { on := 13, ground := Ground.phase }, { on := 14, ground := Ground.phase }, { on := 15, ground := Ground.phase }], guard := none }) rfl (fun K hK => ?_) AllReadyH.nil
                    go_simp
                    refine hK.out _ _ ?_ (fun hHeld => ?_)
                    · trivial
                    clear hK K
                    try simp only [Act.put, List.setIfInBounds_toArray, List.set_cons_zero, List.set_cons_succ]
                    refine wpAnyH_done (by kernel_rfl) ?_ _
                    skip
                    go_wp2
                    obtain ⟨tag6, hP6⟩ := (hP5'.out.alloc _).push2 (fun k ek => by cases ek; exact ht5'.out) (by unfold grA; rw [hnE.out]; exact hnew5'.out.alloc _) hnew6 hold6 hat6
                    exact ⟨⟨c + 1, tag6, _, _, by omega, by go_num, hP6⟩, by simp [intOf]; omega⟩
                  refine AllReadyH.cons (o := { dst := some 116, op := Op.load 39 (Operand.tmp 115), type := 39, pos := "keep.go:105", after := #[{ on := 7, ground := Ground.data }], guard := none }) rfl (fun K hK => ?_) AllReadyH.nil
                  go_simp
                  refine hK.out _ _ ?_ (fun hHeld => ?_)
                  · trivial
                  clear hK K
                  try simp only [Act.put, List.setIfInBounds_toArray, List.set_cons_zero, List.set_cons_succ]
                  refine wpAnyH_take (i := 10) (oi := { dst := some 118, op := Op.indexAddr 39 (Operand.tmp 116) (Operand.tmp 117), type := 0, pos := "keep.go:105", after := #[{ on := 8, ground := Ground.data }, { on := 9, ground := Ground.data }], guard := none }) (v := ?_) rfl (by kernel_rfl) (by kernel_rfl) (by kernel_rfl) (fun _ _ _ h => h) (Or.inl ⟨by rfl, ?_⟩) (by assumption) ?_
                  rotate_left
                  · intro w hSw; (try dsimp only at hSw); go_simp <;> with_reducible rfl
                  simp only [Act.put, List.setIfInBounds_toArray, List.set_cons_zero, List.set_cons_succ]
                  refine wpAnyH_ready (rs := [4, 11]) (by kernel_rfl) (by simp) ?_
                  refine AllReadyH.cons (o := { dst := some 112, op := Op.load 39 (Operand.tmp 111), type := 39, pos := "keep.go:105", after := #[{ on := 3, ground := Ground.data }], guard := none }) rfl (fun K hK => ?_) ?_
                  · skip
                    go_simp
                    refine hK.out _ _ ?_ (fun hHeld => ?_)
                    · trivial
                    clear hK K
                    try simp only [Act.put, List.setIfInBounds_toArray, List.set_cons_zero, List.set_cons_succ]
                    refine wpAnyH_ready (rs := [11]) (by kernel_rfl) (by simp) ?_
                    refine AllReadyH.cons (o := { dst := some 119, op := Op.load 24 (Operand.tmp 118), type := 24, pos := "keep.go:105", after := #[{ on := 10, ground := Ground.data }], guard := none }) rfl (fun K hK => ?_) AllReadyH.nil
                    go_simp
                    refine hK.out _ _ ?_ (fun hHeld => ?_)
                    · trivial
                    clear hK K
                    try simp only [Act.put, List.setIfInBounds_toArray, List.set_cons_zero, List.set_cons_succ]
                    refine wpAnyH_ready (rs := [13]) (by kernel_rfl) (by simp) ?_
                    refine AllReadyH.cons (o := { dst := some 121, op := Op.call { callee := Callee.builtin Builtin.append, args := #[Operand.tmp 119, Operand.tmp 120], argTypes := #[24, 24] }, type := 24, pos := "keep.go:105", after := #[{ on := 11, ground := Ground.data }, { on := 12, ground := Ground.data }], guard := none }) rfl (fun K hK => ?_) AllReadyH.nil
                    rw [if_pos (by rfl)]
                    refine wp_append_two _ (.tmp 119) (.tmp 120) 24 rfl 0 5 iI (.int .u8 0) 1 1 Tryd.underlying24 hiI hzI0 hzI1 hzI2 rfl (by decide) (.slice ox nc cx) nc (cellsI (List.replicate nc (mkA c))) rfl hin.out ⟨gm, 0, none⟩ 700 cm L7 rfl hlen7.out hnews.out hone7.out (by decide) (by unfold maxLen; omega) (by omega) (Nat.zero_le _) ?_; intro g5 cap5 w5 hnew5 hold5 hat5; have hnew5' : Hid (w5.ownsRow 0 5 1 (.slice (some ⟨g5, 0, none⟩) (nc + 700) cap5) (nc + 700) (cellsI (List.replicate nc (mkA c) ++ List.replicate 700 (mkB c)))) := (by have h := hnew5; rw [← hL7'.out] at h; unfold cellsI at h ⊢; rw [List.map_append]; exact h); clear hnew5; obtain ⟨tag5, hP5, ht5, hr5, _⟩ := hP2.out.drew.grow hv'.out (fun k ek => hP2.out.live.itag c _ k hv'.out ek) (Rel.refl hin.out) hnew5'.out hat5 (by rw [hnE.out]; omega) (by rw [hnE.out]; exact List.take_left' (List.length_replicate ..)) (fun u hu => ⟨(hP2.out.rel c _ u hv'.out hu).symm, by rw [hnE.out]; omega, by unfold grA; rw [hnE.out]; exact take16 _ _ _⟩) (Nat.le_refl _); have hP5' := hide' hP5; have ht5' := hide' ht5; clear hP5 hold5 hat5 hr5 ht5; have c7b := hP5'.out.box.c3; have c7c := (hP5'.out.alloc (.cells #[.slice (some ⟨g5, 0, none⟩) (nc + 700) cap5] 24)).box.c3; (try dsimp only)
                    refine hK.out _ _ ?_ (fun hHeld => ?_)
                    · trivial
                    clear hK K
                    try simp only [Act.put, List.setIfInBounds_toArray, List.set_cons_zero, List.set_cons_succ]
                    refine wpAnyH_ready (rs := [14]) (by kernel_rfl) (by simp) ?_
                    refine AllReadyH.cons (o := { dst := some 122, op := Op.buildSlice 39 1 #[(0, Operand.tmp 121)], type := 39, pos := "keep.go:105", after := #[{ on := 13, ground := Ground.data }], guard := none }) rfl (fun K hK => ?_) AllReadyH.nil
                    go_simp
                    refine hK.out _ _ ?_ (fun hHeld => ?_)
                    · trivial
                    clear hK K
                    try simp only [Act.put, List.setIfInBounds_toArray, List.set_cons_zero, List.set_cons_succ]
                    refine wpAnyH_ready (rs := [15]) (by kernel_rfl) (by simp) ?_
                    refine AllReadyH.cons (o := { dst := some 123, op := Op.call { callee := Callee.builtin Builtin.append, args := #[Operand.tmp 112, Operand.tmp 122], argTypes := #[39, 39] }, type := 39, pos := "keep.go:105", after := #[{ on := 4, ground := Ground.data }, { on := 14, ground := Ground.data }, { on := 13, ground := Ground.chain }], guard := none }) rfl (fun K hK => ?_) AllReadyH.nil
                    rw [if_pos (by rfl)]
                    refine wp_append_two _ (.tmp 112) (.tmp 122) 39 rfl 0 24 iL (.slice none 0 0) 1 24 Tryd.underlying39 hiL hzL0 hzL1 hzL2 rfl (by decide) om c vs2 rfl (hP5'.out.many.outer.alloc _) ⟨w5.heap.size, 0, none⟩ 1 1 [.slice (some ⟨g5, 0, none⟩) (nc + 700) cap5] rfl rfl (cell_one_new _ _ _) (by simp [Value.oneCell']) (by decide) (by unfold maxLen; omega) (by omega) (Nat.zero_le _) ?_; intro g6 cap6 w6 hnew6 hold6 hat6; have hb6 := hide' ((hP5'.out.alloc _).boxM hat6); have c66 := hb6.out.c3; have f66 := hb6.out.fz 3; (try dsimp only)
                    refine hK.out _ _ ?_ (fun hHeld => ?_)
                    · trivial
                    clear hK K
                    try simp only [Act.put, List.setIfInBounds_toArray, List.set_cons_zero, List.set_cons_succ]
                    refine wpAnyH_take (i := 16) (oi := { dst := some 124, op := Op.nilCheck (Operand.tmp 108), type := 0, pos := "keep.go:105", after := #[{ on := 0, ground := Ground.data }, { on := 0, ground := Ground.phase }, { on := 1, ground := Ground.phase }, { on := 2, ground := Ground.phase }, { on := 3, ground := Ground.phase }, { on := 4, ground := Ground.phase }, { on := 5, ground := Ground.phase }, { on := 6, ground := Ground.phase }, { on := 7, ground := Ground.phase }, { on := 8, ground := Ground.phase }, { on := 9, ground := Ground.phase }, { on := 10, ground := Ground.phase }, { on := 11, ground := Ground.phase }, { on := 12, ground := Ground.phase }, { on := 13, ground := Ground.phase }, { on := 14, ground := Ground.phase }, { on := 15, ground := Ground.phase }], guard := none }) (v := ?_) rfl (by kernel_rfl) (by kernel_rfl) (by kernel_rfl) (fun _ _ _ h => h) (Or.inl ⟨by rfl, ?_⟩) (by assumption) ?_
                    rotate_left
                    · intro w hSw; (try dsimp only at hSw); go_simp <;> with_reducible rfl
                    simp only [Act.put, List.setIfInBounds_toArray, List.set_cons_zero, List.set_cons_succ]
                    refine wpAnyH_take (i := 17) (oi := { dst := some 125, op := Op.fieldAddr 43 (Operand.tmp 124) 3, type := 0, pos := "keep.go:105", after := #[{ on := 16, ground := Ground.data }, { on := 0, ground := Ground.phase }, { on := 1, ground := Ground.phase }, { on := 2, ground := Ground.phase }, { on := 3, ground := Ground.phase }, { on := 4, ground := Ground.phase }, { on := 5, ground := Ground.phase }, { on := 6, ground := Ground.phase }, { on := 7, ground := Ground.phase }, { on := 8, ground := Ground.phase }, { on := 9, ground := Ground.phase }, { on := 10, ground := Ground.phase }, { on := 11, ground := Ground.phase }, { on := 12, ground := Ground.phase }, { on := 13, ground := Ground.phase }, { on := 14, ground := Ground.phase }, { on := 15, ground := Ground.phase }], guard := none }) (v := ?_) rfl (by kernel_rfl) (by kernel_rfl) (by kernel_rfl) (fun _ _ _ h => h) (Or.inl ⟨by rfl, ?_⟩) (by assumption) ?_
                    rotate_left
                    · intro w hSw; (try dsimp only at hSw); go_simp <;> with_reducible rfl
                    simp only [Act.put, List.setIfInBounds_toArray, List.set_cons_zero, List.set_cons_succ]
                    refine wpAnyH_ready (rs := [18]) (by kernel_rfl) (by simp) ?_
                    refine AllReadyH.cons (o := { dst := none, op := Op.store 39 (Operand.tmp 125) (Operand.tmp 123), type := 0, pos := "keep.go:105", after := #[{ on := 17, ground := Ground.data }, { on := 15, ground := Ground.data }, { on := 15, ground := Ground.chain }, { on := 0, ground := Ground.phase }, { on := 1, ground := Ground.phase }, { on := 2, ground := Ground.phase }, { on := 3, ground := Ground.phase }, { on := 4, ground := Ground.phase }, { on := 5, ground := Ground.phase }, { on := 6, ground := Ground.phase }, { on := 7, ground := Ground.phase }, { on := 8, ground := Ground.phase }, { on := 9, ground := Ground.phase }, { on := 10, ground := Ground.phase }, { on := 11, ground := Ground.phase }, { on := 12, ground := Ground.phase }, { on := 13, ground := Ground.phase }, { on := 14, ground := Ground.phase }, { on := 15, ground := Ground.phase }], guard := none }) rfl (fun K hK => ?_) AllReadyH.nil
                    go_simp
                    refine hK.out _ _ ?_ (fun hHeld => ?_)
                    · trivial
                    clear hK K
                    try simp only [Act.put, List.setIfInBounds_toArray, List.set_cons_zero, List.set_cons_succ]
                    refine wpAnyH_done (by kernel_rfl) ?_ _
                    skip
                    go_wp2
                    obtain ⟨tag6, hP6⟩ := (hP5'.out.alloc _).push2 (fun k ek => by cases ek; exact ht5'.out) (by unfold grA; rw [hnE.out]; exact hnew5'.out.alloc _) hnew6 hold6 hat6
                    exact ⟨⟨c + 1, tag6, _, _, by omega, by go_num, hP6⟩, by simp [intOf]; omega⟩
                  refine AllReadyH.cons (o := { dst := some 119, op := Op.load 24 (Operand.tmp 118), type := 24, pos := "keep.go:105", after := #[{ on := 10, ground := Ground.data }], guard := none }) rfl (fun K hK => ?_) AllReadyH.nil
                  go_simp
                  refine hK.out _ _ ?_ (fun hHeld => ?_)
                  · trivial
                  clear hK K
                  try simp only [Act.put, List.setIfInBounds_toArray, List.set_cons_zero, List.set_cons_succ]
                  refine wpAnyH_ready (rs := [4, 13]) (by kernel_rfl) (by simp) ?_
                  refine AllReadyH.cons (o := { dst := some 112, op := Op.load 39 (Operand.tmp 111), type := 39, pos := "keep.go:105", after := #[{ on := 3, ground := Ground.data }], guard := none }) rfl (fun K hK => ?_) ?_
                  · skip
                    go_simp
                    refine hK.out _ _ ?_ (fun hHeld => ?_)
                    · trivial
                    clear hK K
                    try simp only [Act.put, List.setIfInBounds_toArray, List.set_cons_zero, List.set_cons_succ]
                    refine wpAnyH_ready (rs := [13]) (by kernel_rfl) (by simp) ?_
                    refine AllReadyH.cons (o := { dst := some 121, op := Op.call { callee := Callee.builtin Builtin.append, args := #[Operand.tmp 119, Operand.tmp 120], argTypes := #[24, 24] }, type := 24, pos := "keep.go:105", after := #[{ on := 11, ground := Ground.data }, { on := 12, ground := Ground.data }], guard := none }) rfl (fun K hK => ?_) AllReadyH.nil
                    rw [if_pos (by rfl)]
                    refine wp_append_two _ (.tmp 119) (.tmp 120) 24 rfl 0 5 iI (.int .u8 0) 1 1 Tryd.underlying24 hiI hzI0 hzI1 hzI2 rfl (by decide) (.slice ox nc cx) nc (cellsI (List.replicate nc (mkA c))) rfl hin.out ⟨gm, 0, none⟩ 700 cm L7 rfl hlen7.out hnews.out hone7.out (by decide) (by unfold maxLen; omega) (by omega) (Nat.zero_le _) ?_; intro g5 cap5 w5 hnew5 hold5 hat5; have hnew5' : Hid (w5.ownsRow 0 5 1 (.slice (some ⟨g5, 0, none⟩) (nc + 700) cap5) (nc + 700) (cellsI (List.replicate nc (mkA c) ++ List.replicate 700 (mkB c)))) := (by have h := hnew5; rw [← hL7'.out] at h; unfold cellsI at h ⊢; rw [List.map_append]; exact h); clear hnew5; obtain ⟨tag5, hP5, ht5, hr5, _⟩ := hP2.out.drew.grow hv'.out (fun k ek => hP2.out.live.itag c _ k hv'.out ek) (Rel.refl hin.out) hnew5'.out hat5 (by rw [hnE.out]; omega) (by rw [hnE.out]; exact List.take_left' (List.length_replicate ..)) (fun u hu => ⟨(hP2.out.rel c _ u hv'.out hu).symm, by rw [hnE.out]; omega, by unfold grA; rw [hnE.out]; exact take16 _ _ _⟩) (Nat.le_refl _); have hP5' := hide' hP5; have ht5' := hide' ht5; clear hP5 hold5 hat5 hr5 ht5; have c7b := hP5'.out.box.c3; have c7c := (hP5'.out.alloc (.cells #[.slice (some ⟨g5, 0, none⟩) (nc + 700) cap5] 24)).box.c3; (try dsimp only)
                    refine hK.out _ _ ?_ (fun hHeld => ?_)
                    · trivial
                    clear hK K
                    try simp only [Act.put, List.setIfInBounds_toArray, List.set_cons_zero, List.set_cons_succ]
                    refine wpAnyH_ready (rs := [14]) (by kernel_rfl) (by simp) ?_
                    refine AllReadyH.cons (o := { dst := some 122, op := Op.buildSlice 39 1 #[(0, Operand.tmp 121)], type := 39, pos := "keep.go:105", after := #[{ on := 13, ground := Ground.data }], guard := none }) rfl (fun K hK => ?_) AllReadyH.nil
                    go_simp
                    refine hK.out _ _ ?_ (fun hHeld => ?_)
                    · trivial
                    clear hK K
                    try simp only [Act.put, List.setIfInBounds_toArray, List.set_cons_zero, List.set_cons_succ]
                    refine wpAnyH_ready (rs := [15]) (by kernel_rfl) (by simp) ?_
                    refine AllReadyH.cons (o := { dst := some 123, op := Op.call { callee := Callee.builtin Builtin.append, args := #[Operand.tmp 112, Operand.tmp 122], argTypes := #[39, 39] }, type := 39, pos := "keep.go:105", after := #[{ on := 4, ground := Ground.data }, { on := 14, ground := Ground.data }, { on := 13, ground := Ground.chain }], guard := none }) rfl (fun K hK => ?_) AllReadyH.nil
                    rw [if_pos (by rfl)]
                    refine wp_append_two _ (.tmp 112) (.tmp 122) 39 rfl 0 24 iL (.slice none 0 0) 1 24 Tryd.underlying39 hiL hzL0 hzL1 hzL2 rfl (by decide) om c vs2 rfl (hP5'.out.many.outer.alloc _) ⟨w5.heap.size, 0, none⟩ 1 1 [.slice (some ⟨g5, 0, none⟩) (nc + 700) cap5] rfl rfl (cell_one_new _ _ _) (by simp [Value.oneCell']) (by decide) (by unfold maxLen; omega) (by omega) (Nat.zero_le _) ?_; intro g6 cap6 w6 hnew6 hold6 hat6; have hb6 := hide' ((hP5'.out.alloc _).boxM hat6); have c66 := hb6.out.c3; have f66 := hb6.out.fz 3; (try dsimp only)
                    refine hK.out _ _ ?_ (fun hHeld => ?_)
                    · trivial
                    clear hK K
                    try simp only [Act.put, List.setIfInBounds_toArray, List.set_cons_zero, List.set_cons_succ]
                    refine wpAnyH_take (i := 16) (oi := { dst := some 124, op := Op.nilCheck (Operand.tmp 108), type := 0, pos := "keep.go:105", after := #[{ on := 0, ground := Ground.data }, { on := 0, ground := Ground.phase }, { on := 1, ground := Ground.phase }, { on := 2, ground := Ground.phase }, { on := 3, ground := Ground.phase }, { on := 4, ground := Ground.phase }, { on := 5, ground := Ground.phase }, { on := 6, ground := Ground.phase }, { on := 7, ground := Ground.phase }, { on := 8, ground := Ground.phase }, { on := 9, ground := Ground.phase }, { on := 10, ground := Ground.phase }, { on := 11, ground := Ground.phase }, { on := 12, ground := Ground.phase }, { on := 13, ground := Ground.phase }, { on := 14, ground := Ground.phase }, { on := 15, ground := Ground.phase }], guard := none }) (v := ?_) rfl (by kernel_rfl) (by kernel_rfl) (by kernel_rfl) (fun _ _ _ h => h) (Or.inl ⟨by rfl, ?_⟩) (by assumption) ?_
                    rotate_left
                    · intro w hSw; (try dsimp only at hSw); go_simp <;> with_reducible rfl
                    simp only [Act.put, List.setIfInBounds_toArray, List.set_cons_zero, List.set_cons_succ]
                    refine wpAnyH_take (i := 17) (oi := { dst := some 125, op := Op.fieldAddr 43 (Operand.tmp 124) 3, type := 0, pos := "keep.go:105", after := #[{ on := 16, ground := Ground.data }, { on := 0, ground := Ground.phase }, { on := 1, ground := Ground.phase }, { on := 2, ground := Ground.phase }, { on := 3, ground := Ground.phase }, { on := 4, ground := Ground.phase }, { on := 5, ground := Ground.phase }, { on := 6, ground := Ground.phase }, { on := 7, ground := Ground.phase }, { on := 8, ground := Ground.phase }, { on := 9, ground := Ground.phase }, { on := 10, ground := Ground.phase }, { on := 11, ground := Ground.phase }, { on := 12, ground := Ground.phase }, { on := 13, ground := Ground.phase }, { on := 14, ground := Ground.phase }, { on := 15, ground := Ground.phase }], guard := none }) (v := ?_) rfl (by kernel_rfl) (by kernel_rfl) (by kernel_rfl) (fun _ _ _ h => h) (Or.inl ⟨by rfl, ?_⟩) (by assumption) ?_
                    rotate_left
                    · intro w hSw; (try dsimp only at hSw); go_simp <;> with_reducible rfl
                    simp only [Act.put, List.setIfInBounds_toArray, List.set_cons_zero, List.set_cons_succ]
                    refine wpAnyH_ready (rs := [18]) (by kernel_rfl) (by simp) ?_
                    refine AllReadyH.cons (o := { dst := none, op := Op.store 39 (Operand.tmp 125) (Operand.tmp 123), type := 0, pos := "keep.go:105", after := #[{ on := 17, ground := Ground.data }, { on := 15, ground := Ground.data }, { on := 15, ground := Ground.chain }, { on := 0, ground := Ground.phase }, { on := 1, ground := Ground.phase }, { on := 2, ground := Ground.phase }, { on := 3, ground := Ground.phase }, { on := 4, ground := Ground.phase }, { on := 5, ground := Ground.phase }, { on := 6, ground := Ground.phase }, { on := 7, ground := Ground.phase }, { on := 8, ground := Ground.phase }, { on := 9, ground := Ground.phase }, { on := 10, ground := Ground.phase }, { on := 11, ground := Ground.phase }, { on := 12, ground := Ground.phase }, { on := 13, ground := Ground.phase }, { on := 14, ground := Ground.phase }, { on := 15, ground := Ground.phase }], guard := none }) rfl (fun K hK => ?_) AllReadyH.nil
                    go_simp
                    refine hK.out _ _ ?_ (fun hHeld => ?_)
                    · trivial
                    clear hK K
                    try simp only [Act.put, List.setIfInBounds_toArray, List.set_cons_zero, List.set_cons_succ]
                    refine wpAnyH_done (by kernel_rfl) ?_ _
                    skip
                    go_wp2
                    obtain ⟨tag6, hP6⟩ := (hP5'.out.alloc _).push2 (fun k ek => by cases ek; exact ht5'.out) (by unfold grA; rw [hnE.out]; exact hnew5'.out.alloc _) hnew6 hold6 hat6
                    exact ⟨⟨c + 1, tag6, _, _, by omega, by go_num, hP6⟩, by simp [intOf]; omega⟩
                  refine AllReadyH.cons (o := { dst := some 121, op := Op.call { callee := Callee.builtin Builtin.append, args := #[Operand.tmp 119, Operand.tmp 120], argTypes := #[24, 24] }, type := 24, pos := "keep.go:105", after := #[{ on := 11, ground := Ground.data }, { on := 12, ground := Ground.data }], guard := none }) rfl (fun K hK => ?_) AllReadyH.nil
                  rw [if_pos (by rfl)]
                  refine wp_append_two _ (.tmp 119) (.tmp 120) 24 rfl 0 5 iI (.int .u8 0) 1 1 Tryd.underlying24 hiI hzI0 hzI1 hzI2 rfl (by decide) (.slice ox nc cx) nc (cellsI (List.replicate nc (mkA c))) rfl hin.out ⟨gm, 0, none⟩ 700 cm L7 rfl hlen7.out hnews.out hone7.out (by decide) (by unfold maxLen; omega) (by omega) (Nat.zero_le _) ?_; intro g5 cap5 w5 hnew5 hold5 hat5; have hnew5' : Hid (w5.ownsRow 0 5 1 (.slice (some ⟨g5, 0, none⟩) (nc + 700) cap5) (nc + 700) (cellsI (List.replicate nc (mkA c) ++ List.replicate 700 (mkB c)))) := (by have h := hnew5; rw [← hL7'.out] at h; unfold cellsI at h ⊢; rw [List.map_append]; exact h); clear hnew5; obtain ⟨tag5, hP5, ht5, hr5, _⟩ := hP2.out.drew.grow hv'.out (fun k ek => hP2.out.live.itag c _ k hv'.out ek) (Rel.refl hin.out) hnew5'.out hat5 (by rw [hnE.out]; omega) (by rw [hnE.out]; exact List.take_left' (List.length_replicate ..)) (fun u hu => ⟨(hP2.out.rel c _ u hv'.out hu).symm, by rw [hnE.out]; omega, by unfold grA; rw [hnE.out]; exact take16 _ _ _⟩) (Nat.le_refl _); have hP5' := hide' hP5; have ht5' := hide' ht5; clear hP5 hold5 hat5 hr5 ht5; have c7b := hP5'.out.box.c3; have c7c := (hP5'.out.alloc (.cells #[.slice (some ⟨g5, 0, none⟩) (nc + 700) cap5] 24)).box.c3; (try dsimp only)
                  refine hK.out _ _ ?_ (fun hHeld => ?_)
                  · trivial
                  clear hK K
                  try simp only [Act.put, List.setIfInBounds_toArray, List.set_cons_zero, List.set_cons_succ]
                  refine wpAnyH_ready (rs := [4, 14]) (by kernel_rfl) (by simp) ?_
                  refine AllReadyH.cons (o := { dst := some 112, op := Op.load 39 (Operand.tmp 111), type := 39, pos := "keep.go:105", after := #[{ on := 3, ground := Ground.data }], guard := none }) rfl (fun K hK => ?_) ?_
                  · skip
                    go_simp
                    refine hK.out _ _ ?_ (fun hHeld => ?_)
                    · trivial
                    clear hK K
                    try simp only [Act.put, List.setIfInBounds_toArray, List.set_cons_zero, List.set_cons_succ]
                    refine wpAnyH_ready (rs := [14]) (by kernel_rfl) (by simp) ?_
                    refine AllReadyH.cons (o := { dst := some 122, op := Op.buildSlice 39 1 #[(0, Operand.tmp 121)], type := 39, pos := "keep.go:105", after := #[{ on := 13, ground := Ground.data }], guard := none }) rfl (fun K hK => ?_) AllReadyH.nil
                    go_simp
                    refine hK.out _ _ ?_ (fun hHeld => ?_)
                    · trivial
                    clear hK K
                    try simp only [Act.put, List.setIfInBounds_toArray, List.set_cons_zero, List.set_cons_succ]
                    refine wpAnyH_ready (rs := [15]) (by kernel_rfl) (by simp) ?_
                    refine AllReadyH.cons (o := { dst := some 123, op := Op.call { callee := Callee.builtin Builtin.append, args := #[Operand.tmp 112, Operand.tmp 122], argTypes := #[39, 39] }, type := 39, pos := "keep.go:105", after := #[{ on := 4, ground := Ground.data }, { on := 14, ground := Ground.data }, { on := 13, ground := Ground.chain }], guard := none }) rfl (fun K hK => ?_) AllReadyH.nil
                    rw [if_pos (by rfl)]
                    refine wp_append_two _ (.tmp 112) (.tmp 122) 39 rfl 0 24 iL (.slice none 0 0) 1 24 Tryd.underlying39 hiL hzL0 hzL1 hzL2 rfl (by decide) om c vs2 rfl (hP5'.out.many.outer.alloc _) ⟨w5.heap.size, 0, none⟩ 1 1 [.slice (some ⟨g5, 0, none⟩) (nc + 700) cap5] rfl rfl (cell_one_new _ _ _) (by simp [Value.oneCell']) (by decide) (by unfold maxLen; omega) (by omega) (Nat.zero_le _) ?_; intro g6 cap6 w6 hnew6 hold6 hat6; have hb6 := hide' ((hP5'.out.alloc _).boxM hat6); have c66 := hb6.out.c3; have f66 := hb6.out.fz 3; (try dsimp only)
                    refine hK.out _ _ ?_ (fun hHeld => ?_)
                    · trivial
                    clear hK K
                    try simp only [Act.put, List.setIfInBounds_toArray, List.set_cons_zero, List.set_cons_succ]
                    refine wpAnyH_take (i := 16) (oi := { dst := some 124, op := Op.nilCheck (Operand.tmp 108), type := 0, pos := "keep.go:105", after := #[{ on := 0, ground := Ground.data }, { on := 0, ground := Ground.phase }, { on := 1, ground := Ground.phase }, { on := 2, ground := Ground.phase }, { on := 3, ground := Ground.phase }, { on := 4, ground := Ground.phase }, { on := 5, ground := Ground.phase }, { on := 6, ground := Ground.phase }, { on := 7, ground := Ground.phase }, { on := 8, ground := Ground.phase }, { on := 9, ground := Ground.phase }, { on := 10, ground := Ground.phase }, { on := 11, ground := Ground.phase }, { on := 12, ground := Ground.phase }, { on := 13, ground := Ground.phase }, { on := 14, ground := Ground.phase }, { on := 15, ground := Ground.phase }], guard := none }) (v := ?_) rfl (by kernel_rfl) (by kernel_rfl) (by kernel_rfl) (fun _ _ _ h => h) (Or.inl ⟨by rfl, ?_⟩) (by assumption) ?_
                    rotate_left
                    · intro w hSw; (try dsimp only at hSw); go_simp <;> with_reducible rfl
                    simp only [Act.put, List.setIfInBounds_toArray, List.set_cons_zero, List.set_cons_succ]
                    refine wpAnyH_take (i := 17) (oi := { dst := some 125, op := Op.fieldAddr 43 (Operand.tmp 124) 3, type := 0, pos := "keep.go:105", after := #[{ on := 16, ground := Ground.data }, { on := 0, ground := Ground.phase }, { on := 1, ground := Ground.phase }, { on := 2, ground := Ground.phase }, { on := 3, ground := Ground.phase }, { on := 4, ground := Ground.phase }, { on := 5, ground := Ground.phase }, { on := 6, ground := Ground.phase }, { on := 7, ground := Ground.phase }, { on := 8, ground := Ground.phase }, { on := 9, ground := Ground.phase }, { on := 10, ground := Ground.phase }, { on := 11, ground := Ground.phase }, { on := 12, ground := Ground.phase }, { on := 13, ground := Ground.phase }, { on := 14, ground := Ground.phase }, { on := 15, ground := Ground.phase }], guard := none }) (v := ?_) rfl (by kernel_rfl) (by kernel_rfl) (by kernel_rfl) (fun _ _ _ h => h) (Or.inl ⟨by rfl, ?_⟩) (by assumption) ?_
                    rotate_left
                    · intro w hSw; (try dsimp only at hSw); go_simp <;> with_reducible rfl
                    simp only [Act.put, List.setIfInBounds_toArray, List.set_cons_zero, List.set_cons_succ]
                    refine wpAnyH_ready (rs := [18]) (by kernel_rfl) (by simp) ?_
                    refine AllReadyH.cons (o := { dst := none, op := Op.store 39 (Operand.tmp 125) (Operand.tmp 123), type := 0, pos := "keep.go:105", after := #[{ on := 17, ground := Ground.data }, { on := 15, ground := Ground.data }, { on := 15, ground := Ground.chain }, { on := 0, ground := Ground.phase }, { on := 1, ground := Ground.phase }, { on := 2, ground := Ground.phase }, { on := 3, ground := Ground.phase }, { on := 4, ground := Ground.phase }, { on := 5, ground := Ground.phase }, { on := 6, ground := Ground.phase }, { on := 7, ground := Ground.phase }, { on := 8, ground := Ground.phase }, { on := 9, ground := Ground.phase }, { on := 10, ground := Ground.phase }, { on := 11, ground := Ground.phase }, { on := 12, ground := Ground.phase }, { on := 13, ground := Ground.phase }, { on := 14, ground := Ground.phase }, { on := 15, ground := Ground.phase }], guard := none }) rfl (fun K hK => ?_) AllReadyH.nil
                    go_simp
                    refine hK.out _ _ ?_ (fun hHeld => ?_)
                    · trivial
                    clear hK K
                    try simp only [Act.put, List.setIfInBounds_toArray, List.set_cons_zero, List.set_cons_succ]
                    refine wpAnyH_done (by kernel_rfl) ?_ _
                    skip
                    go_wp2
                    obtain ⟨tag6, hP6⟩ := (hP5'.out.alloc _).push2 (fun k ek => by cases ek; exact ht5'.out) (by unfold grA; rw [hnE.out]; exact hnew5'.out.alloc _) hnew6 hold6 hat6
                    exact ⟨⟨c + 1, tag6, _, _, by omega, by go_num, hP6⟩, by simp [intOf]; omega⟩
                  refine AllReadyH.cons (o := { dst := some 122, op := Op.buildSlice 39 1 #[(0, Operand.tmp 121)], type := 39, pos := "keep.go:105", after := #[{ on := 13, ground := Ground.data }], guard := none }) rfl (fun K hK => ?_) AllReadyH.nil
                  go_simp
                  refine hK.out _ _ ?_ (fun hHeld => ?_)
                  · trivial
                  clear hK K
                  try simp only [Act.put, List.setIfInBounds_toArray, List.set_cons_zero, List.set_cons_succ]
                  refine wpAnyH_ready (rs := [4]) (by kernel_rfl) (by simp) ?_
                  refine AllReadyH.cons (o := { dst := some 112, op := Op.load 39 (Operand.tmp 111), type := 39, pos := "keep.go:105", after := #[{ on := 3, ground := Ground.data }], guard := none }) rfl (fun K hK => ?_) AllReadyH.nil
                  go_simp
                  refine hK.out _ _ ?_ (fun hHeld => ?_)
                  · trivial
                  clear hK K
                  try simp only [Act.put, List.setIfInBounds_toArray, List.set_cons_zero, List.set_cons_succ]
                  refine wpAnyH_ready (rs := [15]) (by kernel_rfl) (by simp) ?_
                  refine AllReadyH.cons (o := { dst := some 123, op := Op.call { callee := Callee.builtin Builtin.append, args := #[Operand.tmp 112, Operand.tmp 122], argTypes := #[39, 39] }, type := 39, pos := "keep.go:105", after := #[{ on := 4, ground := Ground.data }, { on := 14, ground := Ground.data }, { on := 13, ground := Ground.chain }], guard := none }) rfl (fun K hK => ?_) AllReadyH.nil
                  rw [if_pos (by rfl)]
                  refine wp_append_two _ (.tmp 112) (.tmp 122) 39 rfl 0 24 iL (.slice none 0 0) 1 24 Tryd.underlying39 hiL hzL0 hzL1 hzL2 rfl (by decide) om c vs2 rfl (hP5'.out.many.outer.alloc _) ⟨w5.heap.size, 0, none⟩ 1 1 [.slice (some ⟨g5, 0, none⟩) (nc + 700) cap5] rfl rfl (cell_one_new _ _ _) (by simp [Value.oneCell']) (by decide) (by unfold maxLen; omega) (by omega) (Nat.zero_le _) ?_; intro g6 cap6 w6 hnew6 hold6 hat6; have hb6 := hide' ((hP5'.out.alloc _).boxM hat6); have c66 := hb6.out.c3; have f66 := hb6.out.fz 3; (try dsimp only)
                  refine hK.out _ _ ?_ (fun hHeld => ?_)
                  · trivial
                  clear hK K
                  try simp only [Act.put, List.setIfInBounds_toArray, List.set_cons_zero, List.set_cons_succ]
                  refine wpAnyH_take (i := 16) (oi := { dst := some 124, op := Op.nilCheck (Operand.tmp 108), type := 0, pos := "keep.go:105", after := #[{ on := 0, ground := Ground.data }, { on := 0, ground := Ground.phase }, { on := 1, ground := Ground.phase }, { on := 2, ground := Ground.phase }, { on := 3, ground := Ground.phase }, { on := 4, ground := Ground.phase }, { on := 5, ground := Ground.phase }, { on := 6, ground := Ground.phase }, { on := 7, ground := Ground.phase }, { on := 8, ground := Ground.phase }, { on := 9, ground := Ground.phase }, { on := 10, ground := Ground.phase }, { on := 11, ground := Ground.phase }, { on := 12, ground := Ground.phase }, { on := 13, ground := Ground.phase }, { on := 14, ground := Ground.phase }, { on := 15, ground := Ground.phase }], guard := none }) (v := ?_) rfl (by kernel_rfl) (by kernel_rfl) (by kernel_rfl) (fun _ _ _ h => h) (Or.inl ⟨by rfl, ?_⟩) (by assumption) ?_
                  rotate_left
                  · intro w hSw; (try dsimp only at hSw); go_simp <;> with_reducible rfl
                  simp only [Act.put, List.setIfInBounds_toArray, List.set_cons_zero, List.set_cons_succ]
                  refine wpAnyH_take (i := 17) (oi := { dst := some 125, op := Op.fieldAddr 43 (Operand.tmp 124) 3, type := 0, pos := "keep.go:105", after := #[{ on := 16, ground := Ground.data }, { on := 0, ground := Ground.phase }, { on := 1, ground := Ground.phase }, { on := 2, ground := Ground.phase }, { on := 3, ground := Ground.phase }, { on := 4, ground := Ground.phase }, { on := 5, ground := Ground.phase }, { on := 6, ground := Ground.phase }, { on := 7, ground := Ground.phase }, { on := 8, ground := Ground.phase }, { on := 9, ground := Ground.phase }, { on := 10, ground := Ground.phase }, { on := 11, ground := Ground.phase }, { on := 12, ground := Ground.phase }, { on := 13, ground := Ground.phase }, { on := 14, ground := Ground.phase }, { on := 15, ground := Ground.phase }], guard := none }) (v := ?_) rfl (by kernel_rfl) (by kernel_rfl) (by kernel_rfl) (fun _ _ _ h => h) (Or.inl ⟨by rfl, ?_⟩) (by assumption) ?_
                  rotate_left
                  · intro w hSw; (try dsimp only at hSw); go_simp <;> with_reducible rfl
                  simp only [Act.put, List.setIfInBounds_toArray, List.set_cons_zero, List.set_cons_succ]
                  refine wpAnyH_ready (rs := [18]) (by kernel_rfl) (by simp) ?_
                  refine AllReadyH.cons (o := { dst := none, op := Op.store 39 (Operand.tmp 125) (Operand.tmp 123), type := 0, pos := "keep.go:105", after := #[{ on := 17, ground := Ground.data }, { on := 15, ground := Ground.data }, { on := 15, ground := Ground.chain }, { on := 0, ground := Ground.phase }, { on := 1, ground := Ground.phase }, { on := 2, ground := Ground.phase }, { on := 3, ground := Ground.phase }, { on := 4, ground := Ground.phase }, { on := 5, ground := Ground.phase }, { on := 6, ground := Ground.phase }, { on := 7, ground := Ground.phase }, { on := 8, ground := Ground.phase }, { on := 9, ground := Ground.phase }, { on := 10, ground := Ground.phase }, { on := 11, ground := Ground.phase }, { on := 12, ground := Ground.phase }, { on := 13, ground := Ground.phase }, { on := 14, ground := Ground.phase }, { on := 15, ground := Ground.phase }], guard := none }) rfl (fun K hK => ?_) AllReadyH.nil
                  go_simp
                  refine hK.out _ _ ?_ (fun hHeld => ?_)
                  · trivial
                  clear hK K
                  try simp only [Act.put, List.setIfInBounds_toArray, List.set_cons_zero, List.set_cons_succ]
                  refine wpAnyH_done (by kernel_rfl) ?_ _
                  skip
                  go_wp2
                  obtain ⟨tag6, hP6⟩ := (hP5'.out.alloc _).push2 (fun k ek => by cases ek; exact ht5'.out) (by unfold grA; rw [hnE.out]; exact hnew5'.out.alloc _) hnew6 hold6 hat6
                  exact ⟨⟨c + 1, tag6, _, _, by omega, by go_num, hP6⟩, by simp [intOf]; omega⟩
            · obtain rfl : m = c := by omega
              have hP' := hide' hP
              have KL1 := hide' (lookBytesN b wr tagr _ ow o1 om om N m 5 700 cL n vs vs2 hP.box hP.live hP.many hm hn.out (by decide))
              have KL2 := hide' (lookBytesN b wr tagr _ ow o1 om o1 N m 4 16 cL n vs vs1 hP.box hP.live hP.one hm hn.out (by decide))
              have d7 := hP.box.c3
              have d6 := hP.box.c2
              obtain ⟨y1, y2, rfl⟩ := own_shape hP.one.outer
              obtain ⟨x1, x2, rfl⟩ := own_shape hP.many.outer
              clear hP
              go_wp2_with (first | (go_at_call_of 29 (Value.slice x1 m x2); refine KL1.out.mono ?_; rintro e w8 ⟨rfl, hw8⟩; obtain rfl : wr = w8 := hw8.symm) | (go_at_call_of 29 (Value.slice y1 m y2); refine KL2.out.mono ?_; rintro e w8 ⟨rfl, hw8⟩; obtain rfl : wr = w8 := hw8.symm))
              go_ret
              exact ⟨rfl, ⟨_, _, hP'.out.box⟩, hP'.out.S⟩
end Go.Proofs.YtgfnfbbiojnhaaaDoor.KB

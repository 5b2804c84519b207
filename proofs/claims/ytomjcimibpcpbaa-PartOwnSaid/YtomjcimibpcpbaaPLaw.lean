/- PartOwn: it returns true. -/
import Derived.Test.YtomjcimibpcpbaaPUs2
import Derived.Test.YtomjcimibpcpbaaPJoinQ
namespace Go.Proofs.Ytomjcimibpcpbaa
open Go.RowKit
theorem RowI.shapeP {w : World} {v : Value} {L : List Int} (h : RowI w v L) : ∃ oa cap, v = .slice oa L.length cap := by
  obtain ⟨oa, cap, e, _⟩ := h
  exact ⟨oa, cap, e⟩
set_option maxRecDepth 100000 in
set_option maxHeartbeats 8000000 in
theorem partOwn_walk (lA lB : List Int) (oA oB : Option Addr) (cA cB : Nat) (nn ii jj rk : Int) (w : World) (hA : RowI w (.slice oA lA.length cA) lA) (hB : RowI w (.slice oB lB.length cB) lB) (wfA : ∀ z ∈ lA, (Lit.int .i64 z).wf = true) (wfB : ∀ z ∈ lB, (Lit.int .i64 z).wf = true) :
    Calls Try.prog 3 #[.agg #[.slice oA lA.length cA, .slice oB lB.length cB, .int .i64 nn, .int .i64 ii, .int .i64 jj, .int .u64 rk]] w fun e w' => e = .returned (.bool true) ∧ Below w.heap.size w w' := by
  have hB0 : Hid (Below w.heap.size w (w.alloc (.cells #[.slice oA lA.length cA, .slice oB lB.length cB, .int .i64 nn, .int .i64 ii, .int .i64 jj, .int .u64 rk] 25))) := (Below.refl _ w).alloc (Nat.le_refl _) _
  have C1 : Hid ((w.alloc (.cells #[.slice oA lA.length cA, .slice oB lB.length cB, .int .i64 nn, .int .i64 ii, .int .i64 jj, .int .u64 rk] 25)).cell? ⟨w.heap.size, 1, none⟩ = some (.slice oB lB.length cB)) := by show _ = _; simp
  have K1 : Hid (Calls Try.prog 5 #[.slice oA lA.length cA, .int .i64 25] (w.alloc (.cells #[.slice oA lA.length cA, .slice oB lB.length cB, .int .i64 nn, .int .i64 ii, .int .i64 jj, .int .u64 rk] 25)) fun e w' => ∃ v', e = .returned v' ∧ RowI w' v' (lA.take 25) ∧ Below (w.alloc (.cells #[.slice oA lA.length cA, .slice oB lB.length cB, .int .i64 nn, .int .i64 ii, .int .i64 jj, .int .u64 rk] 25)).heap.size (w.alloc (.cells #[.slice oA lA.length cA, .slice oB lB.length cB, .int .i64 nn, .int .i64 ii, .int .i64 jj, .int .u64 rk] 25)) w') := few lA _ 25 _ (hA.below hB0.out (Nat.le_refl _)) (by decide)
  have KW := hide' wakes
  clear hA
  go_enter Try.func3, Try.ntmps3
  go_wp2_with fail
  refine K1.out.mono ?_
  rintro e w1 ⟨v1, rfl, r1, hb1⟩
  obtain ⟨o1, c1, rfl⟩ := r1.shapeP
  have hlA : (lA.take 25).length ≤ 25 := by rw [List.length_take]; omega
  have KO := hide' (ofP (lA.take 25) _ w1 r1 hlA (fun z hz => wfA z (List.mem_of_mem_take hz)))
  have hL0 := leg_pat0 (lA.take 25)
  have hL1 := pat_len (lA.take 25)
  clear K1 r1
  generalize pat (lA.take 25) = al at *
  generalize (lA.take 25).length = n at *
  go_wp2_with fail
  refine KO.out.mono ?_
  rintro e w2 ⟨ga, rfl, ho2, hb2⟩
  clear KO
  go_wp2_with fail
  refine (KW.out w2).mono ?_
  rintro e w3 ⟨rfl, hb3⟩
  have B1 := hb1.trans (hb2.mono hb1.size)
  have B2 := B1.trans (hb3.mono B1.size)
  have hB3 : Hid (Below w.heap.size w w3) := hB0.out.trans (B2.mono hB0.out.size)
  have c3 : Hid (w3.cell? ⟨w.heap.size, 1, none⟩ = some (.slice oB lB.length cB)) := (B2.cell (p := ⟨w.heap.size, 1, none⟩) (cell_lt C1.out)).trans C1.out
  have ra3 : Hid (RowI w3 (.slice (some ⟨ga, 0, none⟩) n n) (ints al)) := (rowI_own ho2).below hb3 (Nat.le_refl _)
  have rb3 := hide' (hB.below hB3.out (Nat.le_refl _))
  have hst := hide' (Zp.start w3)
  obtain ⟨b, hbe⟩ : ∃ b, b = w3.heap.size := ⟨_, rfl⟩
  rw [← hbe] at hst
  have hsr : Hid (∀ V, Below b w3 V → RowI V (.slice (some ⟨ga, 0, none⟩) n n) (ints al) ∧ RowI V (.slice oB lB.length cB) lB ∧ V.cell? ⟨w.heap.size, 1, none⟩ = some (.slice oB lB.length cB)) := fun V hV => ⟨ra3.out.below hV (by omega), rb3.out.below hV (by omega), (hV.cell (p := ⟨w.heap.size, 1, none⟩) (by have := cell_lt c3.out; show w.heap.size < b; omega)).trans c3.out⟩
  have hlen : Hid ((ints al).length = n) := by show _ = _; rw [ints_len, hL1]
  have haln : Hid (al.length = n) := hL1
  have hLg := hide' hL0
  have hbe' := hide' hbe
  clear hb1 hb2 hb3 B1 B2 C1 hB0 hB ra3 rb3 c3 ho2 KW hL1 hL0 wfA
  go_wp2
  generalize ((w3.alloc (.cells #[.slice none 0 0, .slice none 0 0, .slice none 0 0, .slice none 0 0, .slice none 0 0, .slice none 0 0, .slice none 0 0, .slice none 0 0, .slice none 0 0, .slice none 0 0, .slice none 0 0, .slice none 0 0, .int .i64 0] 36)).alloc (.cells #[.slice none 0 0, .slice none 0 0, .slice none 0 0, .slice none 0 0] 40)) = W5 at *
  simp only [← hbe]
  clear hbe
  have KL : Hid (∀ W M, Zp w3 W b M → M ≤ 90000 → Calls Try.prog 7 #[.pointer (some ⟨b + 1, 0, none⟩), .slice (some ⟨ga, 0, none⟩) n n] W fun e w' => ∃ g cap, e = .returned (.slice (some ⟨g, 0, none⟩) n cap) ∧ Hid (Zq w3 w' b (M + 1) (.slice (some ⟨g, 0, none⟩) n cap) (ints al))) := fun W M hZ hM => zqLoan hZ hM _ (ints al) n (hsr.out W hZ.old).1 hlen.out (by omega)
  have KL2 : Hid (∀ W M u, Zq w3 W b M u (ints al) → M ≤ 90000 → Calls Try.prog 7 #[.pointer (some ⟨b + 1, 0, none⟩), .slice (some ⟨ga, 0, none⟩) n n] W fun e w' => ∃ g cap, e = .returned (.slice (some ⟨g, 0, none⟩) n cap) ∧ Hid (Zp w3 w' b (M + 1) ∧ RowI w' u (ints al) ∧ RowI w' (.slice (some ⟨g, 0, none⟩) n cap) (ints al))) := fun W M u hZ hM => zqLoan2 hZ hM _ (ints al) n (hsr.out W hZ.zp.old).1 hlen.out (by omega)
  have hn25 : al.length ≤ 25 := by rw [haln.out]; exact hlA
  go_loopw [7, 8, 9] (fun k _ _ wr => ∃ c : Nat, c ≤ 3 ∧ k = .int .i64 c ∧ Hid (Zp w3 wr b (c * 20))) (fun k _ _ _ => ((3 : Int) - intOf k).toNat)
  case atStart => exact ⟨0, Nat.zero_le _, rfl, hst⟩
  case round =>
    clear hst
    obtain ⟨c, hc3, rfl, hZ0⟩ := hrel
    by_cases hlt3 : c < 3
    · have mergeN : ∀ (W : World) (o2 : Option Addr) (c2 : Nat), RowI W (.slice o2 n c2) (ints al) → Calls Try.prog 13 #[.slice o2 n c2, .int .i64 0, .int .i64 0] W fun e w' => ∃ o2 k c2 z, e = .returned (.tuple #[.slice o2 k c2, .int .i64 z]) ∧ Hid (OwnU W w' (.slice o2 k c2) k) ∧ Below W.heap.size W w' := fun W o2 c2 h => by
        have h1 := h
        rw [← haln.out] at h1 ⊢
        exact mergeU al o2 c2 W h1 hn25 hLg.out
      have finerN : ∀ (W : World) (va vb : Value), RowI W va (ints al) → RowI W vb (ints al) → Calls Try.prog 22 #[va, vb] W fun e w' => e = .returned (.bool true) ∧ Below W.heap.size W w' := fun W va vb r1 r2 => finerP n al al va vb W r1 r2 haln.out haln.out hlA hLg.out hLg.out true ⟨fun _ i j _ _ h => h, fun _ => rfl⟩
      have hd3 : decide ((c : Int) < 3) = true := by simp; omega
      have xB := (hsr.out _ hZ0.out.old).2.2
      go_wp2_with fail
      refine (few lB _ 25 wr (hsr.out _ hZ0.out.old).2.1 (by decide)).mono ?_
      rintro e u1 ⟨v1, rfl, r1, hb1⟩
      obtain ⟨o1, c1, rfl⟩ := r1.shapeP
      have hlB : (lB.take 25).length ≤ 25 := by rw [List.length_take]; omega
      have hwB : Hid (∀ z ∈ lB.take 25, (Lit.int .i64 z).wf = true) := fun z hz => wfB z (List.mem_of_mem_take hz)
      have hZ1 := hide' (hZ0.out.below hb1)
      have KI := hide' (zqLoan hZ1.out (by omega) _ (lB.take 25) _ r1 rfl (by omega))
      clear r1 hb1 xB hZ0
      have KOf : Hid (∀ W v, RowI W v (lB.take 25) → Calls Try.prog 4 #[v] W fun e w' => ∃ g, e = .returned (.tuple #[.slice (some ⟨g, 0, none⟩) (lB.take 25).length (lB.take 25).length, .int .i64 0]) ∧ w'.ownsRow W.heap.size 3 1 (.slice (some ⟨g, 0, none⟩) (lB.take 25).length (lB.take 25).length) (lB.take 25).length (cellsI (ints (pat (lB.take 25)))) ∧ Below W.heap.size W w') := fun W v h => ofP (lB.take 25) v W h hlB hwB.out
      have hpl : (ints (pat (lB.take 25))).length ≤ 1000000 := by rw [ints_len, pat_len]; omega
      generalize lB.take 25 = lb at *
      generalize hql : lb.length = q at *
      clear hql
      go_wp2_with fail
      refine KI.out.mono ?_
      rintro e u2 ⟨g2, c2, rfl, hZq2⟩
      have KO2 := hide' (KOf.out _ _ hZq2.out.row)
      clear KOf KI hZ1
      go_wp2_with fail
      refine KO2.out.mono ?_
      rintro e u3 ⟨g3, rfl, ho3, hb3⟩
      have KB3 := hide' (zpBookU hZq2.out.zp hb3 _ _ ⟨_, ho3, hpl⟩)
      clear KO2 ho3 hb3 hZq2 hpl
      go_wp2_with fail
      refine KB3.out.mono ?_
      rintro e u4 ⟨rfl, hZ4⟩
      clear KB3
      have KA11 := hide' (KL.out _ _ hZ4.out (by omega))
      clear hZ4
      go_wp2_with fail
      refine KA11.out.mono ?_
      rintro e a11 ⟨ga11, ca11, rfl, hq11⟩
      clear KA11
      have zz11 := hide' hq11.out.zp
      have KC11 := hide' (nextU al _ a11 hq11.out.row hn25 hLg.out)
      go_wp2_with fail
      refine KC11.out.mono ?_
      rintro e m11 ⟨oo11, kk11, cc11, bb11, rfl, hu11, hb11⟩
      clear KC11
      have KE11 := hide' (zpBookU zz11.out hb11 _ _ hu11.out)
      clear zz11
      go_wp2_with fail
      refine KE11.out.mono ?_
      rintro e n11 ⟨rfl, hZ11⟩
      clear KE11
      have KA12 := hide' (KL.out _ _ hZ11.out (by omega))
      clear hZ11
      go_wp2_with fail
      refine KA12.out.mono ?_
      rintro e a12 ⟨ga12, ca12, rfl, hq12⟩
      clear KA12
      have zz12 := hide' hq12.out.zp
      have KC12 := hide' (prevU al _ a12 hq12.out.row hn25 hLg.out)
      go_wp2_with fail
      refine KC12.out.mono ?_
      rintro e m12 ⟨oo12, kk12, cc12, bb12, rfl, hu12, hb12⟩
      clear KC12
      have KE12 := hide' (zpBookU zz12.out hb12 _ _ hu12.out)
      clear zz12
      go_wp2_with fail
      refine KE12.out.mono ?_
      rintro e n12 ⟨rfl, hZ12⟩
      clear KE12
      have KA13 := hide' (KL.out _ _ hZ12.out (by omega))
      clear hZ12
      go_wp2_with fail
      refine KA13.out.mono ?_
      rintro e a13 ⟨ga13, ca13, rfl, hq13⟩
      clear KA13
      have KD13 := hide' (KL2.out _ _ _ hq13.out (by omega))
      clear hq13
      go_wp2_with fail
      refine KD13.out.mono ?_
      rintro e d13 ⟨gd13, cd13, rfl, hd13⟩
      clear KD13
      have zz13 := hide' hd13.out.1
      have KC13 := hide' (meetP n al al _ _ d13 hd13.out.2.1 hd13.out.2.2 haln.out haln.out hlA hLg.out hLg.out)
      go_wp2_with fail
      refine KC13.out.mono ?_
      rintro e m13 ⟨gg13, rfl, ho13, hb13⟩
      clear KC13
      have KE13 := hide' (zpBookU zz13.out hb13 _ _ ⟨_, ho13, by have e1 := ho13.1; simp only [cellsI, List.length_map] at e1; omega⟩)
      clear zz13
      go_wp2_with fail
      refine KE13.out.mono ?_
      rintro e n13 ⟨rfl, hZ13⟩
      clear KE13
      have KA14 := hide' (KL.out _ _ hZ13.out (by omega))
      clear hZ13
      go_wp2_with fail
      refine KA14.out.mono ?_
      rintro e a14 ⟨ga14, ca14, rfl, hq14⟩
      clear KA14
      have KD14 := hide' (KL2.out _ _ _ hq14.out (by omega))
      clear hq14
      go_wp2_with fail
      refine KD14.out.mono ?_
      rintro e d14 ⟨gd14, cd14, rfl, hd14⟩
      clear KD14
      have zz14 := hide' hd14.out.1
      have KC14 := hide' (joinQ n al al _ _ d14 hd14.out.2.1 hd14.out.2.2 haln.out haln.out hlA hLg.out hLg.out)
      go_wp2_with fail
      refine KC14.out.mono ?_
      rintro e m14 ⟨gg14, rfl, ho14, hb14⟩
      clear KC14
      have KE14 := hide' (zpBookU zz14.out hb14 _ _ ⟨_, ho14, by have e1 := ho14.1; simp only [cellsI, List.length_map] at e1; omega⟩)
      clear zz14
      go_wp2_with fail
      refine KE14.out.mono ?_
      rintro e n14 ⟨rfl, hZ14⟩
      clear KE14
      have KA15 := hide' (KL.out _ _ hZ14.out (by omega))
      clear hZ14
      go_wp2_with fail
      refine KA15.out.mono ?_
      rintro e a15 ⟨ga15, ca15, rfl, hq15⟩
      clear KA15
      have zz15 := hide' hq15.out.zp
      have KC15 := hide' (mergeN a15 _ _ hq15.out.row)
      go_wp2_with fail
      refine KC15.out.mono ?_
      rintro e m15 ⟨oo15, kk15, cc15, bb15, rfl, hu15, hb15⟩
      clear KC15
      have KE15 := hide' (zpBookU zz15.out hb15 _ _ hu15.out)
      clear zz15
      go_wp2_with fail
      refine KE15.out.mono ?_
      rintro e n15 ⟨rfl, hZ15⟩
      clear KE15
      have zz16 := hZ15
      clear hZ15
      have KC16 := hide' (firstU n hlA n15)
      go_wp2_with fail
      refine KC16.out.mono ?_
      rintro e m16 ⟨oo16, kk16, cc16, bb16, rfl, hu16, hb16⟩
      clear KC16
      have KE16 := hide' (zpBookU zz16.out hb16 _ _ hu16.out)
      clear zz16
      go_wp2_with fail
      refine KE16.out.mono ?_
      rintro e n16 ⟨rfl, hZ16⟩
      clear KE16
      have zz17 := hZ16
      clear hZ16
      have KC17 := hide' (lastO n n16 hlA)
      go_wp2_with fail
      refine KC17.out.mono ?_
      rintro e m17 ⟨gg17, rfl, ho17, hb17⟩
      clear KC17
      have KE17 := hide' (zpBookU zz17.out hb17 _ _ ⟨_, ho17.out, by have e1 := ho17.out.1; simp only [cellsI, List.length_map] at e1; omega⟩)
      clear zz17
      go_wp2_with fail
      refine KE17.out.mono ?_
      rintro e n17 ⟨rfl, hZ17⟩
      clear KE17
      have zz18 := hZ17
      clear hZ17
      have KC18 := hide' (atP n 0 hlA (ways_pos n 0) n17)
      go_wp2_with fail
      refine KC18.out.mono ?_
      rintro e m18 ⟨gg18, rfl, ho18, hb18⟩
      clear KC18
      have KE18 := hide' (zpBookU zz18.out hb18 _ _ ⟨_, ho18, by have e1 := ho18.1; simp only [cellsI, List.length_map] at e1; omega⟩)
      clear zz18
      go_wp2_with fail
      refine KE18.out.mono ?_
      rintro e n18 ⟨rfl, hZ18⟩
      clear KE18
      have KA19 := hide' (KL.out _ _ hZ18.out (by omega))
      clear hZ18
      go_wp2_with fail
      refine KA19.out.mono ?_
      rintro e a19 ⟨ga19, ca19, rfl, hq19⟩
      clear KA19
      have zz19 := hide' hq19.out.zp
      have KC19 := hide' (blocksP n _ al _ a19 hq19.out.row haln.out hlA hLg.out rfl)
      generalize hblk : blks 0 al = mb at KC19
      have hmb : mb ≤ 65536 := by have := blks_leg hLg.out; omega
      go_wp2_with fail
      refine KC19.out.mono ?_
      rintro e m19 ⟨gt19, vs19, rfl, hT19, hb19⟩
      clear KC19
      have KE19 := hide' (zpBlocks zz19.out hb19 _ _ _ _ hT19 hmb (fun j => by unfold plc; have := List.length_filter_le (fun i => al[i]? == some j) (List.range al.length); rw [List.length_range] at this; omega))
      clear zz19
      go_wp2_with fail
      refine KE19.out.mono ?_
      rintro e n19 ⟨rfl, hZ19⟩
      clear KE19
      have zz20 := hZ19
      clear hZ19
      have KC20 := hide' (searchF n)
      go_wp2_with fail
      refine (KC20.out _).mono ?_
      rintro e m20 ⟨oo20, kk20, cc20, rfl, hN20, hb20⟩
      clear KC20
      have KE20 := hide' (zpLists zz20.out hb20 _ hN20.out)
      clear zz20
      go_wp2_with fail
      refine KE20.out.mono ?_
      rintro e n20 ⟨rfl, hZ20⟩
      clear KE20
      have KA21 := hide' (KL.out _ _ hZ20.out (by omega))
      clear hZ20
      go_wp2_with fail
      refine KA21.out.mono ?_
      rintro e a21 ⟨ga21, ca21, rfl, hq21⟩
      clear KA21
      have zz21 := hide' hq21.out.zp
      have KC21 := hide' (rankP al _ a21 hq21.out.row hn25 hLg.out)
      go_wp2_with fail
      refine KC21.out.mono ?_
      rintro e m21 ⟨rfl, hb21⟩
      clear KC21
      have hZ21 := hide' (zz21.out.below hb21)
      clear zz21
      have KA22 := hide' (KL.out _ _ hZ21.out (by omega))
      clear hZ21
      go_wp2_with fail
      refine KA22.out.mono ?_
      rintro e a22 ⟨ga22, ca22, rfl, hq22⟩
      clear KA22
      have zz22 := hide' hq22.out.zp
      have KC22 := hide' (sizeT al _ a22 hq22.out.row hn25 hLg.out)
      go_wp2_with fail
      refine KC22.out.mono ?_
      rintro e m22 ⟨rfl, rfl⟩
      clear KC22
      have hZ22 := hide' (zz22.out)
      clear zz22
      have KA23 := hide' (KL.out _ _ hZ22.out (by omega))
      clear hZ22
      go_wp2_with fail
      refine KA23.out.mono ?_
      rintro e a23 ⟨ga23, ca23, rfl, hq23⟩
      clear KA23
      have KD23 := hide' (KL2.out _ _ _ hq23.out (by omega))
      clear hq23
      go_wp2_with fail
      refine KD23.out.mono ?_
      rintro e d23 ⟨gd23, cd23, rfl, hd23⟩
      clear KD23
      have zz23 := hide' hd23.out.1
      have KC23 := hide' (finerN d23 _ _ hd23.out.2.1 hd23.out.2.2)
      go_wp2_with fail
      refine KC23.out.mono ?_
      rintro e m23 ⟨rfl, hb23⟩
      clear KC23
      have hZ23 := hide' (zz23.out.below hb23)
      clear zz23
      have KA24 := hide' (KL.out _ _ hZ23.out (by omega))
      clear hZ23
      go_wp2_with fail
      refine KA24.out.mono ?_
      rintro e a24 ⟨ga24, ca24, rfl, hq24⟩
      clear KA24
      have zz24 := hide' hq24.out.zp
      have KC24 := hide' (legalT al _ a24 hq24.out.row hn25 hLg.out)
      go_wp2_with fail
      refine KC24.out.mono ?_
      rintro e m24 ⟨rfl, rfl⟩
      clear KC24
      have hZ24 := hide' (zz24.out)
      clear zz24
      go_wp2
      exact ⟨⟨c + 1, by omega, by go_num, hZ24.out.more (by omega)⟩, by simp [intOf]; omega⟩
    · obtain rfl : c = 3 := by omega
      have K3 := hide' (zpBack hZ0.out (by decide))
      have hC3 : Hid (∀ V, K.BookO w3 b V → Calls Try.prog 25 #[.pointer (some ⟨b, 0, none⟩)] V fun e w' => e = .returned (.bool true) ∧ Below b w3 w') := fun V hV => K.ownClose hV
      clear hZ0
      go_wp2_with (first | (go_at_call 24; refine K3.out.mono ?_; rintro e wa ⟨rfl, hBo⟩) | (go_at_call 25; refine (hC3.out _ hBo.out).mono ?_; rintro e wb ⟨rfl, hbb⟩))
      go_ret
      have hz := hbe'.out
      exact ⟨rfl, hB3.out.trans (hbb.mono (by have := hB3.out.size; omega))⟩
end Go.Proofs.Ytomjcimibpcpbaa

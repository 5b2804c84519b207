/- AuditTells: the law's walk. -/
import Derived.Test.YtahfobbiaimoiaaGreatDoorJ42
import Derived.Test.YtahfobbiaimoiaaGreatDoorJ45
import Derived.Test.YtahfobbiaimoiaaGreatDoorJ47
import Derived.Test.YtahfobbiaimoiaaGreatDoorJ49
import Derived.Test.YtahfobbiaimoiaaGreatDoorJ50
import Derived.Deep.CutBlock
namespace Go.Proofs.YtahfobbiaimoiaaGreatDoor
open Go.RowKit
theorem Oc.det {F : Fw} {L : List Ev} {Pf : Nat → Nat} {z z' : Int} (h : Oc F L Pf z) (h' : Oc F L Pf z') : z = z' := by
  rcases h with ⟨a, rfl⟩ | ⟨a, b, rfl⟩ | ⟨a, b, rfl⟩ <;> rcases h' with ⟨a', rfl⟩ | ⟨a', b', rfl⟩ | ⟨a', b', rfl⟩ <;> first | rfl | exact absurd a' a | exact absurd a a' | exact absurd b' b | exact absurd b b'
theorem Oc.chk0 {F : Fw} {L : List Ev} {Pf : Nat → Nat} (h : Oc F L Pf 0) : chkF F = 0 := by
  rcases h with ⟨_, e⟩ | ⟨a, _, _⟩ | ⟨a, _, _⟩
  · exact e.symm
  · exact a
  · exact a
theorem two_rp {F : Fw} {L : List Ev} {Pf Sf Pf' Sf' : Nat → Nat} (hO : OrdF F Pf Sf) (hO' : OrdF F Pf' Sf') (h0 : chkF F = 0) : rpR Pf (newR F.steps.length (ftk L)) L = rpR Pf' (newR F.steps.length (ftk L)) L := rpR_two (hO h0) (hO' h0) L (by simp [newR])
theorem Oc.two {F : Fw} {L : List Ev} {Pf Sf Pf' Sf' : Nat → Nat} {z : Int} (hO : OrdF F Pf Sf) (hO' : OrdF F Pf' Sf') (h : Oc F L Pf z) : Oc F L Pf' z := by
  rcases h with h | ⟨a, b, e⟩ | ⟨a, b, e⟩
  · exact .inl h
  · rw [two_rp hO hO' a] at b; exact .inr (.inl ⟨a, b, e⟩)
  · rw [two_rp hO hO' a] at b; exact .inr (.inr ⟨a, b, e⟩)
theorem SpP.at' {F : Fw} {L : List Ev} {Pf Sf : Nat → Nat} {w w' : World} {e : Ending} (hO : OrdF F Pf Sf) (h : SpP F L w e w') : SdP Pf F L w e w' := by
  obtain ⟨Pf', Sf', l, z, rfl, hb, hO', h⟩ := h
  refine ⟨l, z, rfl, hb, ?_⟩
  rcases h with ⟨a, ⟨b, c⟩ | ⟨b, c, d⟩⟩ | ⟨b, c, d, f⟩
  · exact .inl ⟨a, .inl ⟨b.two hO' hO, c⟩⟩
  · exact .inl ⟨a, .inr ⟨b.two hO' hO, c, d⟩⟩
  · rw [two_rp hO' hO b.chk0] at f; exact .inr ⟨b.two hO' hO, c, d, f⟩
theorem row_none (W : World) : RowI W (.slice none 0 0) [] := RowI.of_owns (World.ownsRow_nil W W.heap.size 3 1)
theorem pairs_none (W : World) : O.PairsAt W (.slice none 0 0) [] := O.PairsAt.of_owns (World.ownsRow_nil W W.heap.size _ _)
/-- Two runs of Spans tell alike. -/
theorem SdP.two {F : Fw} {L : List Ev} {Pf : Nat → Nat} {w w' u u' : World} {e e' : Ending} (hn : F.steps.length ≤ 1000) (h : SdP Pf F L w e w') (h' : SdP Pf F L u e' u') : ∃ l l' z M, e = .returned (.tuple #[l, .int .i64 z]) ∧ e' = .returned (.tuple #[l', .int .i64 z]) ∧ Below w.heap.size w w' ∧ Below u.heap.size u u' ∧ O.PairsAt w' l M ∧ O.PairsAt u' l' M ∧ M.length ≤ 1000000 := by
  obtain ⟨l, z, rfl, hb, h⟩ := h
  obtain ⟨l', z', rfl, hb', h'⟩ := h'
  rcases h with ⟨rfl, ⟨b, c⟩ | ⟨b, c, rfl⟩⟩ | ⟨b, c, rfl, f⟩ <;> rcases h' with ⟨rfl, ⟨b', c'⟩ | ⟨b', c', rfl⟩⟩ | ⟨b', c', rfl, f'⟩
  · exact ⟨_, _, z, [], rfl, by rw [b'.det b], hb, hb', pairs_none _, pairs_none _, Nat.zero_le _⟩
  · exact absurd (b.det b') c
  · exact absurd (b.det b') c
  · exact absurd (b'.det b) c'
  · exact ⟨_, _, 7, [], rfl, rfl, hb, hb', pairs_none _, pairs_none _, Nat.zero_le _⟩
  · exact absurd c' c
  · exact absurd (b'.det b) c'
  · exact absurd c c'
  · exact ⟨_, _, 0, _, rfl, rfl, hb, hb', O.PairsAt.of_owns f, O.PairsAt.of_owns f', Nat.le_trans (spN_len _ _) (by omega)⟩
theorem Br.two {F : Fw} {L : List Ev} {Pf : Nat → Nat} {w w' u u' : World} {e e' : Ending} (hn : F.rules.length ≤ 1000) (h : BdP Pf F L w e w') (h' : BdP Pf F L u e' u') : ∃ l l' z M, e = .returned (.tuple #[l, .int .i64 z]) ∧ e' = .returned (.tuple #[l', .int .i64 z]) ∧ Below w.heap.size w w' ∧ Below u.heap.size u u' ∧ RowI w' l M ∧ RowI u' l' M ∧ M.length ≤ 1000000 := by
  obtain ⟨l, z, rfl, hb, h1, h2, h3⟩ := h
  obtain ⟨l', z', rfl, hb', h1', h2', h3'⟩ := h'
  obtain rfl := h1.det h1'
  by_cases hz : z = 0
  · exact ⟨_, _, z, _, rfl, rfl, hb, hb', RowI.of_owns (h3 hz), RowI.of_owns (h3' hz), Nat.le_trans (brN_len _ _ _) (by omega)⟩
  · rw [h2 hz, h2' hz]
    exact ⟨_, _, z, [], rfl, rfl, hb, hb', row_none _, row_none _, Nat.zero_le _⟩
theorem BrP.at' {F : Fw} {L : List Ev} {w w' : World} {e : Ending} (h : BrP F L w e w') : ∃ Pf Sf, OrdF F Pf Sf ∧ BdP Pf F L w e w' := by
  obtain ⟨Pf, Sf, l, z, rfl, hb, hO, h⟩ := h
  exact ⟨Pf, Sf, hO, l, z, rfl, hb, h⟩
theorem shapeI {W : World} {v : Value} {l : List Int} (h : RowI W v l) : ∃ o c, v = .slice o l.length c := by obtain ⟨o, c, e, _⟩ := h; exact ⟨o, c, e⟩
theorem shapeP {W : World} {v : Value} {l : List (Int × Int)} (h : O.PairsAt W v l) : ∃ o c, v = .slice o l.length c := by obtain ⟨o, c, e, _⟩ := h; exact ⟨o, c, e⟩
set_option maxRecDepth 100000 in
set_option maxHeartbeats 8000000 in
theorem auditTells_walk (F0 : Fw) (v : Value) (L0 : List Ev) (lv0 : Value) (w : World) (hv : flV w v F0) (hN : FlN F0) (hl : EvQ w lv0 L0) (hW0 : EvW L0) (ht : O.Tab w) :
    Calls Tryz.prog 4 #[v, lv0] w fun e w' => e = .returned (.bool true) ∧ Below w.heap.size w w' := by
  have KT0 : Hid (∀ W, Below w.heap.size w W → Calls Tryz.prog 9 #[v] W (CopR W (cutFw F0))) := fun W hW => twin7F F0 v W (hv.below hW (Nat.le_refl _))
  have KT1 : Hid (∀ W x, flV W x (cutFw F0) → Calls Tryz.prog 9 #[x] W (CopR W (cutFw F0))) := fun W x hx => by
    have := twin7F (cutFw F0) x W hx
    rwa [cut_idem] at this
  have KF0 : Hid (∀ W, Below w.heap.size w W → Calls Tryz.prog 10 #[lv0] W fun e w' => ∃ v', e = .returned v' ∧ w'.ownsRow W.heap.size 76 4 v' (L0.take 300).length (cellsEv (L0.take 300)) ∧ Below W.heap.size W w') := fun W hW => fewE L0 lv0 W (hl.over hW)
  have KF1 : Hid (∀ W x, EvQ W x (L0.take 300) → Calls Tryz.prog 10 #[x] W fun e w' => ∃ v', e = .returned v' ∧ w'.ownsRow W.heap.size 76 4 v' (L0.take 300).length (cellsEv (L0.take 300)) ∧ Below W.heap.size W w') := fun W x hx => by
    have := fewE (L0.take 300) x W hx
    rwa [List.take_take, Nat.min_self] at this
  have hLn : Hid ((L0.take 300).length ≤ 300) := by show _ ≤ _; rw [List.length_take]; omega
  have hLW : Hid (EvW (L0.take 300)) := fun e he => hW0 e (List.mem_of_mem_take he)
  have hB := flb_cut hN
  have hB' := hide' hB
  have KW : Hid (∀ W, Below w.heap.size w W → Calls Tryz.prog 13 #[] W fun e w' => e = .returned (.bool true) ∧ Below W.heap.size W w') := fun W hW => wakes23 W (ht.over hW)
  have T : Hid (∀ W, Below w.heap.size w W → O.Tab W) := fun W hW => ht.over hW
  generalize cutFw F0 = F at *
  generalize L0.take 300 = L at *
  have KB : Hid (∀ W x y, Below w.heap.size w W → flV W x F → EvQ W y L → Calls Tryz.prog 23 #[x, y] W (BrP F L W)) := fun W x y hW hx hy => brokenP F L x y W hx hB'.out hy (Nat.le_trans hLn.out (by omega)) (T.out W hW)
  have KBd : Hid (∀ Pf Sf W x y, OrdF F Pf Sf → flV W x F → EvQ W y L → Calls Tryz.prog 24 #[x, y] W (BdP Pf F L W)) := fun Pf Sf W x y hO hx hy => brokenD Pf Sf F L x y W hx hB'.out hy hLn.out hO
  have KS : Hid (∀ W x y, Below w.heap.size w W → flV W x F → EvQ W y L → Calls Tryz.prog 25 #[x, y] W (SpP F L W)) := fun W x y hW hx hy => spansP F L x y W hx hB'.out hy (Nat.le_trans hLn.out (by omega)) (T.out W hW)
  have KSd : Hid (∀ Pf Sf W x y, OrdF F Pf Sf → flV W x F → EvQ W y L → Calls Tryz.prog 26 #[x, y] W (SdP Pf F L W)) := fun Pf Sf W x y hO hx hy => spansD Pf Sf F L x y W hx hB'.out hy hLn.out hO
  have KL : Hid (∀ W x, EvQ W x L → Calls Tryz.prog 29 #[x] W fun e w' => ∃ v', e = .returned v' ∧ w'.ownsRow W.heap.size 93 2 v' (ldL L).length (O.cellsP (ldL L)) ∧ Below W.heap.size W w') := fun W x hx => loadsF L x W hx hLW.out (Nat.le_trans hLn.out (by omega))
  have KLd : Hid (∀ W x, EvQ W x L → Calls Tryz.prog 30 #[x] W fun e w' => ∃ v', e = .returned v' ∧ w'.ownsRow W.heap.size 93 2 v' (ldL L).length (O.cellsP (ldL L)) ∧ Below W.heap.size W w') := fun W x hx => loadsQ L x W hx (Nat.le_trans hLn.out (by omega))
  have KO : Hid (∀ W x, EvQ W x L → Calls Tryz.prog 31 #[x] W fun e w' => ∃ v', e = .returned v' ∧ w'.ownsRow W.heap.size 3 1 v' (odN L L.length).length (cellsI (odN L L.length)) ∧ Below W.heap.size W w') := fun W x hx => orderP L x W hx (Nat.le_trans hLn.out (by omega))
  have KOd : Hid (∀ W x, EvQ W x L → Calls Tryz.prog 32 #[x] W fun e w' => ∃ v', e = .returned v' ∧ w'.ownsRow W.heap.size 3 1 v' (odN L L.length).length (cellsI (odN L L.length)) ∧ Below W.heap.size W w') := fun W x hx => orderQ L x W hx (Nat.le_trans hLn.out (by omega))
  have KI : Hid (∀ W a b M, RowI W a M → RowI W b M → M.length ≤ 1000000 → Calls Tryz.prog 27 #[a, b] W fun e w' => e = .returned (.bool true) ∧ Below W.heap.size W w') := fun W a b M ha hb hn => by
    have := keepInts M M a b W ha hb hn hn
    rwa [decide_eq_true rfl] at this
  have KP : Hid (∀ W a b M, O.PairsAt W a M → O.PairsAt W b M → M.length ≤ 1000000 → Calls Tryz.prog 28 #[a, b] W fun e w' => e = .returned (.bool true) ∧ Below W.heap.size W w') := fun W a b M ha hb hn => keepPairsA M a b W ha hb hn
  have hl3 : Hid ((ldL L).length ≤ 1000000 ∧ (odN L L.length).length ≤ 1000000) := ⟨Nat.le_trans (ldL_len L) (by have := hLn.out; omega), Nat.le_trans (odN_len L _) (by have := hLn.out; omega)⟩
  have hls : Hid (F.steps.length ≤ 1000 ∧ F.rules.length ≤ 1000) := ⟨hB.sl, hB.rl⟩
  clear hLW
  obtain ⟨sv0, rv0, rfl, hs, hr⟩ := hv
  obtain ⟨oa, cap, rfl⟩ := hs.shape
  obtain ⟨ob, cb, rfl⟩ := hr.shape
  obtain ⟨ol, cl, rfl, _, _⟩ := hl
  clear hs hr hB hN ht hW0
  have B0 : Hid (Below w.heap.size w (w.alloc (.cells #[.string F0.name, .slice oa F0.steps.length cap, .slice ob F0.rules.length cb] 25))) := (Below.refl _ w).alloc (Nat.le_refl _) _
  have X0 := hide' (heap_alloc_new w (.cells #[.string F0.name, .slice oa F0.steps.length cap, .slice ob F0.rules.length cb] 25))
  obtain ⟨x0, x1, x2⟩ := bx3 X0.out
  go_enter Tryz.func4, Tryz.ntmps4
  go_wp2_with fail
  clear x0 x1 x2
  generalize w.alloc (.cells #[.string F0.name, .slice oa F0.steps.length cap, .slice ob F0.rules.length cb] 25) = W0 at *
  refine (KT0.out _ B0.out).mono ?_
  intro e w1 hC1
  obtain ⟨o1, c1, o2, c2, P1, P2, rfl, hF1, hb1⟩ := CopR.open hC1
  have B2 := hide' ((B0.out.trans (hb1.mono B0.out.size)).alloc (Nat.le_trans B0.out.size hb1.size) (.cells #[.string F.name, .slice o1 F.steps.length c1, .slice o2 F.rules.length c2] 25))
  have hF2 := hide' (hF1.over ((Below.refl _ w1).alloc (Nat.le_refl _) (.cells #[.string F.name, .slice o1 F.steps.length c1, .slice o2 F.rules.length c2] 25)))
  have D2 := hide' (heap_alloc_new w1 (.cells #[.string F.name, .slice o1 F.steps.length c1, .slice o2 F.rules.length c2] 25))
  clear KT0 hC1 hb1 hF1 B0 X0
  go_wp2_with fail
  generalize hbg : w1.heap.size = bf at *
  generalize w1.alloc (.cells #[.string F.name, .slice o1 F.steps.length c1, .slice o2 F.rules.length c2] 25) = W2 at *
  clear hbg
  have hG : Hid (∀ V, Below W2.heap.size W2 V → Below w.heap.size w V ∧ flV V (.agg #[.string F.name, .slice o1 F.steps.length c1, .slice o2 F.rules.length c2]) F ∧ V.cell? ⟨bf, 0, none⟩ = some (.string F.name) ∧ V.cell? ⟨bf, 1, none⟩ = some (.slice o1 F.steps.length c1) ∧ V.cell? ⟨bf, 2, none⟩ = some (.slice o2 F.rules.length c2)) := fun V hV => ⟨B2.out.trans (hV.mono B2.out.size), (hF2.out.over hV).fl, bx3 ((hV.block bf (Array.getElem?_eq_some_iff.1 D2.out).1).trans D2.out)⟩
  clear D2 hF2
  refine (KF0.out _ B2.out).mono ?_
  rintro e w3 ⟨v3, rfl, ho3, hb3⟩
  have E3 := hide' hb3
  obtain ⟨o3, c3, rfl⟩ := own_shp ho3
  have hL : Hid (∀ V, Below w3.heap.size w3 V → EvQ V (.slice o3 L.length c3) L) := fun V hV => EvQ.of_owns (own_same ho3 fun k hk _ => hV.block k hk)
  have hG3 : Hid (∀ V, Below w3.heap.size w3 V → Below w.heap.size w V ∧ flV V (.agg #[.string F.name, .slice o1 F.steps.length c1, .slice o2 F.rules.length c2]) F ∧ V.cell? ⟨bf, 0, none⟩ = some (.string F.name) ∧ V.cell? ⟨bf, 1, none⟩ = some (.slice o1 F.steps.length c1) ∧ V.cell? ⟨bf, 2, none⟩ = some (.slice o2 F.rules.length c2)) := fun V hV => hG.out V (E3.out.trans (hV.mono E3.out.size))
  clear KF0 ho3 hb3 B2 hG E3
  have R3 : Hid (Below w3.heap.size w3 w3) := Below.refl _ _
  -- the two Broken
  obtain ⟨_, f3, x0, x1, x2⟩ := hG3.out w3 R3.out
  have f3' := hide' f3
  clear f3
  go_wp2_with fail
  refine (KT1.out _ _ f3'.out).mono ?_
  intro e w4 hC4
  obtain ⟨o5, c5, o6, c6, P5, P6, rfl, hF4, hb4⟩ := CopR.open hC4
  have B4 := hide' hb4
  have hx4 := hide' (fun V (hV : Below w4.heap.size w4 V) => (hF4.over hV).fl)
  clear hC4 hF4 hb4 x0 x1 x2 f3'
  go_wp2_with fail
  refine (KF1.out _ _ (hL.out w4 B4.out)).mono ?_
  rintro e w5 ⟨v5, rfl, ho5, hb5⟩
  have B5 := hide' (B4.out.trans (hb5.mono B4.out.size))
  have K5 := hide' (KB.out w5 _ v5 (hG3.out _ B5.out).1 (hx4.out _ hb5) (EvQ.of_owns ho5))
  obtain ⟨ow, cw, rfl⟩ := own_shp ho5
  clear ho5 hb5 hx4 KB B4
  go_wp2_with fail
  refine K5.out.mono ?_
  intro e w6 h6
  obtain ⟨Pf, Sf, hO, h6⟩ := h6.at'
  have hO' := hide' hO
  have h6' := hide' h6
  obtain ⟨l1, z1, rfl, hb6, _⟩ := h6
  have B6 := hide' (B5.out.trans (hb6.mono B5.out.size))
  obtain ⟨_, f6, x0, x1, x2⟩ := hG3.out w6 B6.out
  have K7 := hide' (KBd.out Pf Sf w6 _ _ hO f6 (hL.out w6 B6.out))
  clear K5 hO hb6 B5 KBd f6
  go_wp2_with fail
  refine K7.out.mono ?_
  intro e w7 h7
  obtain ⟨l1', l2, z, M1, e1, rfl, _, hb7, hr1, hr2, hm1⟩ := Br.two hls.out.2 h6'.out h7
  simp at e1
  obtain ⟨rfl, rfl⟩ := e1
  have B7 := hide' (B6.out.trans (hb7.mono B6.out.size))
  have hR1 : Hid (∀ V, Below w7.heap.size w7 V → RowI V l1 M1 ∧ RowI V l2 M1) := fun V hV => ⟨(hr1.below hb7 (Nat.le_refl _)).below hV (Nat.le_refl _), hr2.below hV (Nat.le_refl _)⟩
  obtain ⟨p1, q1, rfl⟩ := shapeI hr1
  obtain ⟨p2, q2, rfl⟩ := shapeI hr2
  have hM1 := hide' hm1
  clear h6' h7 K7 hb7 hr1 hr2 B6 x0 x1 x2 hm1
  -- the two Spans
  obtain ⟨_, f3, x0, x1, x2⟩ := hG3.out w7 B7.out
  have f3' := hide' f3
  clear f3
  go_wp2_with fail
  refine (KT1.out _ _ f3'.out).mono ?_
  intro e w8 hC4
  obtain ⟨o5, c5, o6, c6, P5, P6, rfl, hF4, hb4⟩ := CopR.open hC4
  have B8 := hide' (B7.out.trans (hb4.mono B7.out.size))
  have A8 := hide' hb4
  have hx4 := hide' (fun V (hV : Below w8.heap.size w8 V) => (hF4.over hV).fl)
  clear hC4 hF4 hb4 x0 x1 x2 f3' KT1
  go_wp2_with fail
  refine (KF1.out _ _ (hL.out w8 B8.out)).mono ?_
  rintro e w9 ⟨v5, rfl, ho5, hb5⟩
  have B9 := hide' (B8.out.trans (hb5.mono B8.out.size))
  have A9 := hide' (A8.out.trans (hb5.mono A8.out.size))
  have K5 := hide' (KS.out w9 _ v5 (hG3.out _ B9.out).1 (hx4.out _ hb5) (EvQ.of_owns ho5))
  obtain ⟨ow, cw, rfl⟩ := own_shp ho5
  clear ho5 hb5 hx4 KS B8 A8
  go_wp2_with fail
  refine K5.out.mono ?_
  intro e w10 h6
  have h6 := h6.at' hO'.out
  have h6' := hide' h6
  obtain ⟨l3, z3, rfl, hb6, _⟩ := h6
  have B10 := hide' (B9.out.trans (hb6.mono B9.out.size))
  have A10 := hide' (A9.out.trans (hb6.mono A9.out.size))
  obtain ⟨_, f6, x0, x1, x2⟩ := hG3.out w10 B10.out
  have K7 := hide' (KSd.out Pf Sf w10 _ _ hO'.out f6 (hL.out w10 B10.out))
  clear K5 hb6 B9 A9 KSd f6 hO'
  go_wp2_with fail
  refine K7.out.mono ?_
  intro e w11 h7
  obtain ⟨l3', l4, z', M2, e1, rfl, _, hb7, hr1, hr2, hm1⟩ := SdP.two hls.out.1 h6'.out h7
  simp at e1
  obtain ⟨rfl, rfl⟩ := e1
  have B11 := hide' (B10.out.trans (hb7.mono B10.out.size))
  have A11 := hide' (A10.out.trans (hb7.mono A10.out.size))
  have hR2 : Hid (∀ V, Below w11.heap.size w11 V → O.PairsAt V l3 M2 ∧ O.PairsAt V l4 M2) := fun V hV => ⟨(hr1.over hb7).over hV, hr2.over hV⟩
  have hR1' : Hid (∀ V, Below w11.heap.size w11 V → RowI V (.slice p1 M1.length q1) M1 ∧ RowI V (.slice p2 M1.length q2) M1) := fun V hV => hR1.out V (A11.out.trans (hV.mono A11.out.size))
  obtain ⟨p3, q3, rfl⟩ := shapeP hr1
  obtain ⟨p4, q4, rfl⟩ := shapeP hr2
  have hM2 := hide' hm1
  have hG4 : Hid (∀ V, Below w11.heap.size w11 V → Below w.heap.size w V ∧ EvQ V (.slice o3 L.length c3) L) := fun V hV => ⟨(hG3.out V (B11.out.trans (hV.mono B11.out.size))).1, hL.out V (B11.out.trans (hV.mono B11.out.size))⟩
  clear h6' h7 K7 hb7 hr1 hr2 B10 A10 x0 x1 x2 hm1 hR1 hG3 hL hls B11 A11 B7
  have R11 : Hid (Below w11.heap.size w11 w11) := Below.refl _ _
  have KI1 : Hid (∀ V, Below w11.heap.size w11 V → Calls Tryz.prog 27 #[.slice p1 M1.length q1, .slice p2 M1.length q2] V fun e w' => e = .returned (.bool true) ∧ Below V.heap.size V w') := fun V hV => KI.out V _ _ M1 (hR1'.out V hV).1 (hR1'.out V hV).2 hM1.out
  have KP1 : Hid (∀ V, Below w11.heap.size w11 V → Calls Tryz.prog 28 #[.slice p3 M2.length q3, .slice p4 M2.length q4] V fun e w' => e = .returned (.bool true) ∧ Below V.heap.size V w') := fun V hV => KP.out V _ _ M2 (hR2.out V hV).1 (hR2.out V hV).2 hM2.out
  have KW1 := hide' (fun V (hV : Below w11.heap.size w11 V) => KW.out V (hG4.out V hV).1)
  have KF3 := hide' (fun V (hV : Below w11.heap.size w11 V) => KF1.out V _ (hG4.out V hV).2)
  have KL3 := hide' (fun V (hV : Below w11.heap.size w11 V) => KLd.out V _ (hG4.out V hV).2)
  have KO3 := hide' (fun V (hV : Below w11.heap.size w11 V) => KOd.out V _ (hG4.out V hV).2)
  have hF3 := hide' (fun V (hV : Below w11.heap.size w11 V) => (hG4.out V hV).1)
  have hd : Hid (Below w11.heap.size w11 w11) := R11.out
  clear hR1' hR2 hM1 hM2 KW KF1 KLd KOd hG4 T hLn hB' R11
  generalize M1.length = m1 at *
  generalize M2.length = m2 at *
  go_wp2_with (first | (go_at_call 13; refine (KW1.out _ B21.out).mono ?_; rintro e w22 ⟨rfl, hb⟩; have B22 := hide' (B21.out.trans (hb.mono B21.out.size)); clear hb) | (go_at_call 27; refine K20.out.mono ?_; rintro e w21 ⟨rfl, hb⟩; have B21 := hide' (B20.out.trans (hb.mono B20.out.size)); clear hb; clear K20) | (go_at_call 32; refine (KO3.out _ B19.out).mono ?_; rintro e w20 ⟨v20, rfl, ho, hb⟩; obtain ⟨o20, c20, rfl⟩ := own_shp ho; have K20 := hide' (KI.out w20 _ _ _ (hp19.out _ hb) (RowI.of_owns ho) hl3.out.2); clear ho hp19; have B20 := hide' (B19.out.trans (hb.mono B19.out.size)); clear hb) | (go_at_call 31; refine (KO.out _ _ hv18.out).mono ?_; rintro e w19 ⟨v19, rfl, ho, hb⟩; obtain ⟨o19, c19, rfl⟩ := own_shp ho; have hp19 := hide' (fun V (hV : Below w19.heap.size w19 V) => (RowI.of_owns ho).below hV (Nat.le_refl _)); clear ho hv18; have B19 := hide' (B18.out.trans (hb.mono B18.out.size)); clear hb) | (go_at_call 10; refine (KF3.out _ B17.out).mono ?_; rintro e w18 ⟨v18, rfl, ho, hb⟩; have hv18 := hide' (EvQ.of_owns ho); obtain ⟨oM, cM, rfl⟩ := own_shp ho; clear ho; have B18 := hide' (B17.out.trans (hb.mono B17.out.size)); clear hb) | (go_at_call 28; refine K16.out.mono ?_; rintro e w17 ⟨rfl, hb⟩; have B17 := hide' (B16.out.trans (hb.mono B16.out.size)); clear hb; clear K16) | (go_at_call 30; refine (KL3.out _ B15.out).mono ?_; rintro e w16 ⟨v16, rfl, ho, hb⟩; obtain ⟨o16, c16, rfl⟩ := own_shp ho; have K16 := hide' (KP.out w16 _ _ (ldL L) (hp15.out _ hb) (O.PairsAt.of_owns ho) hl3.out.1); clear ho hp15; have B16 := hide' (B15.out.trans (hb.mono B15.out.size)); clear hb) | (go_at_call 29; refine (KL.out _ _ hv14.out).mono ?_; rintro e w15 ⟨v15, rfl, ho, hb⟩; obtain ⟨o15, c15, rfl⟩ := own_shp ho; have hp15 := hide' (fun V (hV : Below w15.heap.size w15 V) => (O.PairsAt.of_owns ho).over hV); clear ho hv14; have B15 := hide' (B14.out.trans (hb.mono B14.out.size)); clear hb) | (go_at_call 10; refine (KF3.out _ B13.out).mono ?_; rintro e w14 ⟨v14, rfl, ho, hb⟩; have hv14 := hide' (EvQ.of_owns ho); obtain ⟨oL, cL, rfl⟩ := own_shp ho; clear ho; have B14 := hide' (B13.out.trans (hb.mono B13.out.size)); clear hb) | (go_at_call 28; refine (KP1.out _ B12.out).mono ?_; rintro e w13 ⟨rfl, hb⟩; have B13 := hide' (B12.out.trans (hb.mono B12.out.size)); clear hb; clear KP1) | (go_at_call 27; refine (KI1.out _ hd.out).mono ?_; rintro e w12 ⟨rfl, hb⟩; have B12 := hide' (hd.out.trans (hb.mono hd.out.size)); clear hb; clear KI1))
  have hF := hide' (hF3.out _ B22.out)
  go_ret
  exact ⟨rfl, hF.out⟩
end Go.Proofs.YtahfobbiaimoiaaGreatDoor

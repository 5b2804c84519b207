/- RunExact: the law's walk. -/
import Derived.Test.YtlipdccfhnnleaaGreatDoorJ28
import Derived.Test.YtlipdccfhnnleaaGreatDoorJ40
import Derived.Deep.CutRange
import Derived.Deep.CutBlock
namespace Go.Proofs.YtlipdccfhnnleaaGreatDoor
open Go.RowKit
theorem and_oneR (z : Int) : ∃ k : Nat, k < 2 ∧ bits .and .i64 z 1 = (k : Int) := by
  have h1 : (BitVec.ofInt 64 z &&& BitVec.ofInt 64 1).toNat < 2 := by
    rw [BitVec.toNat_and]
    have : (BitVec.ofInt 64 1).toNat = 2 ^ 1 - 1 := rfl
    rw [this, Nat.and_two_pow_sub_one_eq_mod]
    omega
  refine ⟨(BitVec.ofInt 64 z &&& BitVec.ofInt 64 1).toNat, h1, ?_⟩
  show IntKind.i64.wrap ((BitVec.ofInt 64 z &&& BitVec.ofInt 64 1).toNat : Int) = _
  generalize (BitVec.ofInt 64 z &&& BitVec.ofInt 64 1).toNat = q at *
  simp only [IntKind.wrap, IntKind.bits, IntKind.signed]
  simp
  omega
set_option maxRecDepth 100000 in
set_option maxHeartbeats 8000000 in
theorem runExact_walk (F0 G0 : Fw) (v u : Value) (L : List Oq) (ov : Value) (w : World) (hv : flV w v F0) (hN : FlN F0) (hu : flV w u G0) (hM : FlN G0) (hL : RowQ w ov L) (ht : O.Tab w) :
    Calls Tryz.prog 3 #[v, u, ov] w fun e w' => e = .returned (.bool true) ∧ Below w.heap.size w w' := by
  have KT0 : Hid (∀ W, Below w.heap.size w W → Calls Tryz.prog 6 #[v] W (CopR W (cutFw F0))) := fun W hW => twin7F F0 v W (hv.below hW (Nat.le_refl _))
  have KT2 : Hid (∀ W, Below w.heap.size w W → Calls Tryz.prog 6 #[u] W (CopR W (cutFw G0))) := fun W hW => twin7F G0 u W (hu.below hW (Nat.le_refl _))
  have KT1 : Hid (∀ W x, flV W x (cutFw F0) → Calls Tryz.prog 6 #[x] W (CopR W (cutFw F0))) := fun W x hx => by
    have := twin7F (cutFw F0) x W hx
    rwa [cut_idem] at this
  have KT3 : Hid (∀ W x, flV W x (cutFw G0) → Calls Tryz.prog 6 #[x] W (CopR W (cutFw G0))) := fun W x hx => by
    have := twin7F (cutFw G0) x W hx
    rwa [cut_idem] at this
  have hB := flb_cut hN
  have hC := flb_cut hM
  have hB' := hide' hB
  have hC' := hide' hC
  have KN : Hid (∀ W x, flV W x (cutFw F0) → Below w.heap.size w W → Calls Tryz.prog 7 #[x, .int .i64 1] W (NewP (cutFw F0) 1 W)) := fun W x hx hW => newRF _ x 1 W hx hB (ht.over hW)
  have KN2 : Hid (∀ W x, flV W x (cutFw G0) → Below w.heap.size w W → Calls Tryz.prog 7 #[x, .int .i64 2] W (NewP (cutFw G0) 2 W)) := fun W x hx hW => newRF _ x 2 W hx hC (ht.over hW)
  have KD : Hid (∀ W x, flV W x (cutFw F0) → Calls Tryz.prog 8 #[x, .int .i64 1] W (NewZ (cutFw F0) 1 W)) := fun W x hx => newD _ x 1 W hx hB
  have KD2 : Hid (∀ W x, flV W x (cutFw G0) → Calls Tryz.prog 8 #[x, .int .i64 2] W (NewZ (cutFw G0) 2 W)) := fun W x hx => newD _ x 2 W hx hC
  have KW : Hid (∀ W, Below w.heap.size w W → Calls Tryz.prog 9 #[] W fun e w' => e = .returned (.bool true) ∧ Below W.heap.size W w') := fun W hW => wakes17 W (ht.over hW)
  have T : Hid (∀ W, Below w.heap.size w W → O.Tab W) := fun W hW => ht.over hW
  generalize cutFw F0 = F at *
  generalize cutFw G0 = G at *
  obtain ⟨sv0, rv0, rfl, hs, hr⟩ := hv
  obtain ⟨oa, cap, rfl⟩ := hs.shape
  obtain ⟨ob, cb, rfl⟩ := hr.shape
  obtain ⟨su0, ru0, rfl, hsu, hru⟩ := hu
  obtain ⟨oc, cc, rfl⟩ := hsu.shape
  obtain ⟨od, cd, rfl⟩ := hru.shape
  obtain ⟨oq, cq, rfl, hcq, hLc⟩ := hL
  have hLc' := hide' hLc
  clear hs hr hsu hru hB hC hN hM ht hLc
  have B0 : Hid (Below w.heap.size w ((w.alloc (.cells #[.string F0.name, .slice oa F0.steps.length cap, .slice ob F0.rules.length cb] 25)).alloc (.cells #[.string G0.name, .slice oc G0.steps.length cc, .slice od G0.rules.length cd] 25))) := ((Below.refl _ w).alloc (Nat.le_refl _) _).alloc (by simp) _
  have X0 : Hid (((w.alloc (.cells #[.string F0.name, .slice oa F0.steps.length cap, .slice ob F0.rules.length cb] 25)).alloc (.cells #[.string G0.name, .slice oc G0.steps.length cc, .slice od G0.rules.length cd] 25)).heap[w.heap.size + 1]? = some (.cells #[.string G0.name, .slice oc G0.steps.length cc, .slice od G0.rules.length cd] 25 (0, 0))) := by
    have := heap_alloc_new (w.alloc (.cells #[.string F0.name, .slice oa F0.steps.length cap, .slice ob F0.rules.length cb] 25)) (.cells #[.string G0.name, .slice oc G0.steps.length cc, .slice od G0.rules.length cd] 25)
    rwa [World.size_alloc] at this
  go_enter Tryz.func3, Tryz.ntmps3
  go_wp2_with fail
  generalize (w.alloc (.cells #[.string F0.name, .slice oa F0.steps.length cap, .slice ob F0.rules.length cb] 25)).alloc (.cells #[.string G0.name, .slice oc G0.steps.length cc, .slice od G0.rules.length cd] 25) = W0 at *
  have hx0 : Hid (w.heap.size + 1 < W0.heap.size) := (Array.getElem?_eq_some_iff.1 X0.out).1
  refine (KT0.out _ B0.out).mono ?_
  intro e w1 hC1
  obtain ⟨o1, c1, o2, c2, P1, P2, rfl, hF1, hb1⟩ := CopR.open hC1
  have B2 := hide' ((B0.out.trans (hb1.mono B0.out.size)).alloc (Nat.le_trans B0.out.size hb1.size) (.cells #[.string F.name, .slice o1 F.steps.length c1, .slice o2 F.rules.length c2] 25))
  have E2 := hide' (hb1.alloc hb1.size (.cells #[.string F.name, .slice o1 F.steps.length c1, .slice o2 F.rules.length c2] 25))
  have hF2 := hide' (hF1.over ((Below.refl _ w1).alloc (Nat.le_refl _) (.cells #[.string F.name, .slice o1 F.steps.length c1, .slice o2 F.rules.length c2] 25)))
  have D2 := hide' (heap_alloc_new w1 (.cells #[.string F.name, .slice o1 F.steps.length c1, .slice o2 F.rules.length c2] 25))
  obtain ⟨x0, x1, x2⟩ := bx3 ((E2.out.block _ hx0.out).trans X0.out)
  clear KT0 hC1 hb1 hF1 B0 E2 X0 hx0
  go_wp2_with fail
  generalize hbg : w1.heap.size = bf at *
  generalize w1.alloc (.cells #[.string F.name, .slice o1 F.steps.length c1, .slice o2 F.rules.length c2] 25) = W2 at *
  clear hbg x0 x1 x2
  refine (KT2.out _ B2.out).mono ?_
  intro e w3 hC3
  obtain ⟨o3, c3, o4, c4, P3, P4, rfl, hF3, hb3⟩ := CopR.open hC3
  have B4 := hide' ((B2.out.trans (hb3.mono B2.out.size)).alloc (Nat.le_trans B2.out.size hb3.size) (.cells #[.string G.name, .slice o3 G.steps.length c3, .slice o4 G.rules.length c4] 25))
  have E4 := hide' (hb3.alloc hb3.size (.cells #[.string G.name, .slice o3 G.steps.length c3, .slice o4 G.rules.length c4] 25))
  have hF4 := hide' (hF2.out.over E4.out)
  have D4 := hide' ((E4.out.block bf (Array.getElem?_eq_some_iff.1 D2.out).1).trans D2.out)
  have hG4 := hide' (hF3.over ((Below.refl _ w3).alloc (Nat.le_refl _) (.cells #[.string G.name, .slice o3 G.steps.length c3, .slice o4 G.rules.length c4] 25)))
  have G4 := hide' (heap_alloc_new w3 (.cells #[.string G.name, .slice o3 G.steps.length c3, .slice o4 G.rules.length c4] 25))
  obtain ⟨x0, x1, x2⟩ := bx3 D4.out
  clear KT2 hC3 hb3 hF3 B2 E4 hF2 D2
  go_wp2_with fail
  generalize hbg : w3.heap.size = bg at *
  generalize w3.alloc (.cells #[.string G.name, .slice o3 G.steps.length c3, .slice o4 G.rules.length c4] 25) = W4 at *
  clear hbg x0 x1 x2
  -- Twin(a), New
  refine (KT1.out _ _ hF4.out.fl).mono ?_
  intro e w5 hC5
  obtain ⟨o5, c5, o6, c6, P5, P6, rfl, hF5, hb5⟩ := CopR.open hC5
  have B5 := hide' (B4.out.trans (hb5.mono B4.out.size))
  have K5 := hide' (KN.out w5 _ hF5.fl B5.out)
  have E5 := hide' hb5
  clear KT1 KN hC5 hb5 hF5
  go_wp2_with fail
  refine K5.out.mono ?_
  intro e w6 hN6
  obtain ⟨pa, rfl, hb6, hNA⟩ := hN6.one
  have E6 := hide' (E5.out.trans (hb6.mono E5.out.size))
  have Z5 := hide' hb6
  have B6 := hide' (B5.out.trans (hb6.mono B5.out.size))
  have hA6 := hide' hNA
  have hF6 := hide' (hF4.out.over E6.out)
  have hG6 := hide' (hG4.out.over E6.out)
  have D6 := hide' ((E6.out.block bf (Array.getElem?_eq_some_iff.1 D4.out).1).trans D4.out)
  have G6 := hide' ((E6.out.block bg (Array.getElem?_eq_some_iff.1 G4.out).1).trans G4.out)
  obtain ⟨x0, x1, x2⟩ := bx3 G6.out
  clear K5 hN6 hNA hb6 E5 E6 hF4 hG4 D4 G4 B4
  go_wp2_with fail
  clear x0 x1 x2
  refine (KT3.out _ _ hG6.out.fl).mono ?_
  intro e w7 hC7
  obtain ⟨o7, c7, o8, c8, P7, P8, rfl, hF7, hb7⟩ := CopR.open hC7
  have B7 := hide' (B6.out.trans (hb7.mono B6.out.size))
  have K7 := hide' (KN2.out w7 _ hF7.fl B7.out)
  have E7 := hide' hb7
  clear KT3 KN2 hC7 hb7 hF7
  go_wp2_with fail
  refine K7.out.mono ?_
  intro e w8 hN8
  obtain ⟨pb, rfl, hb8, hNB⟩ := hN8.one
  have E8 := hide' (E7.out.trans (hb8.mono E7.out.size))
  have Z7 := hide' hb8
  have B8 := hide' (B7.out.trans (hb8.mono B7.out.size))
  have hB8 := hide' hNB
  have hF8 := hide' (hF6.out.over E8.out)
  have hG8 := hide' (hG6.out.over E8.out)
  have D8 := hide' ((E8.out.block bf (Array.getElem?_eq_some_iff.1 D6.out).1).trans D6.out)
  have G8 := hide' ((E8.out.block bg (Array.getElem?_eq_some_iff.1 G6.out).1).trans G6.out)
  obtain ⟨x0, x1, x2⟩ := bx3 D8.out
  clear K7 hN8 hNB hb8 E8 hF6 hG6 D6 G6
  go_wp2_with fail
  clear x0 x1 x2
  refine (KD.out _ _ hF8.out.fl).mono ?_
  intro e w9 hN9
  obtain ⟨xa, rfl, hb9, hNX⟩ := hN9.one
  have Z9 := hide' hb9
  have B9 := hide' (B8.out.trans (hb9.mono B8.out.size))
  have hX9 := hide' hNX
  have hG9 := hide' (hG8.out.over hb9)
  have G9 := hide' ((hb9.block bg (Array.getElem?_eq_some_iff.1 G8.out).1).trans G8.out)
  obtain ⟨x0, x1, x2⟩ := bx3 G9.out
  clear KD hN9 hNX hb9 hF8 hG8 D8 G8
  go_wp2_with fail
  clear x0 x1 x2
  refine (KD2.out _ _ hG9.out.fl).mono ?_
  intro e w10 hN10
  obtain ⟨xb, rfl, hb10, hNY⟩ := hN10.one
  have B10 := hide' (B9.out.trans (hb10.mono B9.out.size))
  have hT := hide' (Tw2.start hA6.out hB8.out hX9.out hNY B5.out Z5.out E7.out Z7.out (Below.refl _ _) Z9.out hb10)
  have hnA : pa.isNone = xa.isNone := by have := hT.out.nilA; cases pa <;> cases xa <;> simp_all
  have hnB : pb.isNone = xb.isNone := by have := hT.out.nilB; cases pb <;> cases xb <;> simp_all
  have K10 := hide' (KW.out w10 B10.out)
  clear KD2 KW hN10 hNY hb10 hG9 G9 hA6 hB8 hX9 Z5 Z7 Z9 E7 B5 B6 B7 B8 B9
  generalize chkF F = za at *
  generalize chkF G = zb at *
  go_upto_block 0 with (go_at_call 9; refine K10.out.mono ?_; rintro e w11 ⟨rfl, hb11⟩; have hT11 := hide' (hT.out.over hb11))
  clear K10 hT hnA hnB hb11 B10
  try generalize xa.isNone = ba
  try generalize xb.isNone = bb
  try generalize pa.isNone = bc
  try generalize pb.isNone = bd
  go_cut [17] from 44 to 139 (fun _ wx => Hid (Tw2 w F G pa xa pb xb 200 wx))
  case first => as_aux_lemma =>
    go_wp2
    go_loopw [17] (fun j wr => ∃ c : Nat, c ≤ L.length ∧ c ≤ 200 ∧ j = .int .i64 c ∧ Hid (Tw2 w F G pa xa pb xb c wr)) (fun j _ => ((200 : Int) - intOf j).toNat)
    case atStart => exact ⟨0, Nat.zero_le _, Nat.zero_le _, rfl, hT11⟩
    case round =>
      clear hT11
      obtain ⟨c, hcl, hc200, rfl, hP⟩ := hrel
      have hbw := hide' hP.out.bl
      by_cases hgo : c < L.length ∧ c < 200
      · obtain ⟨hlt, h200⟩ := hgo
        obtain ⟨q, hx⟩ : ∃ x, L[c]? = some x := ⟨_, List.getElem?_eq_getElem hlt⟩
        obtain ⟨g, f, rfl, e0, e1, e2, e3, e4, e5⟩ := hLc'.out c q hx
        have d0 := (hbw.out.cell (p := ⟨g, f + c * 6, none⟩) (cell_lt e0)).trans e0
        have d1 := (hbw.out.cell (p := ⟨g, f + c * 6 + 1, none⟩) (cell_lt e1)).trans e1
        have d2 := (hbw.out.cell (p := ⟨g, f + c * 6 + 2, none⟩) (cell_lt e2)).trans e2
        have d3 := (hbw.out.cell (p := ⟨g, f + c * 6 + 3, none⟩) (cell_lt e3)).trans e3
        have d4 := (hbw.out.cell (p := ⟨g, f + c * 6 + 4, none⟩) (cell_lt e4)).trans e4
        have d5 := (hbw.out.cell (p := ⟨g, f + c * 6 + 5, none⟩) (cell_lt e5)).trans e5
        have hcq1 := hcq.1
        have hTb := hide' (T.out wr hbw.out)
        obtain ⟨b, hb2, hon⟩ := and_oneR q.on
        have hb : b = 0 ∨ b = 1 := by omega
        have hP1 := hide' (hP.out.more (Nat.le_succ c))
        have h00 := hide' e0
        clear hx e0 e1 e2 e3 e4 e5 hLc' T hbw hcq hb2
        rcases hb with rfl | rfl
        · cases pa with
          | none =>
            clear hP hTb
            generalize q.on = a0 at *
            go_wp2
            exact ⟨⟨c + 1, by omega, by omega, by go_num, hP1⟩, by simp [intOf]; omega⟩
          | some gA =>
            obtain ⟨gX, rfl⟩ : ∃ x, xa = some x := by
              have := hP.out.nilA
              cases xa with
              | none => exact absurd (this.2 rfl) (by simp)
              | some x => exact ⟨x, rfl⟩
            have KK := hide' (hP.out.playA (by omega) hTb.out q)
            clear hP hTb hP1
            generalize q.on = a0 at *
            generalize q.op = a1 at *
            generalize q.step = a2 at *
            generalize q.user = a3 at *
            generalize q.tick = a4 at *
            generalize q.stuck = a5 at *
            go_wp2_with fail
            refine KK.out.mono ?_
            rintro e w7 ⟨rfl, hP2⟩
            have hP7 := hide' hP2
            have d0' := (hP7.out.bl.cell (p := ⟨g, f + c * 6, none⟩) (cell_lt h00.out)).trans h00.out
            clear KK hP2 d0 d1 d2 d3 d4 d5 h00
            go_wp2
            exact ⟨⟨c + 1, by omega, by omega, by go_num, hP7⟩, by simp [intOf]; omega⟩
        · cases pb with
          | none =>
            clear hP hTb
            generalize q.on = a0 at *
            go_wp2
            exact ⟨⟨c + 1, by omega, by omega, by go_num, hP1⟩, by simp [intOf]; omega⟩
          | some gA =>
            obtain ⟨gX, rfl⟩ : ∃ x, xb = some x := by
              have := hP.out.nilB
              cases xb with
              | none => exact absurd (this.2 rfl) (by simp)
              | some x => exact ⟨x, rfl⟩
            have KK := hide' (hP.out.swap.playA (by omega) hTb.out q)
            clear hP hTb hP1
            generalize q.on = a0 at *
            generalize q.op = a1 at *
            generalize q.step = a2 at *
            generalize q.user = a3 at *
            generalize q.tick = a4 at *
            generalize q.stuck = a5 at *
            go_wp2_with fail
            refine KK.out.mono ?_
            rintro e w7 ⟨rfl, hP2⟩
            have hP7 := hide' hP2.swap
            have d0' := (hP7.out.bl.cell (p := ⟨g, f + c * 6, none⟩) (cell_lt h00.out)).trans h00.out
            clear KK hP2 d0 d1 d2 d3 d4 d5 h00
            go_wp2
            exact ⟨⟨c + 1, by omega, by omega, by go_num, hP7⟩, by simp [intOf]; omega⟩
      · have hP2 := hide' (hP.out.more hc200)
        clear hP hLc' T hbw
        by_cases hlt : c < L.length
        · have h200 : ¬ c < 200 := fun h => hgo ⟨hlt, h⟩
          clear hgo
          go_wp2
          go_meet
          exact hP2
        · clear hgo
          go_wp2
          go_meet
          exact hP2
  case rest =>
  have hbw := hide' hcut.out.bl
  have hTb := hide' (T.out _ hbw.out)
  have hnA := hide' hcut.out.nilA
  have hnB := hide' hcut.out.nilB
  have KA : Hid (∀ g x V, pa = some g → xa = some x → Below wc.heap.size wc V → Calls Tryz.prog 11 #[.pointer (some g), .pointer (some x)] V fun e w' => e = .returned (.bool true) ∧ Below V.heap.size V w') := fun g x V e1 e2 hV => by
    subst e1 e2
    exact (hcut.out.over hV).wholeA (by omega) hB'.out (hTb.out.over hV)
  have KB : Hid (∀ g x V, pb = some g → xb = some x → Below wc.heap.size wc V → Calls Tryz.prog 11 #[.pointer (some g), .pointer (some x)] V fun e w' => e = .returned (.bool true) ∧ Below V.heap.size V w') := fun g x V e1 e2 hV => by
    subst e1 e2
    exact (hcut.out.over hV).swap.wholeA (by omega) hC'.out (hTb.out.over hV)
  clear hcut hT11 hLc' hB' hC' hTb T hcq
  cases pa with
  | none =>
    cases pb with
    | none =>
      clear KA KB hnA hnB
      go_wp2
      go_ret
      exact ⟨rfl, hbw.out⟩
    | some gB =>
      obtain ⟨gY, rfl⟩ : ∃ x, xb = some x := by
        cases xb with
        | none => exact absurd (hnB.out.2 rfl) (by simp)
        | some x => exact ⟨x, rfl⟩
      have K1 := hide' (KB.out gB gY wc rfl rfl (Below.refl _ _))
      clear KA KB hnA hnB
      go_wp2_with fail
      refine K1.out.mono ?_
      rintro e w12 ⟨rfl, hb12⟩
      have hF := hide' (hbw.out.trans (hb12.mono hbw.out.size))
      clear K1 hb12
      go_wp2
      go_ret
      exact ⟨rfl, hF.out⟩
  | some gA =>
    obtain ⟨gX, rfl⟩ : ∃ x, xa = some x := by
      cases xa with
      | none => exact absurd (hnA.out.2 rfl) (by simp)
      | some x => exact ⟨x, rfl⟩
    have K1 := hide' (KA.out gA gX wc rfl rfl (Below.refl _ _))
    clear KA hnA
    cases pb with
    | none =>
      clear KB hnB
      go_wp2_with fail
      refine K1.out.mono ?_
      rintro e w12 ⟨rfl, hb12⟩
      have hF := hide' (hbw.out.trans (hb12.mono hbw.out.size))
      clear K1 hb12
      go_wp2
      go_ret
      exact ⟨rfl, hF.out⟩
    | some gB =>
      obtain ⟨gY, rfl⟩ : ∃ x, xb = some x := by
        cases xb with
        | none => exact absurd (hnB.out.2 rfl) (by simp)
        | some x => exact ⟨x, rfl⟩
      clear hnB
      go_wp2_with fail
      refine K1.out.mono ?_
      rintro e w12 ⟨rfl, hb12⟩
      have K2 := hide' (KB.out gB gY w12 rfl rfl hb12)
      have hF := hide' (hbw.out.trans (hb12.mono hbw.out.size))
      clear K1 hb12 KB
      go_wp2_with fail
      refine K2.out.mono ?_
      rintro e w13 ⟨rfl, hb13⟩
      have hF2 := hide' (hF.out.trans (hb13.mono hF.out.size))
      clear K2 hb13
      go_wp2
      go_ret
      exact ⟨rfl, hF2.out⟩
end Go.Proofs.YtlipdccfhnnleaaGreatDoor

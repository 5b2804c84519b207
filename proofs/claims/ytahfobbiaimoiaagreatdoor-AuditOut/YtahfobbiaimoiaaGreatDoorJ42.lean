/- Audit's wakes; Pairs of two like rows; few. -/
import Derived.Test.YtahfobbiaimoiaaGreatDoorJ28
import Derived.Test.YtahfobbiaimoiaaGreatDoorJ36
import Derived.Test.YtahfobbiaimoiaaGreatDoorJ38
namespace Go.Proofs.YtahfobbiaimoiaaGreatDoor
open Go.RowKit
theorem bx3A {V : World} {b : Nat} {x0 x1 x2 : Value} {t : TypeId} (h : V.heap[b]? = some (.cells #[x0, x1, x2] t (0, 0))) : V.cell? ⟨b, 0, none⟩ = some x0 ∧ V.cell? ⟨b, 1, none⟩ = some x1 ∧ V.cell? ⟨b, 2, none⟩ = some x2 := by simp [World.cell?, h]
theorem pair_eqA (a b : Int) (w : World) : (Op.equalIn 10000 93 (.agg #[.int .i64 a, .int .i64 b]) (.agg #[.int .i64 a, .int .i64 b])).run Tryz.prog w = .ok true w := by
  have u3 := Tryz.underlying3
  have a3 := Tryz.isAgg3
  have z3 := Tryz.sizeOf3
  rw [show (10000 : Nat) = 9999 + 1 from rfl, Op.equalIn]
  simp only [Sem.run_bind, run_underlying Tryz.underlying93, Result.andThen_ok]
  simp only [Std.Legacy.Range.forIn_eq_forIn_range', Std.Legacy.Range.size, Nat.sub_zero, Nat.add_sub_cancel, Nat.div_one, List.range'_succ, List.range'_zero, List.forIn_cons, List.forIn_nil]
  go_simp
set_option maxRecDepth 100000 in
set_option maxHeartbeats 1000000 in
theorem keepPairsA (L : List (Int × Int)) (va vb : Value) (w : World) (ha : O.PairsAt w va L) (hb : O.PairsAt w vb L) (hn : L.length ≤ 1000000) :
    Calls Tryz.prog 28 #[va, vb] w fun e w' => e = .returned (.bool true) ∧ Below w.heap.size w w' := by
  have ha0 := hide' (fun V (h : Below w.heap.size w V) => ha.over h)
  have hb0 := hide' (fun V (h : Below w.heap.size w V) => hb.over h)
  obtain ⟨oa, ca, rfl, hca, ha⟩ := ha
  obtain ⟨ob, cb, rfl, hcb, hb⟩ := hb
  have hca1 := hca.1
  have hcb1 := hcb.1
  clear ha hb hca hcb
  go_enter Tryz.func28, Tryz.ntmps28
  go_wp2
  go_loopw [5] (fun k wr => ∃ (c : Nat), c ≤ L.length ∧ k = .int .i64 c ∧ Hid (Below w.heap.size w wr)) (fun k _ => ((L.length : Int) - intOf k).toNat)
  case atStart => exact ⟨0, Nat.zero_le _, rfl, Below.refl _ _⟩
  case round =>
    obtain ⟨c, hc, rfl, hB⟩ := hrel
    by_cases hlt : c < L.length
    · obtain ⟨⟨x, y⟩, hx⟩ : ∃ x, L[c]? = some x := ⟨_, List.getElem?_eq_getElem hlt⟩
      obtain ⟨_, _, e1, _, h1⟩ := ha0.out wr hB.out
      obtain ⟨_, _, e2, _, h2⟩ := hb0.out wr hB.out
      injection e1 with e1 _ e1c
      injection e2 with e2 _ e2c
      subst e1 e1c e2 e2c
      obtain ⟨g1, o1, rfl, c1, c2⟩ := h1 c _ hx
      obtain ⟨g2, o2, rfl, c3, c4⟩ := h2 c _ hx
      have hpe := fun W => pair_eqA x y W
      simp only [] at c1 c2 c3 c4
      clear ha0 hb0 h1 h2 hx
      go_wp2
      go_quiet (fail)
      go_wp2
      exact ⟨⟨c + 1, by omega, by go_num, below_drewR hB.out _⟩, by simp [intOf]; omega⟩
    · obtain rfl : c = L.length := by omega
      clear ha0 hb0
      go_wp2
      go_ret
      exact ⟨rfl, hB.out⟩
def SA : List Sp := [⟨⟨#[97, 115, 107]⟩, ⟨#[97, 115, 107]⟩, []⟩]
def FA : Fw := ⟨⟨#[112, 97, 121]⟩, SA, []⟩
def LA : List Ev := [⟨1, 1, -1, -1⟩, ⟨2, 2, 0, 7⟩]
theorem okA : FlOk FA where
  nm := by decide +kernel
  le := by decide
  ne := by decide
  st := by decide +kernel
  rl := by decide
  ru := rfl
  cy := by
    rintro ⟨a, ha, h⟩
    have hd : ∀ a : Fin 1, O.ordL 1 [] a.val a.val = false := by decide
    have h' : O.ordL 1 [] a a = true := h
    rw [hd ⟨a, ha⟩] at h'
    cases h'
theorem flbA : FlB FA := ⟨by decide, by decide, by intro s hs; simp [FA, SA] at hs; rcases hs with rfl; decide, by decide, by intro r hr; cases hr⟩
theorem preA {Pf Sf : Nat → Nat} (h : O.Ord 1 (O.ordL 1 (prs SA)) Pf Sf) : Pf 0 = 0 := by
  apply Nat.eq_of_testBit_eq
  intro a
  rw [h.pre 0 (by omega), Nat.zero_testBit]
  cases e : O.ordL 1 (prs SA) a 0 with
  | true =>
    have ha := (h.inn a 0 e).1
    have hd : ∀ a : Fin 1, O.ordL 1 (prs SA) a.val 0 = false := by decide
    rw [hd ⟨a, ha⟩] at e
    cases e
  | false => rfl
def RA : Rs := ⟨[⟨1, 7, 2, 0⟩], 1, LA⟩
theorem rpA {Pf Sf : Nat → Nat} (h : O.Ord 1 (O.ordL 1 (prs SA)) Pf Sf) : rpR Pf (newR 1 1) LA = RA := by
  have h0 : canC Pf (newR 1 1) 0 = 0 := by
    unfold canC
    rw [if_neg (by decide), if_neg (by decide), if_neg (by decide), show (0 : Int).toNat = 0 from rfl, preA h, if_neg (by simp)]
  show clmR Pf (newR 1 1) 0 7 2 = RA
  unfold clmR
  rw [h0, if_pos rfl]
  rfl
theorem rdyA {Pf : Nat → Nat} : rdyR 1 Pf RA = 0 := by
  unfold rdyR
  rw [if_neg (by decide), show thz RA.S 0 = 0 by decide +kernel, Nat.and_zero]
theorem evA {W : World} {g : Nat} (h : W.heap[g]? = some (.cells #[.int .i64 1, .int .i64 1, .int .i64 (-1), .int .i64 (-1), .int .i64 2, .int .i64 2, .int .i64 0, .int .i64 7] 76 (0, 0))) : EvQ W (.slice (some ⟨g, 0, none⟩) 2 2) LA := by
  refine ⟨_, 2, rfl, ⟨Nat.le_refl _, fun e => by cases e⟩, fun i e he => ?_⟩
  match i, he with
  | 0, he => cases he; exact ⟨g, 0, rfl, by simp [World.cell?, h], by simp [World.cell?, h], by simp [World.cell?, h], by simp [World.cell?, h]⟩
  | 1, he => cases he; exact ⟨g, 0, rfl, by simp [World.cell?, h], by simp [World.cell?, h], by simp [World.cell?, h], by simp [World.cell?, h]⟩
  | i + 2, he => cases he
theorem evA1 {W : World} {g : Nat} (h : W.heap[g]? = some (.cells #[.int .i64 0, .int .i64 2, .int .i64 0, .int .i64 7] 76 (0, 0))) : EvQ W (.slice (some ⟨g, 0, none⟩) 1 1) [⟨0, 2, 0, 7⟩] := by
  refine ⟨_, 1, rfl, ⟨Nat.le_refl _, fun e => by cases e⟩, fun i e he => ?_⟩
  match i, he with
  | 0, he => cases he; exact ⟨g, 0, rfl, by simp [World.cell?, h], by simp [World.cell?, h], by simp [World.cell?, h], by simp [World.cell?, h]⟩
  | i + 1, he => cases he
theorem evN (W : World) : EvQ W (.slice none 0 0) [] := ⟨none, 0, rfl, ⟨Nat.le_refl _, fun _ => rfl⟩, fun i e h => by cases h⟩
theorem flA {W : World} {g : Nat} (h : W.heap[g]? = some (.cells #[.string ⟨#[97, 115, 107]⟩, .string ⟨#[97, 115, 107]⟩, .slice none 0 0] 95 (0, 0))) : flV W (.agg #[.string ⟨#[112, 97, 121]⟩, .slice (some ⟨g, 0, none⟩) 1 1, .slice none 0 0]) FA := by
  refine ⟨_, _, rfl, ⟨some ⟨g, 0, none⟩, 1, rfl, ⟨by decide, fun e => by cases e⟩, fun i r hr => ?_⟩, ⟨none, 0, rfl, ⟨Nat.le_refl _, fun _ => rfl⟩, fun i r hr => by cases hr⟩⟩
  match i, hr with
  | 0, hr =>
    cases hr
    exact ⟨g, 0, .slice none 0 0, rfl, by simp [World.cell?, h], by simp [World.cell?, h], by simp [World.cell?, h], none, 0, rfl, ⟨Nat.le_refl _, fun _ => rfl⟩, fun i z hz => by cases hz⟩
  | i + 1, hr => cases hr
theorem pairA {W : World} {g : Nat} (h : W.heap[g]? = some (.cells #[.int .i64 7, .int .i64 1] 93 (0, 0))) : O.PairsAt W (.slice (some ⟨g, 0, none⟩) 1 1) [(7, 1)] := by
  refine ⟨_, 1, rfl, ⟨Nat.le_refl _, fun e => by cases e⟩, fun i e he => ?_⟩
  match i, he with
  | 0, he => cases he; exact ⟨g, 0, rfl, by simp [World.cell?, h], by simp [World.cell?, h]⟩
  | i + 1, he => cases he
set_option maxRecDepth 100000 in
set_option maxHeartbeats 4000000 in
theorem wakes23 (w : World) (ht : O.Tab w) : Calls Tryz.prog 13 #[] w fun e w' => e = .returned (.bool true) ∧ Below w.heap.size w w' := by
  have hB2 : Hid (Below w.heap.size w ((w.alloc (.cells #[.string ⟨#[97, 115, 107]⟩, .string ⟨#[97, 115, 107]⟩, .slice none 0 0] 95)).alloc (.cells #[.string ⟨#[112, 97, 121]⟩, .slice (some ⟨w.heap.size, 0, none⟩) 1 1, .slice none 0 0] 25))) := ((Below.refl _ w).alloc (Nat.le_refl _) _).alloc (by simp) _
  have hXs : Hid (((w.alloc (.cells #[.string ⟨#[97, 115, 107]⟩, .string ⟨#[97, 115, 107]⟩, .slice none 0 0] 95)).alloc (.cells #[.string ⟨#[112, 97, 121]⟩, .slice (some ⟨w.heap.size, 0, none⟩) 1 1, .slice none 0 0] 25)).heap[w.heap.size]? = some (.cells #[.string ⟨#[97, 115, 107]⟩, .string ⟨#[97, 115, 107]⟩, .slice none 0 0] 95 (0, 0))) := al_fst w _ _
  have hXf : Hid (((w.alloc (.cells #[.string ⟨#[97, 115, 107]⟩, .string ⟨#[97, 115, 107]⟩, .slice none 0 0] 95)).alloc (.cells #[.string ⟨#[112, 97, 121]⟩, .slice (some ⟨w.heap.size, 0, none⟩) 1 1, .slice none 0 0] 25)).heap[w.heap.size + 1]? = some (.cells #[.string ⟨#[112, 97, 121]⟩, .slice (some ⟨w.heap.size, 0, none⟩) 1 1, .slice none 0 0] 25 (0, 0))) := al_snd w _ _
  go_enter Tryz.func13, Tryz.ntmps13
  go_upto_region 2 with fail
  generalize (w.alloc (.cells #[.string ⟨#[97, 115, 107]⟩, .string ⟨#[97, 115, 107]⟩, .slice none 0 0] 95)).alloc (.cells #[.string ⟨#[112, 97, 121]⟩, .slice (some ⟨w.heap.size, 0, none⟩) 1 1, .slice none 0 0] 25) = W2 at *
  have hfl : Hid (∀ V, Below W2.heap.size W2 V → flV V (.agg #[.string ⟨#[112, 97, 121]⟩, .slice (some ⟨w.heap.size, 0, none⟩) 1 1, .slice none 0 0]) FA) := fun V hV => flA ((hV.block _ (Array.getElem?_eq_some_iff.1 hXs.out).1).trans hXs.out)
  have hbx : Hid (∀ V, Below W2.heap.size W2 V → V.cell? ⟨w.heap.size + 1, 0, none⟩ = some (.string ⟨#[112, 97, 121]⟩) ∧ V.cell? ⟨w.heap.size + 1, 1, none⟩ = some (.slice (some ⟨w.heap.size, 0, none⟩) 1 1) ∧ V.cell? ⟨w.heap.size + 1, 2, none⟩ = some (.slice none 0 0)) := fun V hV => bx3A ((hV.block _ (Array.getElem?_eq_some_iff.1 hXf.out).1).trans hXf.out)
  have hBE : Hid (Below W2.heap.size W2 (W2.alloc (.cells #[.int .i64 1, .int .i64 1, .int .i64 (-1), .int .i64 (-1), .int .i64 2, .int .i64 2, .int .i64 0, .int .i64 7] 76))) := (Below.refl _ W2).alloc (Nat.le_refl _) _
  have hEv : Hid (EvQ (W2.alloc (.cells #[.int .i64 1, .int .i64 1, .int .i64 (-1), .int .i64 (-1), .int .i64 2, .int .i64 2, .int .i64 0, .int .i64 7] 76)) (.slice (some ⟨W2.heap.size, 0, none⟩) 2 2) LA) := evA (heap_alloc_new W2 _)
  have hT : Hid (∀ V, Below W2.heap.size W2 V → O.Tab V) := fun V hV => ht.over (hB2.out.trans (hV.mono hB2.out.size))
  have K1 := hide' (replayF FA LA _ _ _ (hfl.out _ hBE.out) flbA hEv.out (by decide) (hT.out _ hBE.out))
  obtain ⟨x0, x1, x2⟩ := hbx.out W2 (Below.refl _ W2)
  clear hXs hXf hEv
  go_wp2_with fail
  refine K1.out.mono ?_
  rintro e w3 ⟨pa, z, rfl, hb3, h3⟩
  have B3 := hide' (hBE.out.trans (hb3.mono hBE.out.size))
  clear K1 hb3 hBE x0 x1 x2
  rcases h3 with ⟨h0, _⟩ | ⟨_, V0, gr, gt, sv, rv, go, gp, gs, ct, Pf, Sf, P1, P2, lv, _, _, hX, h3⟩
  · exact absurd (chkF_ok okA) h0
  have hO : O.Ord 1 (O.ordL 1 (prs SA)) Pf Sf := hX.wrd
  have hR : rpR Pf (newR FA.steps.length (ftk LA)) LA = RA := rpA hO
  rw [hR] at hX h3
  rcases h3 with ⟨_, rfl, rfl⟩ | ⟨h4, _⟩
  rotate_left
  · exact absurd rfl h4
  have hX3 := hide' hX
  have K2 := hide' (replayF FA [] _ _ w3 (hfl.out _ B3.out) flbA (evN w3) (by decide) (hT.out _ B3.out))
  obtain ⟨x0, x1, x2⟩ := hbx.out w3 B3.out
  clear hX hO hR hfl hbx
  go_wp2_with fail
  refine K2.out.mono ?_
  rintro e w4 ⟨pa, z, rfl, hb4, h3⟩
  have hX4 := hide' (hX3.out.over hb4)
  have B4 := hide' (B3.out.trans (hb4.mono B3.out.size))
  have hz : pa = none ∧ z = 3 := by
    rcases h3 with ⟨h0, _⟩ | ⟨_, V0, gr, gt, sv, rv, go, gp, gs, ct, Pf, Sf, P1, P2, lv, _, _, hX, h3⟩
    · exact absurd (chkF_ok okA) h0
    · rcases h3 with ⟨h4, _, _⟩ | ⟨_, h5, h6⟩
      · exact absurd h4 (rpR_ne Pf _ _ [])
      · exact ⟨h5, h6⟩
  obtain ⟨rfl, rfl⟩ := hz
  have K3 := hide' (hX4.out.readyC (hT.out _ B4.out))
  rw [show rdyR RA.S.length Pf RA = 0 from rdyA] at K3
  clear h3 hb4 K2 hX3 B3 x0 x1 x2 hX4
  go_wp2_with fail
  refine K3.out.mono ?_
  rintro e w5 ⟨rfl, hb5⟩
  have B5 := hide' (B4.out.trans (hb5.mono B4.out.size))
  clear hb5 B4 K3
  have hE6 : Hid (Below w5.heap.size w5 (w5.alloc (.cells #[.int .i64 0, .int .i64 2, .int .i64 0, .int .i64 7] 76))) := (Below.refl _ w5).alloc (Nat.le_refl _) _
  have K4 := hide' (loadsF [⟨0, 2, 0, 7⟩] _ _ (evA1 (heap_alloc_new w5 (.cells #[.int .i64 0, .int .i64 2, .int .i64 0, .int .i64 7] 76))) (fun e he => by simp at he; rw [he]; exact wf_small 7 (by omega)) (by decide))
  rw [show ldL [⟨0, 2, 0, 7⟩] = [(7, 1)] from rfl] at K4
  go_wp2_with fail
  refine K4.out.mono ?_
  rintro e w6 ⟨v6, rfl, ho6, hb6⟩
  have hP6 : O.PairsAt w6 v6 [(7, 1)] := O.PairsAt.of_owns ho6
  obtain ⟨o6, c6, rfl⟩ := own_shp ho6
  have hb7 := (Below.refl _ w6).alloc (Nat.le_refl _) (.cells #[.int .i64 7, .int .i64 1] 93)
  have K5 := hide' (keepPairsA [(7, 1)] _ _ _ (hP6.over hb7) (pairA (heap_alloc_new w6 (.cells #[.int .i64 7, .int .i64 1] 93))) (by decide))
  have B6 := hide' (B5.out.trans ((hE6.out.trans (hb6.mono hE6.out.size)).mono B5.out.size))
  have B7 := hide' (B6.out.trans (hb7.mono B6.out.size))
  clear K4 hE6 B5 ho6 hb6 hP6 hb7 B6
  go_wp2_with fail
  refine K5.out.mono ?_
  rintro e w8 ⟨rfl, hb8⟩
  have B8 := hide' (hB2.out.trans ((B7.out.trans (hb8.mono B7.out.size)).mono hB2.out.size))
  clear K5 hb8 B7 hB2 hT
  go_wp2
  go_ret
  exact ⟨rfl, B8.out⟩
end Go.Proofs.YtahfobbiaimoiaaGreatDoor

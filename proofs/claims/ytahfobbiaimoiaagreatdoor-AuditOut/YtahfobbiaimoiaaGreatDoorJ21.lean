/- checkRules. -/
import Derived.Test.YtahfobbiaimoiaaGreatDoorJ14
import Derived.Test.YtahfobbiaimoiaaGreatDoorJ20
namespace Go.Proofs.YtahfobbiaimoiaaGreatDoor
open Go.RowKit
theorem legF (b : ByteArray) (w : World) (hm : b.size ≤ 9223372036854775807) : Calls Tryz.prog 136 #[.string b] w fun e w' => e = .returned (.bool (lg b)) ∧ Below w.heap.size w w' := by
  have h := L.legalF b.data.toList w (by rw [Array.length_toList]; exact hm)
  rwa [← L.bs_of] at h
/-- ErrName and so on, as an int. -/
def flErr (w : World) (z : Int) (e : Ending) (w' : World) : Prop := e = .returned (.int .i64 z) ∧ Below w.heap.size w w'
set_option maxRecDepth 100000 in
set_option maxHeartbeats 4000000 in
theorem checkStepF (L : List Sp) (sv : Value) (nm : ByteArray) (orr : Option Addr) (lr cr : Nat) (w : World) (hr : RowS w sv L) (hl : L.length ≤ 12) (c : Nat) (s : Sp) (hx : L[c]? = some s)
    (hs1 : s.name.size ≤ 9223372036854775807) (hs2 : s.duty.size ≤ 9223372036854775807) (hs3 : s.after.length ≤ 30) :
    Calls Tryz.prog 167 #[.agg #[.string nm, sv, .slice orr lr cr], .int .i64 c] w (flErr w (stE L c s)) := by
  have hlt := (List.getElem?_eq_some_iff.1 hx).1
  have hr0 := hide' hr
  obtain ⟨oa, cap, rfl, hcap, hc⟩ := hr
  obtain ⟨g, o, av, rfl, c1, c2, c3, hs⟩ := hc c s hx
  have hsv := hide' hs
  obtain ⟨os, cs, rfl, _, _⟩ := hs
  have K1 : Hid (∀ W, Calls Tryz.prog 136 #[.string s.name] W fun e w' => e = .returned (.bool (lg s.name)) ∧ Below W.heap.size W w') := fun W => legF _ W hs1
  have K2 : Hid (∀ W, Calls Tryz.prog 136 #[.string s.duty] W fun e w' => e = .returned (.bool (lg s.duty)) ∧ Below W.heap.size W w') := fun W => legF _ W hs2
  have K3 : Hid (∀ W, Below w.heap.size w W → Calls Tryz.prog 181 #[.agg #[.string nm, .slice (some ⟨g, o, none⟩) L.length cap, .slice orr lr cr], .string s.name] W fun e w' => e = .returned (.int .i64 (fnd L s.name 0)) ∧ Below W.heap.size W w') := fun W hW => findF L _ nm s.name orr lr cr W (hr0.out.below hW (Nat.le_refl _)) (by omega)
  have K4 : Hid (∀ W, Below w.heap.size w W → Calls Tryz.prog 182 #[.slice os s.after.length cs, .int .i64 (L.length : Nat)] W fun e w' => e = .returned (.bool (ris (L.length : Nat) 0 s.after)) ∧ w' = W) := fun W hW => risingF _ _ _ W (hsv.out.below hW (Nat.le_refl _)) (by omega) (by omega) (by omega)
  have hz : Hid (stE L c s = if (lg s.name && lg s.duty) = false then 4 else if fnd L s.name 0 < (c : Int) then 5 else if ris (L.length : Int) 0 s.after = false then 1 else 0) := rfl
  generalize stE L c s = z at *
  generalize ris (L.length : Int) 0 s.after = b3 at *
  generalize fnd L s.name 0 = b2 at *
  generalize lg s.name = b0 at *
  generalize lg s.duty = b1 at *
  clear hr0 hc hcap hx hsv hs1 hs2
  generalize s.name = sn at *
  generalize s.duty = sd at *
  generalize s.after.length = q at *
  have a0 : Hid (∀ W W', Below w.heap.size w W → Below W.heap.size W W' → Below w.heap.size w W') := fun W W' h1 h2 => h1.trans (h2.mono h1.size)
  have c1' := cell_new c1 (o := .cells #[.string nm, .slice (some ⟨g, o, none⟩) L.length cap, .slice orr lr cr] 25)
  have c2' := cell_new c2 (o := .cells #[.string nm, .slice (some ⟨g, o, none⟩) L.length cap, .slice orr lr cr] 25)
  have c3' := cell_new c3 (o := .cells #[.string nm, .slice (some ⟨g, o, none⟩) L.length cap, .slice orr lr cr] 25)
  have B0 : Hid (Below w.heap.size w ((w.alloc (.cells #[.string nm, .slice (some ⟨g, o, none⟩) L.length cap, .slice orr lr cr] 25)).alloc (.cells #[.string sn, .string sd, .slice os q cs] 95))) := ((Below.refl _ w).alloc (Nat.le_refl _) _).alloc (by simp) _
  have d1 := al_fst w (.cells #[.string nm, .slice (some ⟨g, o, none⟩) L.length cap, .slice orr lr cr] 25) (.cells #[.string sn, .string sd, .slice os q cs] 95)
  have d2 := al_snd w (.cells #[.string nm, .slice (some ⟨g, o, none⟩) L.length cap, .slice orr lr cr] 25) (.cells #[.string sn, .string sd, .slice os q cs] 95)
  have D1 := hide' d1
  have D2 := hide' d2
  clear d1 d2
  go_enter Tryz.func167, Tryz.ntmps167
  go_wp2_with fail
  generalize (w.alloc (.cells #[.string nm, .slice (some ⟨g, o, none⟩) L.length cap, .slice orr lr cr] 25)).alloc (.cells #[.string sn, .string sd, .slice os q cs] 95) = W1 at *
  have hK : Hid (∀ W, Below W1.heap.size W1 W → Below w.heap.size w W ∧ (W.cell? ⟨w.heap.size, 0, none⟩ = some (.string nm) ∧ W.cell? ⟨w.heap.size, 1, none⟩ = some (.slice (some ⟨g, o, none⟩) L.length cap) ∧ W.cell? ⟨w.heap.size, 2, none⟩ = some (.slice orr lr cr)) ∧ W.cell? ⟨w.heap.size + 1, 0, none⟩ = some (.string sn) ∧ W.cell? ⟨w.heap.size + 1, 1, none⟩ = some (.string sd) ∧ W.cell? ⟨w.heap.size + 1, 2, none⟩ = some (.slice os q cs)) := fun W hW => by
    have e1 := (hW.block _ (Array.getElem?_eq_some_iff.1 D1.out).1).trans D1.out
    have e2 := (hW.block _ (Array.getElem?_eq_some_iff.1 D2.out).1).trans D2.out
    exact ⟨B0.out.trans (hW.mono B0.out.size), ⟨by simp [World.cell?, e1], by simp [World.cell?, e1], by simp [World.cell?, e1]⟩, by simp [World.cell?, e2], by simp [World.cell?, e2], by simp [World.cell?, e2]⟩
  clear c1 c2 c3 c1' c2' c3'
  refine (K1.out _).mono ?_
  rintro e w2 ⟨rfl, hb2⟩
  cases b0 with
  | false =>
    have hB := hide' (hK.out w2 hb2).1
    clear hK K1 K2 K3 K4 D1 D2
    go_wp2
    go_ret
    exact ⟨by rw [hz.out]; rfl, hB.out⟩
  | true =>
  obtain ⟨-, -, s0, s1, -⟩ := hK.out w2 hb2
  clear K1
  go_wp2_with fail
  refine (K2.out _).mono ?_
  rintro e w3 ⟨rfl, hb3⟩
  have b3' := hide' (hb2.trans (hb3.mono hb2.size))
  obtain ⟨hB3, ⟨k0, k1, k2⟩, t0, t1, t2⟩ := hK.out w3 b3'.out
  have hB := hide' hB3
  clear hB3 hb2 hb3 s0 s1 K2
  cases b1 with
  | false =>
    clear hK K3 K4 D1 D2
    go_wp2
    go_ret
    exact ⟨by rw [hz.out]; rfl, hB.out⟩
  | true =>
  go_wp2_with fail
  refine (K3.out _ hB.out).mono ?_
  rintro e w4 ⟨rfl, hb4⟩
  have b4' := hide' (b3'.out.trans (hb4.mono b3'.out.size))
  clear k0 k1 k2 t0 t1 t2 hB b3' hb4 K3
  obtain ⟨hB4, ⟨-, k1, -⟩, -, -, t2⟩ := hK.out w4 b4'.out
  have hB := hide' hB4
  clear hB4
  by_cases h5 : b2 < (c : Int)
  · have h5' : decide (b2 < (c : Int)) = true := decide_eq_true h5
    clear hK K4 D1 D2
    go_wp2
    go_ret
    exact ⟨by rw [hz.out]; simp [h5], hB.out⟩
  · have h5' : decide (b2 < (c : Int)) = false := decide_eq_false h5
    have hz2 : Hid (z = if b3 = false then 1 else 0) := by show _ = _; rw [hz.out]; simp [h5]
    clear hz h5
    go_wp2_with fail
    refine (K4.out _ hB.out).mono ?_
    rintro e w5 ⟨rfl, rfl⟩
    clear hK K4 D1 D2
    cases b3 with
    | false =>
      go_wp2
      go_ret
      exact ⟨by rw [hz2.out]; rfl, hB.out⟩
    | true =>
      go_wp2
      go_ret
      exact ⟨by rw [hz2.out]; rfl, hB.out⟩
end Go.Proofs.YtahfobbiaimoiaaGreatDoor
namespace Go.Proofs.YtahfobbiaimoiaaGreatDoor
open Go.RowKit
def stpE (L : List Sp) : Int := if 12 < L.length then 2 else if L.length = 0 then 1 else fstE L L.length
set_option maxRecDepth 100000 in
set_option maxHeartbeats 4000000 in
theorem checkStepsF (L : List Sp) (sv : Value) (nm : ByteArray) (orr : Option Addr) (lr cr : Nat) (w : World) (hr : RowS w sv L) (hl : L.length ≤ 1000) (hb : ∀ s ∈ L, s.after.length ≤ 30 ∧ s.name.size ≤ 9223372036854775807 ∧ s.duty.size ≤ 9223372036854775807) :
    Calls Tryz.prog 137 #[.agg #[.string nm, sv, .slice orr lr cr]] w (flErr w (stpE L)) := by
  have hr0 := hide' hr
  obtain ⟨oa, cap, rfl, hcap, hc⟩ := hr
  have hz : Hid (stpE L = if 12 < L.length then 2 else if L.length = 0 then 1 else fstE L L.length) := rfl
  generalize stpE L = z at *
  have d1 := heap_alloc_new w (.cells #[.string nm, .slice oa L.length cap, .slice orr lr cr] 25)
  have B0 : Hid (Below w.heap.size w (w.alloc (.cells #[.string nm, .slice oa L.length cap, .slice orr lr cr] 25))) := (Below.refl _ w).alloc (Nat.le_refl _) _
  have D1 := hide' d1
  clear d1 hc hcap
  by_cases h12 : 12 < L.length
  · have hz2 : Hid (z = 2) := by show _ = _; rw [hz.out, if_pos h12]
    clear hz hr0 hb D1
    go_enter Tryz.func137, Tryz.ntmps137
    go_wp2
    go_ret
    exact ⟨by rw [hz2.out]; rfl, B0.out⟩
  · by_cases h0 : L.length = 0
    · have hz2 : Hid (z = 1) := by show _ = _; rw [hz.out, if_neg h12, if_pos h0]
      clear hz hr0 hb D1 B0
      go_enter Tryz.func137, Tryz.ntmps137
      go_wp2
      go_ret
      exact ⟨by rw [hz2.out]; rfl, (Below.refl _ w).alloc (Nat.le_refl _) _⟩
    · have hz2 : Hid (z = fstE L L.length) := by show _ = _; rw [hz.out, if_neg h12, if_neg h0]
      have KC : Hid (∀ (c : Nat) (s : Sp) W, L[c]? = some s → Below w.heap.size w W → Calls Tryz.prog 167 #[.agg #[.string nm, .slice oa L.length cap, .slice orr lr cr], .int .i64 c] W (flErr W (stE L c s))) := fun c s W hx hW => checkStepF L _ nm orr lr cr W (hr0.out.below hW (Nat.le_refl _)) (by omega) c s hx (hb s (List.mem_of_getElem? hx)).2.1 (hb s (List.mem_of_getElem? hx)).2.2 (hb s (List.mem_of_getElem? hx)).1
      clear hz hr0 hb
      have h0' : ((L.length : Int) == 0) = false := by rw [beq_eq_false_iff_ne]; omega
      go_enter Tryz.func137, Tryz.ntmps137
      go_wp2
      generalize w.alloc (.cells #[.string nm, .slice oa L.length cap, .slice orr lr cr] 25) = W1 at *
      have hK : Hid (∀ W, Below W1.heap.size W1 W → Below w.heap.size w W ∧ W.cell? ⟨w.heap.size, 0, none⟩ = some (.string nm) ∧ W.cell? ⟨w.heap.size, 1, none⟩ = some (.slice oa L.length cap) ∧ W.cell? ⟨w.heap.size, 2, none⟩ = some (.slice orr lr cr)) := fun W hW => by
        have e1 := (hW.block _ (Array.getElem?_eq_some_iff.1 D1.out).1).trans D1.out
        exact ⟨B0.out.trans (hW.mono B0.out.size), by simp [World.cell?, e1], by simp [World.cell?, e1], by simp [World.cell?, e1]⟩
      clear D1
      go_loopw [16] (fun k wr => ∃ (c : Nat), c ≤ L.length ∧ k = .int .i64 c ∧ Hid (fstE L c = 0) ∧ Hid (Below W1.heap.size W1 wr)) (fun k _ => ((L.length : Int) - intOf k).toNat)
      case atStart => exact ⟨0, Nat.zero_le _, rfl, rfl, Below.refl _ _⟩
      case round =>
        obtain ⟨c, hcl, rfl, hA, hB⟩ := hrel
        by_cases hlt : c < L.length
        · obtain ⟨s, hx⟩ : ∃ x, L[c]? = some x := ⟨_, List.getElem?_eq_getElem hlt⟩
          obtain ⟨hBw, k0, k1, k2⟩ := hK.out wr hB.out
          have hC := hide' (KC.out c s wr hx hBw)
          have hN := hide' (fstE_at hA.out hx)
          have hF : Hid (stE L c s ≠ 0 → z = stE L c s) := fun h => by
            rw [hz2.out, fstE_stop (k := c + 1) (by rw [hN.out]; exact h) L.length (by omega), hN.out]
          generalize stE L c s = y at *
          clear KC hx hA hz2 hBw
          by_cases hy : y = 0
          · subst hy
            clear hF
            go_wp2_with fail
            refine hC.out.mono ?_
            rintro e w2 ⟨rfl, hb1⟩
            have hB2 := hide' (hB.out.trans (hb1.mono hB.out.size))
            clear hC hB hb1 k0 k1 k2
            go_wp2
            exact ⟨⟨c + 1, by omega, by go_num, hN, hB2.out⟩, by simp [intOf]; omega⟩
          · have hF' := hide' (hF.out hy)
            have hy' : (y == 0) = false := by rw [beq_eq_false_iff_ne]; exact hy
            clear hF
            go_wp2_with fail
            refine hC.out.mono ?_
            rintro e w2 ⟨rfl, hb1⟩
            have hB2 := hide' (hK.out _ (hB.out.trans (hb1.mono hB.out.size))).1
            clear hC hB hb1 k0 k1 k2 hK
            go_wp2
            go_ret
            exact ⟨by rw [hF'.out]; rfl, hB2.out⟩
        · obtain rfl : c = L.length := by omega
          have hz3 : Hid (z = 0) := by show _ = _; rw [hz2.out, hA.out]
          have hB2 := hide' (hK.out _ hB.out).1
          clear KC hA hz2 hK
          go_wp2
          go_ret
          exact ⟨by rw [hz3.out]; rfl, hB2.out⟩
end Go.Proofs.YtahfobbiaimoiaaGreatDoor
namespace Go.Proofs.YtahfobbiaimoiaaGreatDoor
open Go.RowKit
def rulE (n : Int) (R : List Rl) : Int := if 32 < R.length then 2 else if R.all (chk n) = false then 1 else 0
set_option maxRecDepth 100000 in
set_option maxHeartbeats 4000000 in
theorem checkRulesF (R : List Rl) (rvv : Value) (nm : ByteArray) (oss : Option Addr) (n cs0 : Nat) (w : World) (hr : RowR w rvv R) (hR : R.length ≤ 1000) (hm : ∀ r ∈ R, r.steps.length ≤ 30) :
    Calls Tryz.prog 138 #[.agg #[.string nm, .slice oss n cs0, rvv]] w (flErr w (rulE n R)) := by
  have KC : Hid (∀ r sv W, r ∈ R → RowI w sv r.steps → Below w.heap.size w W → Calls Tryz.prog 128 #[.int .i64 (n : Nat), rv r sv] W fun e w' => e = .returned (.int .i64 (erC (chk (n : Int) r))) ∧ Below W.heap.size W w') := fun r sv W hr hs hW => checkF _ r sv W (hs.below hW (Nat.le_refl _)) (by have := hm r hr; omega)
  obtain ⟨oa, cap, rfl, hcap, hc⟩ := hr
  have hc' := hide' hc
  clear hc hcap hm
  have hz : Hid (rulE n R = if 32 < R.length then 2 else if R.all (chk n) = false then 1 else 0) := rfl
  generalize rulE n R = z at *
  have d1 := heap_alloc_new w (.cells #[.string nm, .slice oss n cs0, .slice oa R.length cap] 25)
  have B0 : Hid (Below w.heap.size w (w.alloc (.cells #[.string nm, .slice oss n cs0, .slice oa R.length cap] 25))) := (Below.refl _ w).alloc (Nat.le_refl _) _
  have D1 := hide' d1
  clear d1
  by_cases h32 : 32 < R.length
  · have hz2 : Hid (z = 2) := by show _ = _; rw [hz.out, if_pos h32]
    clear hz KC hc' D1
    go_enter Tryz.func138, Tryz.ntmps138
    go_wp2
    go_ret
    exact ⟨by rw [hz2.out]; rfl, B0.out⟩
  · have hz2 : Hid (z = if R.all (chk n) = false then 1 else 0) := by show _ = _; rw [hz.out, if_neg h32]
    clear hz
    go_enter Tryz.func138, Tryz.ntmps138
    go_wp2
    generalize w.alloc (.cells #[.string nm, .slice oss n cs0, .slice oa R.length cap] 25) = W1 at *
    have hK : Hid (∀ W, Below W1.heap.size W1 W → Below w.heap.size w W ∧ W.cell? ⟨w.heap.size, 1, none⟩ = some (.slice oss n cs0)) := fun W hW => by
      have e1 := (hW.block _ (Array.getElem?_eq_some_iff.1 D1.out).1).trans D1.out
      exact ⟨B0.out.trans (hW.mono B0.out.size), by simp [World.cell?, e1]⟩
    clear D1
    go_loopw [12] (fun k wr => ∃ (c : Nat), c ≤ R.length ∧ k = .int .i64 c ∧ Hid ((R.take c).all (chk n) = true) ∧ Hid (Below W1.heap.size W1 wr)) (fun k _ => ((R.length : Int) - intOf k).toNat)
    case atStart => exact ⟨0, Nat.zero_le _, rfl, by show _ = _; simp, Below.refl _ _⟩
    case round =>
      obtain ⟨c, hcl, rfl, hA, hB⟩ := hrel
      by_cases hlt : c < R.length
      · obtain ⟨r, hx⟩ : ∃ x, R[c]? = some x := ⟨_, List.getElem?_eq_getElem hlt⟩
        obtain ⟨g, o, sv, rfl, c1', c2', c3', hs⟩ := hc'.out c r hx
        have hBw := (hK.out wr hB.out).1
        have c1 := (hBw.cell (p := ⟨g, o + c * 3, none⟩) (cell_lt c1')).trans c1'
        have c2 := (hBw.cell (p := ⟨g, o + c * 3 + 1, none⟩) (cell_lt c2')).trans c2'
        have c3 := (hBw.cell (p := ⟨g, o + c * 3 + 2, none⟩) (cell_lt c3')).trans c3'
        have hH : Hid (∀ W, Below w.heap.size w W → Calls Tryz.prog 128 #[.int .i64 (n : Nat), rv r sv] W fun e w' => e = .returned (.int .i64 (erC (chk (n : Int) r))) ∧ Below W.heap.size W w') := fun W hW => KC.out r sv W (List.mem_of_getElem? hx) hs hW
        have hN : Hid ((R.take (c + 1)).all (chk n) = chk n r) := by
          show _ = _
          rw [List.take_add_one, hx, show (some r).toList = [r] from rfl, List.all_append, hA.out]; simp
        have hF : Hid (chk n r = false → z = 1) := fun h => by
          rw [hz2.out, if_pos]
          rw [List.all_eq_false]
          exact ⟨r, List.mem_of_getElem? hx, by rw [h]; decide⟩
        obtain ⟨os, cs, rfl, _, _⟩ := hs
        unfold rv at hH
        clear KC hc' c1' c2' c3' hx hA hz2 hBw
        generalize r.steps.length = q at *
        generalize r.kind = kd at *
        generalize r.k = kk at *
        have a1 : Hid (Below W1.heap.size W1 (wr.alloc (.cells #[.int .i64 kd, .int .i64 kk, .slice os q cs] 82))) := hB.out.alloc hB.out.size _
        have k1 := (hK.out _ a1.out).2
        cases hh : chk (n : Int) r with
        | true =>
          rw [hh] at hH hN
          clear hh hF
          go_wp2_with fail
          refine (hH.out _ (hK.out _ a1.out).1).mono ?_
          rintro e w2 ⟨rfl, hb1⟩
          have hB2 := hide' (a1.out.trans (hb1.mono a1.out.size))
          clear hH hB a1 hb1 k1
          unfold erC
          go_wp2
          exact ⟨⟨c + 1, by omega, by go_num, hN, hB2.out⟩, by simp [intOf]; omega⟩
        | false =>
          rw [hh] at hH
          have hF' := hide' (hF.out hh)
          clear hh hN hF
          go_wp2_with fail
          refine (hH.out _ (hK.out _ a1.out).1).mono ?_
          rintro e w2 ⟨rfl, hb1⟩
          have hB2 := hide' (hK.out _ (a1.out.trans (hb1.mono a1.out.size))).1
          clear hH hB a1 hb1 k1 hK
          unfold erC
          go_wp2
          go_ret
          exact ⟨by rw [hF'.out]; rfl, hB2.out⟩
      · obtain rfl : c = R.length := by omega
        rw [List.take_length] at hA
        have hz3 : Hid (z = 0) := by show _ = _; rw [hz2.out, hA.out]; rfl
        have hB2 := hide' (hK.out _ hB.out).1
        clear hc' KC hA hz2 hK
        go_wp2
        go_ret
        exact ⟨by rw [hz3.out]; rfl, hB2.out⟩
end Go.Proofs.YtahfobbiaimoiaaGreatDoor

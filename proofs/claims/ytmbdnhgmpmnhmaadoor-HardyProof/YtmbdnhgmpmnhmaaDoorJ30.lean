/- HardyProof, walked. -/
import Derived.Test.YtmbdnhgmpmnhmaaDoorJ29
import Derived.Deep.CutBlock
import Derived.Deep.CutRange
namespace Go.Proofs.YtmbdnhgmpmnhmaaDoor.S
open Go.RowKit Go.Shelf
attribute [local irreducible] wpQuiet
set_option maxRecDepth 100000 in
set_option maxHeartbeats 4000000 in
theorem hardyProof_walk (P : Pb) (wv fv rv lv : Value) (S : List Nat) (w : World) (h : PbV w P wv fv rv) (hS : RowW w lv S) (hSb : ∀ z ∈ S, z < 18446744073709551616) (hb : ∀ z ∈ P.who, z < 18446744073709551616) (ht : M.Tab w) :
    Calls Tryd.prog 3 #[pbV P wv fv rv, lv] w fun e w' => e = .returned (.bool true) ∧ Below w.heap.size w w' := by
  obtain ⟨os, cs, rfl, _, hcS⟩ := hS
  have hSc : Hid (∀ (i z : Nat), S[i]? = some z → z < 18446744073709551616 ∧ ∃ g o, os = some ⟨g, o, none⟩ ∧ w.cell? ⟨g, o + i, none⟩ = some (.int .u64 (z : Int))) := fun i z e => ⟨hSb z (List.mem_of_getElem? e), hcS i z e⟩
  clear hcS hSb
  have hB0 : Hid (Below w.heap.size w (w.alloc (.cells #[.int .i64 P.users, wv, fv, rv] 26))) := (Below.refl _ w).alloc (Nat.le_refl _) _
  have K0 := hide' (cutC P wv fv rv _ (h.below hB0.out))
  have hk := hide' (cutP_ok hb)
  have ht' := hide' ht
  have hGw := ht.2
  have hQb : Hid (∀ V (a b c : Value), PbV V (cutP P) a b c → Calls Tryd.prog 5 #[pbV (cutP P) a b c] V fun e w' => ∃ va vb vc, e = .returned (pbV (cutP P) va vb vc) ∧ Hid (PbV w' (cutP P) va vb vc) ∧ Hid (Below V.heap.size V w') ∧ Hid (∀ ad n c, va = .slice (some ad) n c → V.heap.size ≤ ad.block ∧ ad.block < w'.heap.size)) := fun V a b c hq => cutD P a b c V hq
  clear h ht hb
  unfold pbV at K0 hQb ⊢
  generalize cutP P = Q at *
  go_enter Tryd.func3, Tryd.ntmps3
  go_wp2_with fail
  refine K0.out.mono ?_
  rintro e w1 ⟨qw, qf, qr, rfl, hq1, hb1, ho1⟩
  have hB1 : Hid (Below w.heap.size w w1) := hB0.out.trans (hb1.out.mono hB0.out.size)
  obtain ⟨ow, cw, of, cf, or, cr, rfl, rfl, rfl⟩ := hq1.out.shape
  have hbA : Hid (Below w1.heap.size w1 (w1.alloc (.cells #[.int .i64 Q.users, .slice ow Q.who.length cw, .slice of Q.fixed.length cf, .slice or Q.rules.length cr] 26))) := (Below.refl _ w1).alloc (Nat.le_refl _) _
  have hpA : Hid (PbB (w1.alloc (.cells #[.int .i64 Q.users, .slice ow Q.who.length cw, .slice of Q.fixed.length cf, .slice or Q.rules.length cr] 26)) w1.heap.size Q (.slice ow Q.who.length cw) (.slice of Q.fixed.length cf) (.slice or Q.rules.length cr)) := heap_new w1 _
  have hqA := hide' (hq1.out.below hbA.out)
  have hBA := hide' (hB1.out.trans (hbA.out.mono hB1.out.size))
  have hoA : Hid (∀ ad n c, Value.slice ow Q.who.length cw = .slice (some ad) n c → ad.block < w1.heap.size) := fun ad n c e => (ho1.out ad n c e).2
  have hzA : Hid (w1.heap.size < (w1.alloc (.cells #[.int .i64 Q.users, .slice ow Q.who.length cw, .slice of Q.fixed.length cf, .slice or Q.rules.length cr] 26)).heap.size) := (Array.getElem?_eq_some_iff.1 hpA.out).1
  clear hb1 hB0 K0 hq1 ho1 hbA
  go_wp2_with fail
  generalize w1.alloc (.cells #[.int .i64 Q.users, .slice ow Q.who.length cw, .slice of Q.fixed.length cf, .slice or Q.rules.length cr] 26) = w3 at *
  refine (newF _).mono ?_
  rintro e w4 ⟨rfl, hg4, hb4⟩
  have hD4 : Hid (Hd w Q (.slice ow Q.who.length cw) (.slice of Q.fixed.length cf) (.slice or Q.rules.length cr) w1.heap.size w3.heap.size 0 0 0 w4) := ⟨⟨hpA.out.below hb4.out, hqA.out.below hb4.out, hg4.out, ht'.out.over (hBA.out.trans (hb4.out.mono hBA.out.size)), hBA.out.trans (hb4.out.mono hBA.out.size)⟩, hBA.out.size, (fun ad n c e => by have := hoA.out ad n c e; have := hzA.out; omega), (by have := hzA.out; omega), Nat.le_trans hGw hBA.out.size⟩
  clear hpA hqA hg4 hb4 hB1 hBA hzA hoA ht'
  generalize w3.heap.size = gs at *
  generalize w1.heap.size = g at *
  clear w3 w1
  have K1 : Hid (∀ V a b c, Hd w Q (.slice ow Q.who.length cw) (.slice of Q.fixed.length cf) (.slice or Q.rules.length cr) g gs a b c V → Calls Tryd.prog 5 #[.agg #[.int .i64 Q.users, .slice ow Q.who.length cw, .slice of Q.fixed.length cf, .slice or Q.rules.length cr]] V fun e w' => ∃ va vb vc, e = .returned (.agg #[.int .i64 Q.users, va, vb, vc]) ∧ Hid (PbV w' Q va vb vc) ∧ Hid (Below V.heap.size V w') ∧ Hid (∀ ad n c, va = .slice (some ad) n c → V.heap.size ≤ ad.block ∧ ad.block < w'.heap.size)) := fun V a b c hV => hQb.out V _ _ _ hV.s.pv
  have K3 : Hid (∀ V a b c X x1 x2 x3, Hd w Q (.slice ow Q.who.length cw) (.slice of Q.fixed.length cf) (.slice or Q.rules.length cr) g gs a b c V → PbV V X x1 x2 x3 → Pok X → a ≤ 2305843009213693952 → b ≤ 2305843009213693952 → c ≤ 2305843009213693952 → Calls Tryd.prog 11 #[.pointer (some ⟨gs, 0, none⟩), .agg #[.int .i64 X.users, x1, x2, x3]] V (CaP V X gs a b c)) := fun V a b c X x1 x2 x3 hV hX hok ha hb hc => canF X x1 x2 x3 gs a b c V hX hok hV.s.gg hV.hG hV.s.tab ha hb hc
  unfold CaP at K3
  have KN : Hid (∀ V va vb vc, M.Tab V → PbV V Q va vb vc → Calls Tryd.prog 10 #[.agg #[.int .i64 Q.users, va, vb, vc]] V fun e w' => e = .returned (.int .u64 ((nedP Q : Nat) : Int)) ∧ Below V.heap.size V w') := fun V va vb vc hT hq => neededF Q va vb vc V hq hk.out hT
  have KG : Hid (∀ V va vb vc, M.Tab V → PbV V Q va vb vc → Calls Tryd.prog 9 #[.agg #[.int .i64 Q.users, va, vb, vc]] V fun e w' => e = .returned (.int .i64 (graP Q)) ∧ Below V.heap.size V w') := fun V va vb vc hT hq => gradeF Q va vb vc V hq hk.out hT
  have KW : Hid (∀ V va vb vc (z : Int), M.Tab V → PbV V Q va vb vc → Calls Tryd.prog 12 #[.agg #[.int .i64 Q.users, va, vb, vc], .int .i64 z] V (WeP V (weaP Q z))) := fun V va vb vc z hT hq => weakWF Q va vb vc z V hq hk.out hT
  have KL : Hid (∀ V va vb vc (x : Nat), x < 18446744073709551616 → PbV V Q va vb vc → Calls Tryd.prog 13 #[.agg #[.int .i64 Q.users, va, vb, vc], .int .u64 ((x : Nat) : Int)] V (WtP V (loP Q x) (chkN Q))) := fun V va vb vc x hx hq => loseF Q va vb vc x hx V hq hk.out
  unfold WtP at KL
  unfold WeP at KW
  have KCk : Hid (∀ V va vb vc, PbV V Q va vb vc → Calls Tryd.prog 8 #[.agg #[.int .i64 Q.users, va, vb, vc]] V fun e w' => e = .returned (.int .i64 (chkN Q : Int)) ∧ Below V.heap.size V w') := fun V va vb vc hq => checkPF Q va vb vc V hq hk.out.w hk.out.f hk.out.r hk.out.s hk.out.b
  have K7 := hide' (wakesHF w4 hD4.out.s.tab)
  clear hQb
  go_wp2_with fail
  refine K7.out.mono ?_
  rintro e w5 ⟨rfl, hb5⟩
  have hD5 := hide' (hD4.out.over hb5)
  clear hb5 hD4 K7
  obtain ⟨q0, q1, q2, q3⟩ := hD5.out.cells
  go_wp2_with fail
  refine (K1.out _ _ _ _ hD5.out).mono ?_
  rintro e w6 ⟨va, vb, vc, rfl, hq6, hb6, _⟩
  have hD6 := hide' (hD5.out.over hb6.out)
  have KC6 := hide' (KCk.out w6 va vb vc hq6.out)
  clear q0 q1 q2 q3 hD5 hb6 KCk
  by_cases hC : chkN Q = 0
  · have hG := hide' (hyG_of hk.out hC)
    rw [hC] at KC6
    have KLs : Hid (∀ V va vb vc (x : Nat), x < 18446744073709551616 → PbV V Q va vb vc → Calls Tryd.prog 13 #[.agg #[.int .i64 Q.users, va, vb, vc], .int .u64 ((x : Nat) : Int)] V fun e w' => ∃ o1 n1 c1 o2 n2 c2 o3 n3 c3, e = .returned (.tuple #[.agg #[.int .i64 (lesP Q x).users, .slice o1 n1 c1, .slice o2 n2 c2, .slice o3 n3 c3], .int .i64 0]) ∧ Hid (PbV w' (lesP Q x) (.slice o1 n1 c1) (.slice o2 n2 c2) (.slice o3 n3 c3)) ∧ Hid (Below V.heap.size V w') ∧ Hid (∀ ad n c, Value.slice o1 n1 c1 = .slice (some ad) n c → V.heap.size ≤ ad.block) ∧ Hid (∀ W2 : World, (∀ k, V.heap.size ≤ k → k < w'.heap.size → W2.heap[k]? = w'.heap[k]?) → PbV W2 (lesP Q x) (.slice o1 n1 c1) (.slice o2 n2 c2) (.slice o3 n3 c3))) := fun V va vb vc x hx hq => by
      have := KL.out V va vb vc x hx hq
      unfold loP at this
      rw [if_pos hC, hC] at this
      exact this
    have hokX : Hid (∀ x, Pok (lesP Q x)) := fun x => lesP_ok hk.out x
    obtain ⟨g12, g0, g64, g32, _, _, _⟩ := chkN_zero hC
    have hU0 := hide' g0
    have hU64 := hide' g64
    clear KL KN g12 g0 g64 g32 hC
    generalize graP Q = G at *
    go_wp2_with fail
    refine KC6.out.mono ?_
    rintro e w7 ⟨rfl, hb7⟩
    have hD7 := hide' (hD6.out.over hb7)
    obtain ⟨q0, q1, q2, q3⟩ := hD7.out.cells
    clear KC6 hb7 hD6 hq6
    go_wp2_with fail
    refine (K1.out _ _ _ _ hD7.out).mono ?_
    rintro e w8 ⟨va, vb, vc, rfl, hq8, hb8, _⟩
    have hD8 := hide' (hD7.out.over hb8.out)
    clear q0 q1 q2 q3 hD7 hb8
    go_wp2_with fail
    refine (KG.out w8 _ _ _ hD8.out.s.tab hq8.out).mono ?_
    rintro e w9 ⟨rfl, hb9⟩
    have hD9 := hide' (hD8.out.over hb9)
    obtain ⟨q0, q1, q2, q3⟩ := hD9.out.cells
    clear hD8 hq8 hb9 KG
    go_wp2_with fail
    refine (K1.out _ _ _ _ hD9.out).mono ?_
    rintro e w10 ⟨va, vb, vc, rfl, hq10, hb10, _⟩
    have hD10 := hide' (hD9.out.over hb10.out)
    clear q0 q1 q2 q3 hD9 hb10
    have KC10 := hide' (K3.out _ _ _ _ Q _ _ _ hD10.out hq10.out hk.out (by decide) (by decide) (by decide))
    have hcq : canB Q = !decide (G < 0) := by
      have h1 := hG.out.can
      by_cases q : G < 0
      · rw [h1.1 q, decide_eq_true q]; rfl
      · rw [decide_eq_false q]
        cases e : canB Q with
        | true => rfl
        | false => exact absurd (h1.2 e) q
    rw [hcq] at KC10
    clear hcq hk
    go_wp2_with fail
    refine KC10.out.mono ?_
    rintro e w11 ⟨rfl, a7, b7, c7, hg7, hgc7, hf7⟩
    have hD11 := hide' (hD10.out.fr hf7.out hg7.out)
    have hle7 := hide' (hgc7.out.le (by decide))
    have hl0 : Hid (a7 ≤ 10000000000000 + 2000000000000 * 0 ∧ b7 ≤ 10000000000000 + 2000000000000 * 0 ∧ c7 ≤ 10000000000000 + 2000000000000 * 0) := by have := hle7.out; show _ ∧ _ ∧ _; omega
    clear hD10 hq10 hf7 hg7 hgc7 KC10 hle7
    go_upto_block 0 with fail
    go_cut [4, 8, 9, 10, 11, 12, 13, 14] from 54 to 134 (fun _ _ _ _ _ _ _ _ wx => ∃ a b c : Nat, Hid (Hd w Q (.slice ow Q.who.length cw) (.slice of Q.fixed.length cf) (.slice or Q.rules.length cr) g gs a b c wx) ∧ Hid (a ≤ 20000000000000 ∧ b ≤ 20000000000000 ∧ c ≤ 20000000000000))
    case first =>
      go_wp2
      go_loopw [8, 9, 10, 11, 12, 13, 14] (fun p _ _ _ _ _ _ wr => ∃ k a b c : Nat, k ≤ 4 ∧ p = .int .i64 (k : Int) ∧ Hid (Hd w Q (.slice ow Q.who.length cw) (.slice of Q.fixed.length cf) (.slice or Q.rules.length cr) g gs a b c wr) ∧ Hid (a ≤ 10000000000000 + 2000000000000 * k ∧ b ≤ 10000000000000 + 2000000000000 * k ∧ c ≤ 10000000000000 + 2000000000000 * k)) (fun p _ _ _ _ _ _ _ => ((4 : Int) - intOf p).toNat)
      case atStart => exact ⟨0, _, _, _, Nat.zero_le _, rfl, hD11, hl0⟩
      case round =>
        clear hD11 hl0
        obtain ⟨k, a0, b0, c0, hk4, rfl, hD, hle⟩ := hrel
        by_cases hlt : k < 4
        · have hlt' : (k : Int) ≤ 3 := by omega
          have hk3 : k ≤ 3 := by omega
          have hwk := hide' (hG.out.weak k hk3)
          have hkn : ¬ ((k : Int) ≤ G) ∨ weaP Q (k : Int) = none := by
            cases hr : weaP Q (k : Int) with
            | none => exact .inr rfl
            | some y => exact .inl (by have := (hwk.out y hr).2.2.2.2.2; omega)
          obtain ⟨q0, q1, q2, q3⟩ := hD.out.cells
          have hle' := hle.out
          have hSt : Hid (∀ a b c : Nat, a ≤ 10000000000000 + 2000000000000 * (k + 1) ∧ b ≤ 10000000000000 + 2000000000000 * (k + 1) ∧ c ≤ 10000000000000 + 2000000000000 * (k + 1) → Hid (a ≤ 10000000000000 + 2000000000000 * (k + 1) ∧ b ≤ 10000000000000 + 2000000000000 * (k + 1) ∧ c ≤ 10000000000000 + 2000000000000 * (k + 1))) := fun a b c h => h
          cases hr : weaP Q (k : Int) with
          | none =>
            have KWk : Hid (∀ V va vb vc, M.Tab V → PbV V Q va vb vc → Calls Tryd.prog 12 #[.agg #[.int .i64 Q.users, va, vb, vc], .int .i64 (k : Int)] V fun e w' => ∃ v, e = .returned (.tuple #[v, .bool false]) ∧ Hid (Below V.heap.size V w')) := fun V va vb vc hT hq => by
              have := KW.out V va vb vc (k : Int) hT hq
              rw [hr] at this
              exact this.mono fun e w' h => by obtain ⟨v, h1, _, h3⟩ := h; exact ⟨v, h1, h3⟩
            clear hwk hkn hr KW hSt
            go_wp2_with fail
            refine (K1.out _ _ _ _ hD.out).mono ?_
            rintro e v1 ⟨va, vb, vc, rfl, hq1, hb1, _⟩
            have hD1 := hide' (hD.out.over hb1.out)
            clear q0 q1 q2 q3 hD hb1
            go_wp2_with fail
            refine (KWk.out v1 _ _ _ hD1.out.s.tab hq1.out).mono ?_
            rintro e v2 ⟨v, rfl, hb2⟩
            have hD2 := hide' (hD1.out.over hb2.out)
            clear hb2 hD1 hq1 KWk
            go_wp2
            exact ⟨⟨k + 1, a0, b0, c0, by omega, by go_num, hD2, by show _ ∧ _ ∧ _; omega⟩, by simp [intOf]; omega⟩
          | some y =>
            obtain ⟨y1, y2, y3, y4, y5, y6⟩ := hwk.out y hr
            have KWk : Hid (∀ V va vb vc, M.Tab V → PbV V Q va vb vc → Calls Tryd.prog 12 #[.agg #[.int .i64 Q.users, va, vb, vc], .int .i64 (k : Int)] V fun e w' => ∃ v, e = .returned (.tuple #[v, .bool true]) ∧ Hid (RowI w' v (ints (numN y))) ∧ Hid (Below V.heap.size V w')) := fun V va vb vc hT hq => by
              have := KW.out V va vb vc (k : Int) hT hq
              rw [hr] at this
              refine this.mono fun e w' h => ?_
              obtain ⟨v, h1, h2, h3⟩ := h
              refine ⟨v, h1, ?_, h3⟩
              have h2' := h2.out
              have he : M.intsOf (M.nums y) = cellsI (ints (numN y)) := by
                rw [ints_numsH]; unfold ints numN; rw [List.map_map]; rfl
              rw [show (some y).getD 0 = y from rfl, he] at h2'
              exact RowI.of_owns h2'
            have hLs : Hid (∀ (i x z : Nat), (numN y)[i]? = some x → (numN y)[i + 1]? = some z → x < z) := fun i x z e1 e2 => by
              obtain ⟨p1, rfl⟩ := List.getElem?_eq_some_iff.1 e1
              obtain ⟨p2, rfl⟩ := List.getElem?_eq_some_iff.1 e2
              exact List.pairwise_iff_getElem.1 (numN_asc y) i (i + 1) p1 p2 (Nat.lt_succ_self _)
            have hL4 : Hid (∀ x ∈ numN y, (x : Int) < Q.users ∧ x < 64) := fun x hx => ⟨y4 x hx, (numN_mem.1 hx).1⟩
            have hLn : Hid ((numN y).length = k) := y2
            have hLy : Hid (orL (numN y) = y) := y3
            have hyc : Hid (canB (lesP Q y) = false) := y5
            have hGk : ¬ ((k : Int) ≤ G) := by omega
            clear hwk hkn hr KW y2 y3 y4 y5 y6
            generalize numN y = L at *
            go_wp2_with fail
            refine (K1.out _ _ _ _ hD.out).mono ?_
            rintro e v1 ⟨va, vb, vc, rfl, hq1, hb1, _⟩
            have hD1 := hide' (hD.out.over hb1.out)
            clear q0 q1 q2 q3 hD hb1
            go_wp2_with fail
            refine (KWk.out v1 _ _ _ hD1.out.s.tab hq1.out).mono ?_
            rintro e v2 ⟨v, rfl, hR, hb2⟩
            have hD2 := hide' (hD1.out.over hb2.out)
            clear hb2 hD1 hq1 KWk
            obtain ⟨oo, co, rfl, _, hc⟩ := hR.out
            rw [ints_len]
            have hLc : Hid (∀ (i x : Nat), L[i]? = some x → ∃ g o, oo = some ⟨g, o, none⟩ ∧ v2.cell? ⟨g, o + i, none⟩ = some (.int .i64 (x : Int))) := fun i x e => hc i x (ints_at e)
            clear hc hR
            go_wp2
            go_loopw [11, 12] (fun p q wr => ∃ i : Nat, i ≤ L.length ∧ p = .int .u64 ((orL (L.take i) : Nat) : Int) ∧ q = .int .i64 (i : Int) ∧ Hid (Below v2.heap.size v2 wr)) (fun _ q _ => ((L.length : Int) - intOf q).toNat)
            case atStart => exact ⟨0, Nat.zero_le _, rfl, rfl, Below.refl _ _⟩
            case round =>
              obtain ⟨i, hi, rfl, rfl, hB⟩ := hrel
              have hDr := hide' (hD2.out.over hB.out)
              by_cases hlt : i < L.length
              · have hlt2 : (i : Int) < (L.length : Int) := by omega
                obtain ⟨x, hx⟩ : ∃ x, L[i]? = some x := ⟨_, List.getElem?_eq_getElem hlt⟩
                obtain ⟨gl, ol, rfl, d1⟩ := hLc.out i x hx
                obtain ⟨hxu, hx64⟩ := hL4.out x (List.mem_of_getElem? hx)
                have e1 := M.cell_over d1 hB.out
                obtain ⟨q0, q1, q2, q3⟩ := hDr.out.cells
                have hx0 : ¬ (x : Int) < 0 := by omega
                have hxn : ¬ Q.users ≤ (x : Int) := by omega
                have hsh := shl_u64 hx64
                have hpl : (2 : Nat) ^ x < 18446744073709551616 := Nat.lt_of_lt_of_le (Nat.pow_lt_pow_right (by decide) hx64) (Nat.le_refl (2 ^ 64))
                have hto : orL (L.take i) < 18446744073709551616 := orL_lt (n := 64) fun z hz => (hL4.out z (List.mem_of_mem_take hz)).2
                have hor := u64_or_nat (orL (L.take i)) (2 ^ x) hto hpl
                have hnx := hide' (orL_take hx)
                rw [← hnx.out] at hor
                have hLl : L.length ≤ 64 := by have := hLn.out; omega
                have hpv : Hid (∀ d, i = d + 1 → ∃ z, z < x ∧ wr.cell? ⟨gl, ol + d, none⟩ = some (.int .i64 (z : Int))) := fun d e => by
                  subst e
                  obtain ⟨z, hz⟩ : ∃ z, L[d]? = some z := ⟨_, List.getElem?_eq_getElem (by omega)⟩
                  obtain ⟨gl2, ol2, e2, d2⟩ := hLc.out d z hz
                  injection e2 with e2
                  injection e2 with e3 e4 _
                  subst e3 e4
                  exact ⟨z, hLs.out d z x hz hx, M.cell_over d2 hB.out⟩
                have hmn : min x 64 = x := by omega
                obtain ⟨o2, ho2⟩ : ∃ o2, o2 = orL (L.take (i + 1)) := ⟨_, rfl⟩
                rw [← ho2] at hor
                have ho3 := hide' ho2
                clear hLc hL4 hLs d1 hx hnx hto hpl ho2
                generalize orL (L.take i) = o1 at *
                generalize (2 : Nat) ^ x = pw at *
                by_cases hi0 : i = 0
                · have hd1 : ¬ (0 : Int) < (i : Int) := by omega
                  have hd2 : ¬ 0 < i := by omega
                  clear hpv hi0
                  go_wp2
                  go_quiet (fail)
                  have hbq : Below wr.heap.size wr (wr.drewN nq) := ⟨rfl, rfl, rfl, Nat.le_refl _, fun _ _ => rfl⟩
                  have e3 := M.cell_over e1 hbq
                  have hBq : Hid (Below v2.heap.size v2 (wr.drewN nq)) := hB.out.trans (hbq.mono hB.out.size)
                  clear hbq e1 q0 q1 q2 q3
                  go_wp2
                  exact ⟨⟨i + 1, by omega, by rw [← ho3.out], by go_num, hBq⟩, by simp [intOf]; omega⟩
                · obtain ⟨d, hd⟩ : ∃ d, i = d + 1 := ⟨i - 1, by omega⟩
                  obtain ⟨z, hzx, e2⟩ := hpv.out d hd
                  have hzn : ¬ (x : Int) ≤ (z : Int) := by omega
                  have hd1 : (0 : Int) < (i : Int) := by omega
                  have hd2 : 0 < i := by omega
                  have hd6 : decide (0 < i) = true := decide_eq_true hd2
                  have hdi : (i : Int) - 1 = (d : Int) := by omega
                  have hd3 : IntKind.i64.wrap ((i : Int) - 1) = (d : Int) := by rw [IntKind.wrap_i64]; omega
                  have hd7 : IntKind.i64.wrap (d : Int) = (d : Int) := by rw [IntKind.wrap_i64]; omega
                  have hd4 : (d : Int) < (L.length : Int) := by omega
                  have hd5 : d < L.length := by omega
                  clear hpv hd hi0
                  go_wp2
                  go_quiet (fail)
                  have hbq : Below wr.heap.size wr (wr.drewN nq) := ⟨rfl, rfl, rfl, Nat.le_refl _, fun _ _ => rfl⟩
                  have e3 := M.cell_over e1 hbq
                  have hBq : Hid (Below v2.heap.size v2 (wr.drewN nq)) := hB.out.trans (hbq.mono hB.out.size)
                  clear hbq e1 e2 q0 q1 q2 q3
                  go_wp2
                  exact ⟨⟨i + 1, by omega, by rw [← ho3.out], by go_num, hBq⟩, by simp [intOf]; omega⟩
              · obtain rfl : i = L.length := by omega
                rw [List.take_length, hLy.out]
                have hXy := hide' (fun V va vb vc => KLs.out V va vb vc y y1)
                have hXk := hide' (hokX.out y)
                have hne : ((L.length : Int) != (k : Int)) = false := by have := hLn.out; simp; omega
                obtain ⟨q0, q1, q2, q3⟩ := hDr.out.cells
                clear hLc hL4 hLs hLn hLy
                generalize lesP Q y = X at *
                go_wp2_with fail
                refine (K1.out _ _ _ _ hDr.out).mono ?_
                rintro e v3 ⟨va, vb, vc, rfl, hq3, hb3, _⟩
                have hD3 := hide' (hDr.out.over hb3.out)
                clear q0 q1 q2 q3 hDr hb3 hD2 hB
                go_wp2_with fail
                refine (hXy.out v3 _ _ _ hq3.out).mono ?_
                rintro e v4 ⟨o1, n1, c1, o2, n2, c2, o3, n3, c3, rfl, hX4, hb4, hl4, _⟩
                have hx4 := hide' (Xb.new hX4.out hl4.out hD3.out.gl)
                have hD4 := hide' (hD3.out.over (hb4.out.trans (((Below.refl _ v4).alloc (Nat.le_refl _) (.cells #[.int .i64 X.users, .slice o1 n1 c1, .slice o2 n2 c2, .slice o3 n3 c3] 26)).mono hb4.out.size)))
                clear hXy hX4 hb4 hl4 hD3 hq3
                have hK4 := hide' (K3.out _ a0 b0 c0 X _ _ _ hD4.out hx4.out.pv hXk.out (by omega) (by omega) (by omega))
                rw [hyc.out] at hK4
                clear hx4 hXk
                go_wp2_with fail
                refine hK4.out.mono ?_
                rintro e v5 ⟨rfl, a5, b5, c5, hg5, hgc5, hf5⟩
                have hD5 := hide' (hD4.out.fr hf5.out hg5.out)
                have hle5 := hide' (hgc5.out.le (by decide))
                clear hK4 hD4 hg5 hgc5 hf5
                go_wp2
                exact ⟨⟨k + 1, a5, b5, c5, by omega, by go_num, hD5, by have := hle5.out; show _ ∧ _ ∧ _; omega⟩, by simp [intOf]; omega⟩
        · obtain rfl : k = 4 := by omega
          have hl4 : Hid (a0 ≤ 20000000000000 ∧ b0 ≤ 20000000000000 ∧ c0 ≤ 20000000000000) := by have := hle.out; show _ ∧ _ ∧ _; omega
          clear hle
          go_wp2
          go_meet
          exact ⟨_, _, _, hD, hl4⟩
    case rest =>
      clear hD11 hl0
      obtain ⟨a1, b1, c1, hD, hle⟩ := hcut
      obtain ⟨U, hU⟩ := Int.eq_ofNat_of_zero_le hU0.out
      have hU64' : U ≤ 64 := by have := hU64.out; omega
      have hUt : Hid (Q.users.toNat = U) := by show _ = _; rw [hU, Int.toNat_natCast]
      have hl1 : Hid (a1 ≤ 20000000000000 + 6000000000000 * 0 ∧ b1 ≤ 20000000000000 + 6000000000000 * 0 ∧ c1 ≤ 20000000000000 + 6000000000000 * 0) := by have := hle.out; show _ ∧ _ ∧ _; omega
      have hUh := hide' hU
      clear hU hU0 hU64 hle
      go_wp2
      go_loopw [15, 16, 17, 18, 19, 20] (fun p _ _ _ _ _ wr => ∃ i a b c : Nat, i ≤ 40 ∧ p = .int .i64 (i : Int) ∧ Hid (Hd w Q (.slice ow Q.who.length cw) (.slice of Q.fixed.length cf) (.slice or Q.rules.length cr) g gs a b c wr) ∧ Hid (a ≤ 20000000000000 + 6000000000000 * i ∧ b ≤ 20000000000000 + 6000000000000 * i ∧ c ≤ 20000000000000 + 6000000000000 * i)) (fun p _ _ _ _ _ _ => ((40 : Int) - intOf p).toNat)
      case atStart => exact ⟨0, _, _, _, Nat.zero_le _, rfl, hD, hl1⟩
      case round =>
        clear hD hl1
        obtain ⟨i, a0, b0, c0, hi, rfl, hD, hle⟩ := hrel
        by_cases hlt : i < S.length
        · by_cases hl40 : i < 40
          · have hlt' : (i : Int) < (S.length : Int) := by omega
            have hl40' : (i : Int) < 40 := by omega
            obtain ⟨z, hz⟩ : ∃ z, S[i]? = some z := ⟨_, List.getElem?_eq_getElem hlt⟩
            obtain ⟨hz64, gS, oS, rfl, d1⟩ := hSc.out i z hz
            have e1 := M.cell_over d1 hD.out.s.be
            clear d1 hz
            obtain ⟨q0, q1, q2, q3⟩ := hD.out.cells
            rw [hUh.out] at q0
            have hx : Hid (z % 2 ^ U < 2 ^ U) := Nat.mod_lt _ (Nat.pow_pos (by decide))
            have hx64 : Hid (z % 2 ^ U < 18446744073709551616) := Nat.lt_of_le_of_lt (Nat.mod_le _ _) hz64
            have hmsk : Hid (U < 64 → bits .and .u64 (z : Int) ((2 ^ U - 1 : Nat) : Int) = ((z % 2 ^ U : Nat) : Int) ∧ IntKind.u64.wrap ((2 : Int) ^ U) = ((2 ^ U : Nat) : Int) ∧ IntKind.u64.wrap (((2 ^ U : Nat) : Int) - 1) = ((2 ^ U - 1 : Nat) : Int)) := fun h => by
              have h1 : (2 : Nat) ^ U < 18446744073709551616 := Nat.lt_of_lt_of_le (Nat.pow_lt_pow_right (by decide) h) (Nat.le_refl (2 ^ 64))
              have h0 : 0 < (2 : Nat) ^ U := Nat.pow_pos (by decide)
              refine ⟨by rw [u64_and_nat z (2 ^ U - 1) hz64 (by omega), Nat.and_two_pow_sub_one_eq_mod], shl_u64 h, ?_⟩
              rw [IntKind.wrap_u64]
              generalize (2 : Nat) ^ U = q at *
              omega
            have hmn : Hid (¬ U < 64 → z % 2 ^ U = z) := fun h => by
              obtain rfl : U = 64 := by omega
              exact Nat.mod_eq_of_lt hz64
            go_upto_if 151 with fail
            generalize z % 2 ^ U = x at *
            go_cut [16] from 147 to 157 (fun p wx => p = .int .u64 (x : Int) ∧ wx = wr)
            case first =>
              clear hx hx64
              by_cases h : U < 64
              · obtain ⟨m1, m2, m3⟩ := hmsk.out h
                have h' : (U : Int) < 64 := by omega
                have h'0 : ¬ (U : Int) < 0 := by omega
                have hmm : min U 64 = U := by omega
                clear hmsk hmn
                generalize (2 : Nat) ^ U - 1 = pm at *
                generalize (2 : Nat) ^ U = pw at *
                go_wp2
                go_meet
                exact ⟨rfl, rfl⟩
              · have h' : ¬ (U : Int) < 64 := by omega
                have := hmn.out h
                subst this
                clear hmsk hmn
                go_wp2
                go_meet
                exact ⟨rfl, rfl⟩
            case rest =>
              obtain ⟨rfl, rfl⟩ := hcut
              have hX := hide' (fun V va vb vc => KLs.out V va vb vc x hx64.out)
              have hXk := hide' (hokX.out x)
              have hyes := hide' (hG.out.yes x hx64.out)
              have hno := hide' (hG.out.no x (by rw [hUt.out]; exact hx.out))
              have KB := hide' (fun V => bitsF x hx64.out V)
              have KT := hide' (fun L lv V => laterF L x lv V hx64.out)
              have hle' := hle.out
              have hn64 : (numN x).length ≤ 64 := by rw [numN_len]; exact M.cnt_le 64 x
              have hnn : Hid ((numN x).length = (numN x).length) := rfl
              clear hx hx64 hmsk hmn q0 q1 q2 q3 e1 hle hnn
              obtain ⟨q0, q1, q2, q3⟩ := hD.out.cells
              generalize lesP Q x = X at *
              go_wp2_with fail
              refine (K1.out _ _ _ _ hD.out).mono ?_
              rintro e v3 ⟨va, vb, vc, rfl, hq3, hb3, _⟩
              have hD3 := hide' (hD.out.over hb3.out)
              clear q0 q1 q2 q3 hD hb3
              go_wp2_with fail
              refine (hX.out v3 _ _ _ hq3.out).mono ?_
              rintro e v4 ⟨o1, n1, c1, o2, n2, c2, o3, n3, c3, rfl, hX4, hb4, hl4, _⟩
              have hx5 := hide' (Xb.new hX4.out hl4.out hD3.out.gl)
              have hD5 := hide' (hD3.out.over (hb4.out.trans (((Below.refl _ v4).alloc (Nat.le_refl _) (.cells #[.int .i64 X.users, .slice o1 n1 c1, .slice o2 n2 c2, .slice o3 n3 c3] 26)).mono hb4.out.size)))
              clear hX hX4 hb4 hl4 hD3 hq3
              have KXc : Hid (∀ gx V a b c, Hd w Q (.slice ow Q.who.length cw) (.slice of Q.fixed.length cf) (.slice or Q.rules.length cr) g gs a b c V → Xb gs X (.slice o1 n1 c1) (.slice o2 n2 c2) (.slice o3 n3 c3) gx V → a ≤ 2305843009213693952 → b ≤ 2305843009213693952 → c ≤ 2305843009213693952 → Calls Tryd.prog 11 #[.pointer (some ⟨gs, 0, none⟩), .agg #[.int .i64 X.users, .slice o1 n1 c1, .slice o2 n2 c2, .slice o3 n3 c3]] V fun e w' => e = .returned (.bool (canB X)) ∧ ∃ a' b' c' : Nat, Hid (Hd w Q (.slice ow Q.who.length cw) (.slice of Q.fixed.length cf) (.slice or Q.rules.length cr) g gs a' b' c' w') ∧ Hid (Xb gs X (.slice o1 n1 c1) (.slice o2 n2 c2) (.slice o3 n3 c3) gx w') ∧ Hid (a' ≤ a + 2000000000000 ∧ b' ≤ b + 2000000000000 ∧ c' ≤ c + 2000000000000)) := fun gx V a b c hV hX ha hb hc => by
                refine (K3.out V a b c X _ _ _ hV hX.pv hXk.out ha hb hc).mono ?_
                rintro e w' ⟨rfl, a', b', c', hg', hgc', hf'⟩
                have := hgc'.out.le (by decide)
                exact ⟨rfl, a', b', c', hV.fr hf'.out hg'.out, hX.fr hV.s.gg hf'.out, by show _ ∧ _ ∧ _; omega⟩
              generalize numN x = B at *
              cases hcX : canB X with
              | true =>
                have hG0 := hyes.out hcX
                have hG1 : ¬ G < 0 := by omega
                rw [hcX] at KXc
                clear hyes hno KB KT hXk hcX K3 KLs hokX
                go_wp2_with fail
                refine (KXc.out _ _ _ _ _ hD5.out hx5.out (by omega) (by omega) (by omega)).mono ?_
                rintro e v6 ⟨rfl, a6, b6, c6, hD6, hx6, hl6⟩
                have hl6' := hl6.out
                obtain ⟨x60, x61, x62, x63⟩ := hx6.out.cells
                clear hD5 hx5 hl6 
                go_wp2_with fail
                refine (KXc.out _ _ _ _ _ hD6.out hx6.out (by omega) (by omega) (by omega)).mono ?_
                rintro e v7 ⟨rfl, a7, b7, c7, hD7, hx7, hl7⟩
                have hl7' := hl7.out
                obtain ⟨x70, x71, x72, x73⟩ := hx7.out.cells
                clear hD6 hx6 hl7 x60 x61 x62 x63
                go_wp2_with fail
                refine (KXc.out _ _ _ _ _ hD7.out hx7.out (by omega) (by omega) (by omega)).mono ?_
                rintro e v8 ⟨rfl, a8, b8, c8, hD8, hx8, hl8⟩
                have hl8' := hl8.out
                obtain ⟨x80, x81, x82, x83⟩ := hx8.out.cells
                clear hD7 hx7 hl8 x70 x71 x72 x73
                have hf8 := le3_sum hle' hl6' hl7' hl8'
                go_wp2
                exact ⟨⟨i + 1, a8, b8, c8, by omega, by go_num, hD8, hf8⟩, by simp [intOf]; omega⟩
              | false =>
                obtain ⟨hGn, hwk⟩ := hno.out hcX
                have hGn' : ¬ (B.length : Int) ≤ G := by omega
                rw [hcX] at KXc
                clear hyes hno hXk hcX K3 KLs hokX
                go_wp2_with fail
                refine (KXc.out _ _ _ _ _ hD5.out hx5.out (by omega) (by omega) (by omega)).mono ?_
                rintro e v6 ⟨rfl, a6, b6, c6, hD6, hx6, hl6⟩
                have hl6' := hl6.out
                obtain ⟨x60, x61, x62, x63⟩ := hx6.out.cells
                clear hD5 hx5 hl6 
                go_wp2_with fail
                refine (KXc.out _ _ _ _ _ hD6.out hx6.out (by omega) (by omega) (by omega)).mono ?_
                rintro e v7 ⟨rfl, a7, b7, c7, hD7, hx7, hl7⟩
                have hl7' := hl7.out
                obtain ⟨x70, x71, x72, x73⟩ := hx7.out.cells
                clear hD6 hx6 hl7 x60 x61 x62 x63
                go_wp2_with fail
                refine (KB.out _).mono ?_
                rintro e v10 ⟨rfl, hb10⟩
                have hD10 := hide' (hD7.out.over hb10)
                have hx10 := hide' (hx7.out.over hb10)
                obtain ⟨x100, x101, x102, x103⟩ := hx10.out.cells
                clear hb10 hD7 hx7 x70 x71 x72 x73
                go_wp2_with fail
                refine (KXc.out _ _ _ _ _ hD10.out hx10.out (by omega) (by omega) (by omega)).mono ?_
                rintro e v8 ⟨rfl, a8, b8, c8, hD8, hx8, hl8⟩
                have hl8' := hl8.out
                obtain ⟨x80, x81, x82, x83⟩ := hx8.out.cells
                clear hD10 hx10 hl8 x100 x101 x102 x103
                go_wp2_with fail
                refine (KB.out _).mono ?_
                rintro e v11 ⟨rfl, hb11⟩
                have hD11 := hide' (hD8.out.over hb11)
                clear hb11 hD8 hx8 x80 x81 x82 x83
                by_cases h3 : B.length ≤ 3
                · obtain ⟨y, hy, hy64, hyl, hyn⟩ := hwk h3
                  have h3' : (B.length : Int) ≤ 3 := by omega
                  have KWk : Hid (∀ V va vb vc, M.Tab V → PbV V Q va vb vc → Calls Tryd.prog 12 #[.agg #[.int .i64 Q.users, va, vb, vc], .int .i64 (B.length : Int)] V fun e w' => ∃ v, e = .returned (.tuple #[v, .bool true]) ∧ Hid (RowI w' v (ints (numN y))) ∧ Hid (Below V.heap.size V w')) := fun V va vb vc hT hq => by
                    have := KW.out V va vb vc (B.length : Int) hT hq
                    rw [hy] at this
                    refine this.mono fun e w' h => ?_
                    obtain ⟨v, h1, h2, h3⟩ := h
                    refine ⟨v, h1, ?_, h3⟩
                    have h2' := h2.out
                    have he : M.intsOf (M.nums y) = cellsI (ints (numN y)) := by
                      rw [ints_numsH]; unfold ints numN; rw [List.map_map]; rfl
                    rw [show (some y).getD 0 = y from rfl, he] at h2'
                    exact RowI.of_owns h2'
                  have KT2 := hide' (fun lv V hR => KT.out (numN y) lv V hR hyn hyl)
                  clear hwk hy hyl KT KW
                  generalize numN y = L at *
                  obtain ⟨q0, q1, q2, q3⟩ := hD11.out.cells
                  go_wp2_with fail
                  refine (K1.out _ _ _ _ hD11.out).mono ?_
                  rintro e v12 ⟨va, vb, vc, rfl, hq12, hb12, _⟩
                  have hD12 := hide' (hD11.out.over hb12.out)
                  clear q0 q1 q2 q3 hD11 hb12
                  go_wp2_with fail
                  refine (KB.out _).mono ?_
                  rintro e v13 ⟨rfl, hb13⟩
                  have hD13 := hide' (hD12.out.over hb13)
                  have hq13 := hide' (hq12.out.below hb13)
                  clear hb13 hD12 hq12 KB
                  go_wp2_with fail
                  refine (KWk.out v13 _ _ _ hD13.out.s.tab hq13.out).mono ?_
                  rintro e v14 ⟨v, rfl, hR14, hb14⟩
                  have hD14 := hide' (hD13.out.over hb14.out)
                  have hL14 := hide' (KT2.out _ _ hR14.out)
                  obtain ⟨oo, co, rfl, _, _⟩ := hR14.out
                  clear hb14 hD13 hq13 KWk KT2 hR14
                  go_wp2_with fail
                  refine hL14.out.mono ?_
                  rintro e v15 ⟨rfl, hb15⟩
                  have hD15 := hide' (hD14.out.over hb15)
                  clear hb15 hD14 hL14
                  have hf8 := le3_sum hle' hl6' hl7' hl8'
                  go_wp2
                  exact ⟨⟨i + 1, a8, b8, c8, by omega, by go_num, hD15, hf8⟩, by simp [intOf]; omega⟩
                · have h3' : ¬ (B.length : Int) ≤ 3 := by omega
                  clear hwk
                  have hf8 := le3_sum hle' hl6' hl7' hl8'
                  go_wp2
                  exact ⟨⟨i + 1, a8, b8, c8, by omega, by go_num, hD11, hf8⟩, by simp [intOf]; omega⟩
          · have hlt' : (i : Int) < (S.length : Int) := by omega
            have hl40' : ¬ (i : Int) < 40 := by omega
            go_wp2
            go_ret
            exact ⟨rfl, hD.out.s.be⟩
        · have hlt' : ¬ (i : Int) < (S.length : Int) := by omega
          go_wp2
          go_ret
          exact ⟨rfl, hD.out.s.be⟩
  · obtain ⟨hg, hn⟩ := hyG_no hC
    have hne : ((chkN Q : Int) == 0) = false := by simp; omega
    rw [hg] at KG
    rw [hn] at KN
    generalize (chkN Q : Int) = cN at *
    clear hC hg hn KL KW
    go_wp2_with fail
    refine KC6.out.mono ?_
    rintro e w7 ⟨rfl, hb7⟩
    have hD7 := hide' (hD6.out.over hb7)
    obtain ⟨q0, q1, q2, q3⟩ := hD7.out.cells
    clear KC6 hb7 hD6 hq6
    go_wp2_with fail
    refine (K1.out _ _ _ _ hD7.out).mono ?_
    rintro e w8 ⟨va, vb, vc, rfl, hq8, hb8, _⟩
    have hD8 := hide' (hD7.out.over hb8.out)
    clear q0 q1 q2 q3 hD7 hb8
    go_wp2_with fail
    refine (KG.out w8 _ _ _ hD8.out.s.tab hq8.out).mono ?_
    rintro e w9 ⟨rfl, hb9⟩
    have hD9 := hide' (hD8.out.over hb9)
    obtain ⟨q0, q1, q2, q3⟩ := hD9.out.cells
    clear hD8 hq8 hb9 KG
    go_wp2_with fail
    refine (K1.out _ _ _ _ hD9.out).mono ?_
    rintro e w10 ⟨va, vb, vc, rfl, hq10, hb10, _⟩
    have hD10 := hide' (hD9.out.over hb10.out)
    clear q0 q1 q2 q3 hD9 hb10
    go_wp2_with fail
    refine (KN.out w10 _ _ _ hD10.out.s.tab hq10.out).mono ?_
    rintro e w11 ⟨rfl, hb11⟩
    have hD11 := hide' (hD10.out.over hb11)
    clear hD10 hq10 hb11 KN
    go_wp2
    go_ret
    exact ⟨rfl, hD11.out.s.be⟩
end Go.Proofs.YtmbdnhgmpmnhmaaDoor.S

/- SolveFix, walked. -/
import Derived.Test.YtambepkkhfandaaDoorJ24
import Derived.Test.YtambepkkhfandaaDoorJ30
import Derived.Test.YtambepkkhfandaaDoorJ33
import Derived.Test.YtambepkkhfandaaDoorJ34
namespace Go.Proofs.YtambepkkhfandaaDoor.S
open Go.RowKit Go.Shelf
attribute [local irreducible] wpQuiet
set_option maxRecDepth 100000 in
set_option maxHeartbeats 2000000 in
theorem keepRowsF (L : List Nat) (va vb : Value) (w : World) (ha : RowW w va L) (hb : RowW w vb L) (hl : L.length ≤ 1000000) :
    Calls Tryd.prog 11 #[va, vb] w fun e w' => e = .returned (.bool true) ∧ Below w.heap.size w w' := by
  obtain ⟨oa, ca, rfl, _, hca⟩ := ha
  obtain ⟨ob, cb, rfl, _, hcb⟩ := hb
  have hca' := hide' hca
  have hcb' := hide' hcb
  clear hca hcb
  go_enter Tryd.func11, Tryd.ntmps11
  go_wp2
  go_loopw [5] (fun p wr => ∃ j : Nat, j ≤ L.length ∧ p = .int .i64 (j : Int) ∧ Hid (Below w.heap.size w wr)) (fun p _ => ((L.length : Int) - intOf p).toNat)
  case atStart => exact ⟨0, Nat.zero_le _, rfl, Below.refl _ _⟩
  case round =>
    obtain ⟨j, hj, rfl, hB⟩ := hrel
    by_cases hlt : j < L.length
    · have hlt' : (j : Int) < (L.length : Int) := by omega
      obtain ⟨f, hf⟩ : ∃ f, L[j]? = some f := ⟨_, List.getElem?_eq_getElem hlt⟩
      obtain ⟨g, o, rfl, d1⟩ := hca'.out j f hf
      obtain ⟨g', o', rfl, e1⟩ := hcb'.out j f hf
      have d1' := M.cell_over d1 hB.out
      have e1' := M.cell_over e1 hB.out
      clear hf hca' hcb' d1 e1
      go_wp2
      go_quiet (fail)
      go_wp2
      exact ⟨⟨j + 1, by omega, by go_num, below_drewS hB.out _⟩, by simp [intOf]; omega⟩
    · obtain rfl : j = L.length := by omega
      clear hca' hcb'
      go_wp2
      go_ret
      exact ⟨rfl, hB.out⟩
theorem fx_fact {Q : Pb} {s x : Int} (h : fxN Q s x = 0) : chkN Q = 0 ∧ 0 ≤ s ∧ s < (Q.who.length : Int) ∧ isU Q x = true := by
  unfold fxN at h
  by_cases hC : chkN Q = 0
  · rw [if_pos hC] at h
    split at h
    · cases h
    · rename_i q
      refine ⟨hC, by omega, by omega, ?_⟩
      cases e : isU Q x with
      | true => rfl
      | false => exact absurd (.inr (.inr e)) q
  · rw [if_neg hC] at h
    exact absurd h hC
/-- What is known of a problem in which a step is a user's. -/
structure FxF (Q X : Pb) (k : Nat) (x : Int) : Prop where
  ok : Pok X
  plan : okU Q k x = true → ∀ l, holP X l = true → l.length = Q.who.length ∧ l[k]? = some x ∧ holP Q l = true
theorem FxF.mk' {Q : Pb} {k : Nat} {x : Int} (hk : Pok Q) (hC : chkN Q = 0) (hl : k < Q.who.length) (hx : isU Q x = true) : FxF Q ⟨Q.users, Q.who, Q.fixed.set k x, Q.rules⟩ k x := by
  obtain ⟨g12, g0, g64, g32, gF, gW, gR⟩ := chkN_zero hC
  obtain ⟨gl, gx⟩ := fixB_of gF g64
  have hxu := hx
  unfold isU at hxu
  rw [Bool.and_eq_true] at hxu
  have hx0 := of_decide_eq_true hxu.1
  refine ⟨⟨hk.w, by show (Q.fixed.set k x).length ≤ 1000; rw [List.length_set]; exact hk.f, hk.r, hk.s, hk.b⟩, fun hm l hL => ?_⟩
  obtain ⟨_, h2, h3, h4⟩ := holP_of hL
  have h2' : l.length = Q.who.length := h2
  have hmay : mayP ⟨Q.users, Q.who, Q.fixed.set k x, Q.rules⟩ k = 2 ^ x.toNat := by
    unfold mayP
    have e : (Q.fixed.set k x)[k]? = some x := by rw [List.getElem?_set, if_pos rfl, if_pos (by omega)]
    simp only [List.getD_eq_getElem?_getD, e, Option.getD_some]
    rw [if_neg (by omega)]
  have hoth : ∀ t, t ≠ k → mayP ⟨Q.users, Q.who, Q.fixed.set k x, Q.rules⟩ t = mayP Q t := fun t ht => by
    unfold mayP
    have e : (Q.fixed.set k x)[t]? = Q.fixed[t]? := by rw [List.getElem?_set, if_neg (fun q => ht q.symm)]
    simp only [List.getD_eq_getElem?_getD, e]
  have hat : l[k]? = some x := by
    obtain ⟨y, hy⟩ : ∃ y, l[k]? = some y := ⟨_, List.getElem?_eq_getElem (by omega)⟩
    have := h3 k y hy
    unfold okU at this
    rw [Bool.and_eq_true, hmay] at this
    have hu := this.1
    unfold isU at hu
    rw [Bool.and_eq_true] at hu
    have hy0 := of_decide_eq_true hu.1
    have hb := this.2
    rw [Nat.testBit_two_pow] at hb
    have hb' := of_decide_eq_true hb
    rw [hy, show y = x by omega]
  refine ⟨h2', hat, holP_mk hC h2' (fun t y hy => ?_) h4⟩
  by_cases e : t = k
  · subst e
    rw [hat] at hy
    cases hy
    exact hm
  · have := h3 t y hy
    unfold okU at this ⊢
    rw [hoth t e] at this
    exact this
structure FxK (Q : Pb) (s x : Int) : Prop where
  f : fxN Q s x = 0 → ∃ k : Nat, s = (k : Int) ∧ k < Q.who.length ∧ chkN Q = 0 ∧ FxF Q (fxP Q s x) k x
structure FxL (Q X : Pb) (N : Nat) (s x : Int) : Prop where
  f : N = 0 → ∃ k : Nat, s = (k : Int) ∧ k < Q.who.length ∧ chkN Q = 0 ∧ FxF Q X k x
structure FxQ (Q X : Pb) (k : Nat) (x : Int) : Prop where
  f : ∀ l, holP X l = true → l.length = Q.who.length ∧ l[k]? = some x ∧ holP Q l = true
structure FxH (Q : Pb) (l : List Int) : Prop where
  h : holP Q l = true
  c : canB Q = true
/-- Fix, with its shapes. -/
def FxG (V : World) (X : Pb) (N : Nat) (e : Ending) (w' : World) : Prop :=
  ∃ o1 n1 c1 o2 n2 c2 o3 n3 c3, e = .returned (.tuple #[.agg #[.int .i64 X.users, .slice o1 n1 c1, .slice o2 n2 c2, .slice o3 n3 c3], .int .i64 (N : Int)]) ∧ Hid (PbV w' X (.slice o1 n1 c1) (.slice o2 n2 c2) (.slice o3 n3 c3)) ∧ Hid (Below V.heap.size V w') ∧ Hid (∀ ad n c, Value.slice o1 n1 c1 = .slice (some ad) n c → V.heap.size ≤ ad.block)
theorem FxG.of {V : World} {Q : Pb} {s x : Int} {e : Ending} {w' : World} (h : FxP V Q s x e w') : FxG V (fxP Q s x) (fxN Q s x) e w' := by
  obtain ⟨va, vb, vc, e1, e2, e3, e4⟩ := h
  obtain ⟨o1, c1, o2, c2, o3, c3, r1, r2, r3⟩ := e2.out.shape
  subst r1 r2 r3
  exact ⟨o1, _, c1, o2, _, c2, o3, _, c3, e1, e2, e3, e4⟩
structure TxS (X : Pb) (g : Nat) (a b c : Value) (V : World) : Prop where
  pb : PbB V g X a b c
  pv : PbV V X a b c
theorem TxS.over {X : Pb} {g : Nat} {a b c : Value} {V V' : World} (h : TxS X g a b c V) (hb : Below V.heap.size V V') : TxS X g a b c V' := ⟨h.pb.below hb, h.pv.below hb⟩
theorem TxS.start {X : Pb} {a b c : Value} {V : World} (h1 : PbV V X a b c) : TxS X V.heap.size a b c (V.alloc (.cells #[.int .i64 X.users, a, b, c] 26)) :=
  ⟨heap_new V _, h1.below ((Below.refl _ V).alloc (Nat.le_refl _) _)⟩
set_option maxRecDepth 100000 in
set_option maxHeartbeats 16000000 in
theorem solveFix_walk (P : Pb) (wv fv rv : Value) (s x : Int) (w : World) (h : PbV w P wv fv rv) (hb : ∀ z ∈ P.who, z < 18446744073709551616) (ht : M.Tab w) :
    Calls Tryd.prog 3 #[pbV P wv fv rv, .int .i64 s, .int .i64 x] w fun e w' => e = .returned (.bool true) ∧ Below w.heap.size w w' := by
  have hB0 : Hid (Below w.heap.size w (w.alloc (.cells #[.int .i64 P.users, wv, fv, rv] 26))) := (Below.refl _ w).alloc (Nat.le_refl _) _
  have K0 := hide' (cutC P wv fv rv _ (h.below hB0.out))
  have hk := hide' (cutP_ok hb)
  have ht' := hide' ht
  have hGw := ht.2
  have hQb : Hid (∀ V (a b c : Value), PbV V (cutP P) a b c → Calls Tryd.prog 6 #[pbV (cutP P) a b c] V fun e w' => ∃ va vb vc, e = .returned (pbV (cutP P) va vb vc) ∧ Hid (PbV w' (cutP P) va vb vc) ∧ Hid (Below V.heap.size V w') ∧ Hid (∀ ad n c, va = .slice (some ad) n c → V.heap.size ≤ ad.block ∧ ad.block < w'.heap.size)) := fun V a b c hq => cutD P a b c V hq
  have hQl : Hid ((cutP P).who.length ≤ 20 ∧ (cutP P).rules.length ≤ 40) := by
    refine ⟨?_, ?_⟩
    · show (P.who.take 20).length ≤ 20; rw [List.length_take]; omega
    · show ((P.rules.take 40).map cutR).length ≤ 40; rw [List.length_map, List.length_take]; omega
  clear h ht hb
  unfold pbV at K0 hQb ⊢
  generalize cutP P = Q at *
  go_enter Tryd.func3, Tryd.ntmps3
  go_wp2_with fail
  refine K0.out.mono ?_
  rintro e w1 ⟨qw, qf, qr, rfl, hq1, hb1, ho1⟩
  have hB1 : Hid (Below w.heap.size w w1) := hB0.out.trans (hb1.out.mono hB0.out.size)
  obtain ⟨ow, cw, of, cf, or, cr, rfl, rfl, rfl⟩ := hq1.out.shape
  clear hb1 hB0 K0
  go_wp2_with fail
  refine (newF _).mono ?_
  rintro e w3 ⟨rfl, hg3, hb3⟩
  have hS := hide' (SvS.start hB1.out hq1.out ht'.out hg3.out hb3.out)
  have hz : (w1.alloc (.cells #[.int .i64 Q.users, .slice ow Q.who.length cw, .slice of Q.fixed.length cf, .slice or Q.rules.length cr] 26)).heap.size = w1.heap.size + 1 := by simp
  have hne : Hid (∀ ad n c, Value.slice ow Q.who.length cw = .slice (some ad) n c → ad.block ≠ (w1.alloc (.cells #[.int .i64 Q.users, .slice ow Q.who.length cw, .slice of Q.fixed.length cf, .slice or Q.rules.length cr] 26)).heap.size) := fun ad n c e => by have := (ho1.out ad n c e).2; omega
  have hgp : Hid (w1.heap.size ≠ (w1.alloc (.cells #[.int .i64 Q.users, .slice ow Q.who.length cw, .slice of Q.fixed.length cf, .slice or Q.rules.length cr] 26)).heap.size) := by show _ ≠ _; omega
  have hgs : Hid (w.heap.size ≤ (w1.alloc (.cells #[.int .i64 Q.users, .slice ow Q.who.length cw, .slice of Q.fixed.length cf, .slice or Q.rules.length cr] 26)).heap.size) := by have := hB1.out.size; show _ ≤ _; omega
  clear hg3 hb3 hq1 ho1 hz hB1 ht'
  generalize (w1.alloc (.cells #[.int .i64 Q.users, .slice ow Q.who.length cw, .slice of Q.fixed.length cf, .slice or Q.rules.length cr] 26)).heap.size = gs at *
  generalize w1.heap.size = g at *
  have hG : Hid (1 ≤ gs) := Nat.le_trans hGw hgs.out
  have K1 : Hid (∀ V a b c, SvS w Q (.slice ow Q.who.length cw) (.slice of Q.fixed.length cf) (.slice or Q.rules.length cr) g gs a b c V → Calls Tryd.prog 6 #[.agg #[.int .i64 Q.users, .slice ow Q.who.length cw, .slice of Q.fixed.length cf, .slice or Q.rules.length cr]] V fun e w' => ∃ va vb vc, e = .returned (.agg #[.int .i64 Q.users, va, vb, vc]) ∧ Hid (PbV w' Q va vb vc) ∧ Hid (Below V.heap.size V w') ∧ Hid (∀ ad n c, va = .slice (some ad) n c → V.heap.size ≤ ad.block ∧ ad.block < w'.heap.size)) := fun V a b c hV => hQb.out V _ _ _ hV.pv
  have K1' : Hid (∀ V a b c, PbV V Q a b c → Calls Tryd.prog 6 #[.agg #[.int .i64 Q.users, a, b, c]] V fun e w' => ∃ va vb vc, e = .returned (.agg #[.int .i64 Q.users, va, vb, vc]) ∧ Hid (PbV w' Q va vb vc) ∧ Hid (Below V.heap.size V w')) := fun V a b c hV => (hQb.out V a b c hV).mono fun e w' ⟨va, vb, vc, e1, e2, e3, _⟩ => ⟨va, vb, vc, e1, e2, e3⟩
  have K7 : Hid (∀ V, M.Tab V → Calls Tryd.prog 8 #[] V fun e w' => e = .returned (.bool true) ∧ Below V.heap.size V w') := fun V hV => wakesF V hV
  have KX : Hid (∀ V a b c, PbV V Q a b c → Calls Tryd.prog 9 #[.agg #[.int .i64 Q.users, a, b, c], .int .i64 s, .int .i64 x] V (FxG V (fxP Q s x) (fxN Q s x))) := fun V a b c hV => (fixF Q a b c s x V hV hk.out).mono fun e w' h => FxG.of h
  have KY : Hid (∀ V a b c, PbV V Q a b c → Calls Tryd.prog 10 #[.agg #[.int .i64 Q.users, a, b, c], .int .i64 s, .int .i64 x] V (FxG V (fxP Q s x) (fxN Q s x))) := fun V a b c hV => (fixD Q a b c s x V hV hk.out).mono fun e w' h => FxG.of h
  unfold FxG at KX KY
  go_wp2_with fail
  refine (K7.out _ hS.out.tab).mono ?_
  rintro e w4 ⟨rfl, hb4⟩
  have hS4 := hide' (hS.out.over hb4)
  have hgl : Hid (gs < w4.heap.size) := hS4.out.gg.lt
  clear hb4 hS K7
  obtain ⟨q0, q1, q2, q3⟩ := hS4.out.pb.all
  go_wp2_with fail
  refine (K1'.out _ _ _ _ hS4.out.pv).mono ?_
  rintro e w5 ⟨va, vb, vc, rfl, hq5, hb5⟩
  have hS5 := hide' (hS4.out.over hb5.out)
  clear q0 q1 q2 q3 hb5 hS4
  have hgl5 : Hid (gs < w5.heap.size) := hS5.out.gg.lt
  have hXok : Hid (Pok (fxP Q s x)) := by
    unfold Hid
    by_cases h0 : fxN Q s x = 0
    · obtain ⟨a1, a2, a3, a4⟩ := fx_fact h0
      have : fxP Q s x = ⟨Q.users, Q.who, Q.fixed.set s.toNat x, Q.rules⟩ := by unfold fxP; rw [if_pos h0]
      rw [this]
      exact (FxF.mk' hk.out a1 (by omega) a4).ok
    · have : fxP Q s x = ⟨0, [], [], []⟩ := by unfold fxP; rw [if_neg h0]
      rw [this]
      exact ⟨Nat.zero_le _, Nat.zero_le _, Nat.zero_le _, (fun r hr => by cases hr), (fun z hz => by cases hz)⟩
  have hFact : FxK Q s x := ⟨fun h0 => by
    obtain ⟨a1, a2, a3, a4⟩ := fx_fact h0
    refine ⟨s.toNat, by omega, by omega, a1, ?_⟩
    have : fxP Q s x = ⟨Q.users, Q.who, Q.fixed.set s.toNat x, Q.rules⟩ := by unfold fxP; rw [if_pos h0]
    rw [this]
    exact FxF.mk' hk.out a1 (by omega) a4⟩
  have hFc := hFact
  clear hFact
  obtain ⟨X, hX⟩ : ∃ X, X = fxP Q s x := ⟨_, rfl⟩
  obtain ⟨N, hN⟩ : ∃ N, N = fxN Q s x := ⟨_, rfl⟩
  have hK : FxL Q X N s x := ⟨fun h0 => by rw [hX]; exact hFc.f (by rw [← hN]; exact h0)⟩
  rw [← hX] at KX KY hXok
  rw [← hN] at KX KY
  clear hFc hX hN
  go_wp2_with fail
  refine (KX.out _ _ _ _ hq5.out).mono ?_
  rintro e w6 ⟨o1, n1, c1, o2, n2, c2, o3, n3, c3, rfl, hV6, hb6, ho6⟩
  have hS6 := hide' (hS5.out.over hb6.out)
  have hX6 := hide' (TxS.start hV6.out)
  have hS7 := hide' (hS6.out.over ((Below.refl _ w6).alloc (Nat.le_refl _) (.cells #[.int .i64 X.users, .slice o1 n1 c1, .slice o2 n2 c2, .slice o3 n3 c3] 26)))
  have hne6 : Hid (∀ ad n c, Value.slice o1 n1 c1 = .slice (some ad) n c → ad.block ≠ gs) := fun ad n c e => by have := ho6.out ad n c e; have := hgl5.out; omega
  clear hS5 hb6 ho6 hV6 hS6 hq5 KX
  go_upto_region 6 with fail
  generalize w6.alloc (.cells #[.int .i64 X.users, .slice o1 n1 c1, .slice o2 n2 c2, .slice o3 n3 c3] 26) = w7 at *
  generalize w6.heap.size = gx at *
  obtain ⟨q0, q1, q2, q3⟩ := hS7.out.pb.all
  go_wp2_with fail
  refine (KY.out _ _ _ _ hS7.out.pv).mono ?_
  rintro e w8 ⟨y1, m1, d1, y2, m2, d2, y3, m3, d3, rfl, hV8, hb8, ho8⟩
  have hS8 := hide' (hS7.out.over hb8.out)
  have hX8 := hide' (hX6.out.over hb8.out)
  have hY9 := hide' (TxS.start hV8.out)
  have hS9 := hide' (hS8.out.over ((Below.refl _ w8).alloc (Nat.le_refl _) (.cells #[.int .i64 X.users, .slice y1 m1 d1, .slice y2 m2 d2, .slice y3 m3 d3] 26)))
  have hX9 := hide' (hX8.out.over ((Below.refl _ w8).alloc (Nat.le_refl _) (.cells #[.int .i64 X.users, .slice y1 m1 d1, .slice y2 m2 d2, .slice y3 m3 d3] 26)))
  clear hS7 hS8 hX6 hX8 hV8 hb8 ho8 KY q0 q1 q2 q3
  go_upto_region 7 with fail
  generalize w8.alloc (.cells #[.int .i64 X.users, .slice y1 m1 d1, .slice y2 m2 d2, .slice y3 m3 d3] 26) = w9 at *
  generalize w8.heap.size = gy at *
  have KRo : Hid (∀ V (a b : Value), RowW V a X.who → RowW V b X.who → Calls Tryd.prog 11 #[a, b] V fun e w' => e = .returned (.bool true) ∧ Below V.heap.size V w') := fun V a b h1 h2 => keepRowsF X.who a b V h1 h2 (by have := hXok.out.w; omega)
  have KIn : Hid (∀ V (a b : Value), RowI V a X.fixed → RowI V b X.fixed → Calls Tryd.prog 12 #[a, b] V fun e w' => e = .returned (.bool true) ∧ Below V.heap.size V w') := fun V a b h1 h2 => by
    have := keepInts X.fixed X.fixed a b V h1 h2 (by have := hXok.out.f; omega) (by have := hXok.out.f; omega)
    simpa using this
  have KRu : Hid (∀ V (a b : Value), RowR V a X.rules → RowR V b X.rules → Calls Tryd.prog 13 #[a, b] V fun e w' => e = .returned (.bool true) ∧ Below V.heap.size V w') := fun V a b h1 h2 => keepRules X.rules a b V h1 h2 hXok.out.r hXok.out.s
  obtain ⟨q0, q1, q2, q3⟩ := hX9.out.pb.all
  obtain ⟨p0, p1, p2, p3⟩ := hY9.out.pb.all
  have hNN : ((N : Int) != (N : Int)) = false := by simp
  have hUU : (X.users != X.users) = false := by simp
  go_wp2_with fail
  refine (KRo.out _ _ _ hX9.out.pv.who hY9.out.pv.who).mono ?_
  rintro e w10 ⟨rfl, hb10⟩
  have hS10 := hide' (hS9.out.over hb10)
  have hX10 := hide' (hX9.out.over hb10)
  have hY10 := hide' (hY9.out.over hb10)
  clear hS9 hX9 hY9 hb10 KRo q0 q1 q2 q3 p0 p1 p2 p3
  obtain ⟨q0, q1, q2, q3⟩ := hX10.out.pb.all
  obtain ⟨p0, p1, p2, p3⟩ := hY10.out.pb.all
  go_wp2_with fail
  refine (KIn.out _ _ _ hX10.out.pv.fixed hY10.out.pv.fixed).mono ?_
  rintro e w11 ⟨rfl, hb11⟩
  have hS11 := hide' (hS10.out.over hb11)
  have hX11 := hide' (hX10.out.over hb11)
  have hY11 := hide' (hY10.out.over hb11)
  clear hS10 hX10 hY10 hb11 KIn q0 q1 q2 q3 p0 p1 p2 p3
  obtain ⟨q0, q1, q2, q3⟩ := hX11.out.pb.all
  obtain ⟨p0, p1, p2, p3⟩ := hY11.out.pb.all
  go_wp2_with fail
  refine (KRu.out _ _ _ hX11.out.pv.rules hY11.out.pv.rules).mono ?_
  rintro e w12 ⟨rfl, hb12⟩
  have hS12 := hide' (hS11.out.over hb12)
  have hX12 := hide' (hX11.out.over hb12)
  clear hS11 hX11 hY11 hb12 KRu q0 q1 q2 q3 p0 p1 p2 p3
  go_upto_region 9 with fail
  by_cases hN0 : N = 0
  case neg =>
    as_aux_lemma =>
    have n1 : ¬ (N : Int) = 0 := by omega
    have n2 : ((N : Int) != 0) = true := by rw [bne_iff_ne]; exact n1
    clear hK K1' hQb hk hXok hne hgp hgs hG hgl hgl5 hX12 hne6
    go_wp2
    go_ret
    exact ⟨rfl, hS12.out.be⟩
  obtain ⟨k, hsk, hkl, hC, hF⟩ := hK.f hN0
  subst hN0
  subst hsk
  clear hK hNN hUU
  have KM : Hid (∀ V a b c, PbV V Q a b c → Calls Tryd.prog 14 #[.agg #[.int .i64 Q.users, a, b, c], .int .i64 (k : Int), .int .i64 x] V fun e w' => e = .returned (.bool (okU Q k x)) ∧ Below V.heap.size V w') := fun V a b c hV => lMayF Q a b c k x V hV hC hkl hk.out.b
  have hU := hS12.out.pb.all
  obtain ⟨q0, q1, q2, q3⟩ := hU
  go_wp2_with fail
  refine (KM.out _ _ _ _ hS12.out.pv).mono ?_
  rintro e w13 ⟨rfl, hb13⟩
  have hS13 := hide' (hS12.out.over hb13)
  have hX13 := hide' (hX12.out.over hb13)
  clear hS12 hX12 hb13 KM q0 q1 q2 q3
  cases hm : okU Q k x with
  | false =>
    as_aux_lemma =>
    clear K1' hQb hk hXok hne hgp hgs hG hgl hgl5 hX13 hne6 hF hm
    go_wp2
    go_ret
    exact ⟨rfl, hS13.out.be⟩
  | true =>
  have hPl := FxQ.mk (hF.plan hm)
  clear hm hF
  obtain ⟨q0, q1, q2, q3⟩ := hX13.out.pb.all
  have KL := hide' (leastPF X _ _ _ gs 0 0 0 w13 hX13.out.pv hXok.out hS13.out.gg hG.out hS13.out.tab hne6.out (by decide) (by decide) (by decide))
  unfold pbV at KL
  go_wp2_with fail
  refine KL.out.mono ?_
  rintro e w14 ⟨⟨a', b', c', hg14, hgc⟩, hf14, ⟨rfl, hls⟩ | ⟨v, l, rfl, hls, hown⟩⟩
  · as_aux_lemma =>
    have hS14 := hide' (hS13.out.fr hf14.out hg14.out hgs.out hne.out hgp.out hG.out)
    clear K1' hQb hk hXok hne hgp hgs hG hgl hgl5 hX13 hne6 hPl hf14 hg14 hgc hls KL hS13 q0 q1 q2 q3
    go_wp2
    go_ret
    exact ⟨rfl, hS14.out.be⟩
  have hS14 := hide' (hS13.out.fr hf14.out hg14.out hgs.out hne.out hgp.out hG.out)
  obtain ⟨e1, e2, e3⟩ := hPl.f l hls.out.1
  have hle := hgc.out.le (Nat.le_refl _)
  obtain ⟨oa, cap, hv, h0, hc⟩ := RowI.of_owns hown.out
  have hrl := hide' (RowI.of_owns hown.out)
  rw [e1] at hv
  subst hv
  obtain ⟨gl, ol, hoa, ck⟩ := hc k x e2
  subst hoa
  have hl30 : Hid (l.take 30 = l ∧ l.length ≤ 30) := by
    have := hQl.out.1
    exact ⟨List.take_of_length_le (by omega), by omega⟩
  have hH : FxH Q l := ⟨e3, (canB_iff Q).2 ⟨l, e3⟩⟩
  have hLL : ((Q.who.length : Int) != (Q.who.length : Int)) = false := by simp
  have hxx : (x != x) = false := by simp
  have hkI : (k : Int) < (Q.who.length : Int) := by omega
  have K4 : Hid (∀ V v' M, RowI V v' M → Calls Tryd.prog 17 #[v'] V fun e w' => ∃ v'', e = .returned v'' ∧ RowI w' v'' (M.take 30) ∧ Below V.heap.size V w') := fun V v' M hV => rowF M v' V hV
  have K5 : Hid (∀ V va vb vc v', PbV V Q va vb vc → RowI V v' l → Calls Tryd.prog 16 #[.agg #[.int .i64 Q.users, va, vb, vc], v'] V fun e w' => e = .returned (.bool true) ∧ Below V.heap.size V w') := fun V va vb vc v' hV hr => by
    have := holdsPF Q va vb vc l v' V hV hr (by have := hl30.out.2; omega) hk.out.w hk.out.f hk.out.r hk.out.s hk.out.b
    rw [hH.h] at this
    exact this
  have K6 : Hid (∀ V va vb vc, SvS w Q (.slice ow Q.who.length cw) (.slice of Q.fixed.length cf) (.slice or Q.rules.length cr) g gs a' b' c' V → PbV V Q va vb vc → Calls Tryd.prog 18 #[.pointer (some ⟨gs, 0, none⟩), .agg #[.int .i64 Q.users, va, vb, vc]] V fun e w' => e = .returned (.bool true) ∧ Hid (M.Fr2 V w' gs gs)) := fun V va vb vc hV hp => (canF Q va vb vc gs a' b' c' V hp hk.out hV.gg hG.out hV.tab (by omega) (by omega) (by omega)).mono fun e w' ⟨r1, _, _, _, _, _, r2⟩ => ⟨by rw [r1, hH.c], r2⟩
  clear hS13 hX13 hf14 hg14 hgc hls hown KL q0 q1 q2 q3 hPl e1 e2 e3 hc h0 hle hH hXok
  obtain ⟨q0, q1, q2, q3⟩ := hS14.out.pb.all
  go_wp2_with fail
  refine (K1'.out _ _ _ _ hS14.out.pv).mono ?_
  rintro e w15 ⟨ya, yb, yc, rfl, hq15, hb15⟩
  have hS15 := hide' (hS14.out.over hb15.out)
  have hr15 := hide' (hrl.out.below hb15.out (Nat.le_refl _))
  clear hS14 hrl hb15 q0 q1 q2 q3 ck
  go_wp2_with fail
  refine (K4.out _ _ _ hr15.out).mono ?_
  rintro e w16 ⟨v16, rfl, hr16, hb16⟩
  rw [hl30.out.1] at hr16
  have hS16 := hide' (hS15.out.over hb16)
  have hq16 := hide' (hq15.out.below hb16)
  have hr16' := hide' hr16
  clear hS15 hr15 hr16 hb16 hq15 K4
  go_wp2_with fail
  refine (K5.out _ _ _ _ _ hq16.out hr16'.out).mono ?_
  rintro e w17 ⟨rfl, hb17⟩
  have hS17 := hide' (hS16.out.over hb17)
  clear hS16 hb17 hq16 hr16' K5
  obtain ⟨q0, q1, q2, q3⟩ := hS17.out.pb.all
  go_wp2_with fail
  refine (K1'.out _ _ _ _ hS17.out.pv).mono ?_
  rintro e w18 ⟨za, zb, zc, rfl, hq18, hb18⟩
  have hS18 := hide' (hS17.out.over hb18.out)
  clear hS17 hb18 q0 q1 q2 q3
  go_wp2_with fail
  refine (K6.out _ _ _ _ hS18.out hq18.out).mono ?_
  rintro e w19 ⟨rfl, hf19⟩
  have hbe : Hid (Below w.heap.size w w19) := hf19.out.new hS18.out.be hgs.out hgs.out hS18.out.be.size
  clear hS18 hf19 hq18 K6
  go_wp2
  go_ret
  exact ⟨rfl, hbe.out⟩
end Go.Proofs.YtambepkkhfandaaDoor.S

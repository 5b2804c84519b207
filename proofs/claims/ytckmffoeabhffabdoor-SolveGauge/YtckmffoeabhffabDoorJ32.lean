/- SolveGauge, walked. (Printed by sgau.py.) -/
import Derived.Test.YtckmffoeabhffabDoorJ11
import Derived.Test.YtckmffoeabhffabDoorJ26
import Derived.Test.YtckmffoeabhffabDoorJ29
import Derived.Test.YtckmffoeabhffabDoorJ31
namespace Go.Proofs.YtckmffoeabhffabDoor.S
open Go.RowKit Go.Shelf
/-- A box of a gauge. -/
def GaB (V : World) (g a b c : Nat) : Prop := V.heap[g]? = some (.cells #[.int .u64 (a : Int), .int .u64 (b : Int), .int .u64 (c : Int)] 40 (0, 0))
theorem GaB.below {V V' : World} {g a b c : Nat} (h : GaB V g a b c) (hb : Below V.heap.size V V') : GaB V' g a b c := (hb.block g (Array.getElem?_eq_some_iff.1 h).1).trans h
theorem GaB.fr {V V' : World} {g a b c gs : Nat} (h : GaB V g a b c) (hf : M.Fr2 V V' gs gs) (hne : g ≠ gs) : GaB V' g a b c := (hf.block g (Array.getElem?_eq_some_iff.1 h).1 hne hne).trans h
theorem GaB.all {V : World} {g a b c : Nat} (h : GaB V g a b c) : V.cell? ⟨g, 0, none⟩ = some (.int .u64 (a : Int)) ∧ V.cell? ⟨g, 1, none⟩ = some (.int .u64 (b : Int)) ∧ V.cell? ⟨g, 2, none⟩ = some (.int .u64 (c : Int)) := by unfold GaB at h; simp [World.cell?, h]
theorem GaB.lt {V : World} {g a b c : Nat} (h : GaB V g a b c) : g < V.heap.size := (Array.getElem?_eq_some_iff.1 h).1
theorem GaB.new (V : World) (a b c : Nat) : GaB (V.alloc (.cells #[.int .u64 (a : Int), .int .u64 (b : Int), .int .u64 (c : Int)] 40)) V.heap.size a b c := heap_new V _
/-- What stands between the problems: two solvers. -/
structure OgS (w : World) (gs gt a b c : Nat) (V : World) : Prop where
  gg : GgAt V gs a b c
  gt : GgAt V gt 0 0 0
  tab : M.Tab V
  be : Below w.heap.size w V
theorem OgS.over {w : World} {gs gt a b c : Nat} {V V' : World} (h : OgS w gs gt a b c V) (hb : Below V.heap.size V V') : OgS w gs gt a b c V' := ⟨h.gg.below hb, h.gt.below hb, h.tab.over hb, h.be.trans (hb.mono h.be.size)⟩
/-- And between the calls: the problem that was cut, too. -/
structure SgS (w : World) (Q : Pb) (qw qf qr : Value) (g gs gt a b c : Nat) (V : World) : Prop where
  sv : SvS w Q qw qf qr g gs a b c V
  gt : GgAt V gt 0 0 0
theorem SgS.over {w : World} {Q : Pb} {qw qf qr : Value} {g gs gt a b c : Nat} {V V' : World} (h : SgS w Q qw qf qr g gs gt a b c V) (hb : Below V.heap.size V V') : SgS w Q qw qf qr g gs gt a b c V' := ⟨h.sv.over hb, h.gt.below hb⟩
theorem SgS.fr {w : World} {Q : Pb} {qw qf qr : Value} {g gs gt a b c a' b' c' : Nat} {V V' : World} (h : SgS w Q qw qf qr g gs gt a b c V) (hf : M.Fr2 V V' gs gs) (hg : GgAt V' gs a' b' c') (hgs : w.heap.size ≤ gs) (hne : ∀ ad n c, qw = .slice (some ad) n c → ad.block ≠ gs) (hgp : g ≠ gs) (hgt : gt ≠ gs) (hG : 1 ≤ gs) : SgS w Q qw qf qr g gs gt a' b' c' V' :=
  ⟨h.sv.fr hf hg hgs hne hgp hG, h.gt.of (hf.block gt h.gt.lt hgt hgt)⟩
/-- Problems as they are handed in. -/
def RowP (w : World) (v : Value) (L : List Pb) : Prop := ∃ oa cap, v = .slice oa L.length cap ∧ ∀ (i : Nat) P, L[i]? = some P → ∃ g o wv fv rv, oa = some ⟨g, o, none⟩ ∧ (w.cell? ⟨g, o + i * 4, none⟩ = some (.int .i64 P.users) ∧ w.cell? ⟨g, o + i * 4 + 1, none⟩ = some wv ∧ w.cell? ⟨g, o + i * 4 + 2, none⟩ = some fv ∧ w.cell? ⟨g, o + i * 4 + 3, none⟩ = some rv) ∧ PbV w P wv fv rv
set_option maxRecDepth 100000 in
set_option maxHeartbeats 16000000 in
theorem solveGauge_walk (PL : List Pb) (pv : Value) (w : World) (hp : RowP w pv PL) (hpb : ∀ P ∈ PL, ∀ z ∈ P.who, z < 18446744073709551616) (ht : M.Tab w) :
    Calls Tryd.prog 4 #[pv] w fun e w' => e = .returned (.bool true) ∧ Below w.heap.size w w' := by
  obtain ⟨op, cp, rfl⟩ : ∃ o c, pv = .slice o PL.length c := by obtain ⟨o, c, e, _⟩ := hp; exact ⟨o, c, e⟩
  have hp' := hide' hp
  have hpb' := hide' hpb
  have ht' := hide' ht
  have hGw := ht.2
  have KN := hide' (newF w)
  clear hp hpb ht
  go_enter Tryd.func4, Tryd.ntmps4
  go_wp2_with fail
  refine KN.out.mono ?_
  rintro e w1 ⟨rfl, hg1, hb1⟩
  go_wp2_with fail
  refine (newF w1).mono ?_
  rintro e w2 ⟨rfl, hg2, hb2⟩
  have hB2 : Hid (Below w.heap.size w w2) := hb1.out.trans (hb2.out.mono hb1.out.size)
  have hO2 : Hid (OgS w w.heap.size w1.heap.size 0 0 0 w2) := ⟨hg1.out.below hb2.out, hg2.out, ht'.out.over hB2.out, hB2.out⟩
  have hgt : Hid (w1.heap.size ≠ w.heap.size) := by have := hg1.out.lt; show _ ≠ _; omega
  have hgs : Hid (w.heap.size ≤ w.heap.size) := Nat.le_refl _
  clear KN hg1 hb1 hg2 hb2 hB2 ht'
  generalize w1.heap.size = gt at *
  obtain ⟨gs, hgse⟩ : ∃ gs, gs = w.heap.size := ⟨_, rfl⟩
  have hgs' : Hid (w.heap.size ≤ gs) := by show _ ≤ _; omega
  have hG : Hid (1 ≤ gs) := by show _ ≤ _; omega
  go_wp2_with fail
  refine (wakesF _ hO2.out.tab).mono ?_
  rintro e w3 ⟨rfl, hb3⟩
  have hO3 := hide' (hO2.out.over hb3)
  rw [← hgse] at hO3 hgt ⊢
  clear hO2 hb3 hgs hgse
  go_wp2
  go_loopw [5] (fun p wr => ∃ j a b c : Nat, j ≤ PL.length ∧ j ≤ 20 ∧ p = .int .i64 (j : Int) ∧ Hid (OgS w gs gt a b c wr) ∧ Hid (a ≤ j * 4000000000000 ∧ b ≤ j * 4000000000000 ∧ c ≤ j * 4000000000000)) (fun p _ => ((20 : Int) - intOf p).toNat)
  case atStart => exact ⟨0, 0, 0, 0, Nat.zero_le _, Nat.zero_le _, rfl, hO3, ⟨Nat.zero_le _, Nat.zero_le _, Nat.zero_le _⟩⟩
  case round =>
    clear hO3
    obtain ⟨j, a, b, c, hj, hj1, rfl, hO, hle⟩ := hrel
    by_cases hlt : j < PL.length
    · have hlt' : (j : Int) < (PL.length : Int) := by omega
      by_cases hlt2 : j < 20
      · have hlt2' : (j : Int) < 20 := by omega
        have hj0 : ¬ (j : Int) < 0 := by omega
        obtain ⟨P, hPe⟩ : ∃ x, PL[j]? = some x := ⟨_, List.getElem?_eq_getElem hlt⟩
        obtain ⟨g0, o, wv, fv, rv, hop, hc0, hPV0⟩ : ∃ g o wv fv rv, op = some ⟨g, o, none⟩ ∧ (w.cell? ⟨g, o + j * 4, none⟩ = some (.int .i64 P.users) ∧ w.cell? ⟨g, o + j * 4 + 1, none⟩ = some wv ∧ w.cell? ⟨g, o + j * 4 + 2, none⟩ = some fv ∧ w.cell? ⟨g, o + j * 4 + 3, none⟩ = some rv) ∧ PbV w P wv fv rv := by
          obtain ⟨oa, cap, e, hc⟩ := hp'.out
          obtain ⟨g, o, wv, fv, rv, e1, e2, e3⟩ := hc j P hPe
          injection e with e4
          exact ⟨g, o, wv, fv, rv, e4.trans e1, e2, e3⟩
        subst hop
        obtain ⟨d0, d1, d2, d3⟩ := hc0
        have q0 := M.cell_over d0 hO.out.be
        have q1 := M.cell_over d1 hO.out.be
        have q2 := M.cell_over d2 hO.out.be
        have q3 := M.cell_over d3 hO.out.be
        have K0 := hide' (cutC P wv fv rv wr (hPV0.below hO.out.be))
        have hk := hide' (cutP_ok (hpb'.out P (List.mem_of_getElem? hPe)))
        have hQb : Hid (∀ V (a b c : Value), PbV V (cutP P) a b c → Calls Tryd.prog 6 #[pbV (cutP P) a b c] V fun e w' => ∃ va vb vc, e = .returned (pbV (cutP P) va vb vc) ∧ Hid (PbV w' (cutP P) va vb vc) ∧ Hid (Below V.heap.size V w') ∧ Hid (∀ ad n c, va = .slice (some ad) n c → V.heap.size ≤ ad.block ∧ ad.block < w'.heap.size)) := fun V a b c hq => cutD P a b c V hq
        obtain ⟨xw, yw, xf, yf, xr, yr, rfl, rfl, rfl⟩ := hPV0.shape
        unfold pbV at K0 hQb
        clear d0 d1 d2 d3 hPV0 hPe hp' hpb'
        generalize cutP P = Q at *
        go_wp2_with fail
        refine K0.out.mono ?_
        rintro e w5 ⟨qw, qf, qr, rfl, hq5, hb5, ho5⟩
        obtain ⟨ow, cw, of, cf, or, cr, rfl, rfl, rfl⟩ := hq5.out.shape
        have hO5 := hide' (hO.out.over hb5.out)
        have hgl := hO.out.gg.lt
        have hne : Hid (∀ ad n c, Value.slice ow Q.who.length cw = .slice (some ad) n c → ad.block ≠ gs) := fun ad n c e => by have := (ho5.out ad n c e).1; omega
        have hgp : Hid (w5.heap.size ≠ gs) := by have := hb5.out.size; show _ ≠ _; omega
        have hS0 : Hid (SgS w Q (.slice ow Q.who.length cw) (.slice of Q.fixed.length cf) (.slice or Q.rules.length cr) w5.heap.size gs gt a b c (w5.alloc (.cells #[.int .i64 Q.users, .slice ow Q.who.length cw, .slice of Q.fixed.length cf, .slice or Q.rules.length cr] 26))) := by
          have hn := (Below.refl w5.heap.size w5).alloc (Nat.le_refl _) (.cells #[.int .i64 Q.users, .slice ow Q.who.length cw, .slice of Q.fixed.length cf, .slice or Q.rules.length cr] 26)
          have hO6 := hO5.out.over hn
          exact ⟨⟨heap_new w5 _, hq5.out.below hn, hO6.gg, hO6.tab, hO6.be⟩, hO6.gt⟩
        clear K0 q0 q1 q2 q3 hq5 hb5 ho5 hO5 hO hgl
        have K1 : Hid (∀ V a b c, SgS w Q (.slice ow Q.who.length cw) (.slice of Q.fixed.length cf) (.slice or Q.rules.length cr) w5.heap.size gs gt a b c V → Calls Tryd.prog 6 #[.agg #[.int .i64 Q.users, .slice ow Q.who.length cw, .slice of Q.fixed.length cf, .slice or Q.rules.length cr]] V fun e w' => ∃ va vb vc, e = .returned (.agg #[.int .i64 Q.users, va, vb, vc]) ∧ Hid (PbV w' Q va vb vc) ∧ Hid (Below V.heap.size V w') ∧ Hid (∀ ad n c, va = .slice (some ad) n c → V.heap.size ≤ ad.block ∧ ad.block < w'.heap.size)) := fun V a b c hV => hQb.out V _ _ _ hV.sv.pv
        have K3 : Hid (∀ V a b c, SgS w Q (.slice ow Q.who.length cw) (.slice of Q.fixed.length cf) (.slice or Q.rules.length cr) w5.heap.size gs gt a b c V → Calls Tryd.prog 11 #[.agg #[.int .i64 Q.users, .slice ow Q.who.length cw, .slice of Q.fixed.length cf, .slice or Q.rules.length cr]] V fun e w' => e = .returned (.int .i64 (chkN Q : Int)) ∧ Below V.heap.size V w') := fun V a b c hV => rCheckF Q _ _ _ V hV.sv.pv hk.out
        have K6 : Hid (∀ V a b c va vb vc, SgS w Q (.slice ow Q.who.length cw) (.slice of Q.fixed.length cf) (.slice or Q.rules.length cr) w5.heap.size gs gt a b c V → PbV V Q va vb vc → a ≤ 200000000000000 → b ≤ 200000000000000 → c ≤ 200000000000000 → Calls Tryd.prog 10 #[.pointer (some ⟨gs, 0, none⟩), .agg #[.int .i64 Q.users, va, vb, vc]] V (CaP V Q gs a b c)) := fun V a b c va vb vc hV hq h1 h2 h3 => canF Q va vb vc gs a b c V hq hk.out hV.sv.gg hG.out hV.sv.tab (by omega) (by omega) (by omega)
        have K8 : Hid (∀ V a b c va vb vc, SgS w Q (.slice ow Q.who.length cw) (.slice of Q.fixed.length cf) (.slice or Q.rules.length cr) w5.heap.size gs gt a b c V → PbV V Q va vb vc → (∀ ad n c, va = .slice (some ad) n c → ad.block ≠ gs) → a ≤ 200000000000000 → b ≤ 200000000000000 → c ≤ 200000000000000 → Calls Tryd.prog 14 #[.pointer (some ⟨gs, 0, none⟩), .agg #[.int .i64 Q.users, va, vb, vc]] V fun e w' => ∃ v t a' b' c', e = .returned (.tuple #[v, .bool t]) ∧ Hid (GgAt w' gs a' b' c') ∧ Hid (GcB Q 2 a b c a' b' c') ∧ Hid (M.Fr2 V w' gs gs)) := fun V a b c va vb vc hV hq hn h1 h2 h3 => by
          refine (leastPF Q va vb vc gs a b c V hq hk.out hV.sv.gg hG.out hV.sv.tab hn (by omega) (by omega) (by omega)).mono ?_
          rintro e w' ⟨⟨a', b', c', k1, k2⟩, k3, ⟨rfl, _⟩ | ⟨v, l, rfl, _, _⟩⟩
          · exact ⟨_, _, a', b', c', rfl, k1, k2, k3⟩
          · exact ⟨_, _, a', b', c', rfl, k1, k2, k3⟩
        have KG : Hid (∀ V g a b c, GgAt V g a b c → Calls Tryd.prog 13 #[.pointer (some ⟨g, 0, none⟩)] V fun e w' => e = .returned (.agg #[.int .u64 (a : Int), .int .u64 (b : Int), .int .u64 (c : Int)]) ∧ Below V.heap.size V w') := fun V g a b c h => gaugeF g a b c V h
        have KS : Hid (∀ V (a b c : Nat), a + b + c < 18446744073709551616 → Calls Tryd.prog 15 #[.agg #[.int .u64 (a : Int), .int .u64 (b : Int), .int .u64 (c : Int)]] V fun e w' => e = .returned (.int .u64 ((a + b + c : Nat) : Int)) ∧ Below V.heap.size V w') := fun V a b c h => sumF a b c V h
        clear hk hQb
        have hgp' := hgp
        have q0 := hS0.out.sv.pb.all
        by_cases hC : chkN Q = 0
        · have hmo1 : mostG Q = W2.bd Q.who.length Q.users.toNat := by unfold mostG; rw [if_pos hC]
          obtain ⟨h12, hU0, hU, _⟩ := chkN_zero hC
          have KB : Hid (∀ V, Calls Tryd.prog 12 #[.int .i64 (Q.who.length : Int), .int .i64 Q.users] V fun e w' => e = .returned (.int .u64 ((mostG Q : Nat) : Int)) ∧ Below V.heap.size V w') := fun V => by
            have := W2.boundF Q.who.length Q.users.toNat h12 (by omega) V
            rw [← hmo1, Int.toNat_of_nonneg hU0] at this
            exact this
          have hmo0 : Hid (∀ x, x ≤ mostG Q → x ≤ mostG Q) := fun x h => h
          rw [hC] at K3
          clear hC hmo1 hU0 hU
          generalize hmq : mostG Q = mo at *
          go_wp2_with fail
          refine (K3.out _ _ _ _ hS0.out).mono ?_
          rintro e w7 ⟨rfl, hb7⟩
          have hS7 := hide' (hS0.out.over hb7)
          clear q0 hb7 hS0 K3
          generalize w5.heap.size = g at *
          have q := hS7.out.sv.pb.all
          go_wp2_with fail
          refine (KB.out _).mono ?_
          rintro e w8 ⟨rfl, hb8⟩
          have hS8 := hide' (hS7.out.over hb8)
          clear q hS7 hb8 KB
          go_wp2
          go_loopw [8] (fun p wr => ∃ k a1 b1 c1 : Nat, k ≤ 2 ∧ p = .int .i64 (k : Int) ∧ Hid (SgS w Q (.slice ow Q.who.length cw) (.slice of Q.fixed.length cf) (.slice or Q.rules.length cr) g gs gt a1 b1 c1 wr) ∧ Hid (a1 ≤ a + k * 2000000000000 ∧ b1 ≤ b + k * 2000000000000 ∧ c1 ≤ c + k * 2000000000000)) (fun p _ => ((2 : Int) - intOf p).toNat)
          case atStart => exact ⟨0, a, b, c, by omega, rfl, hS8, ⟨by omega, by omega, by omega⟩⟩
          case round =>
            clear hS8
            obtain ⟨k, a1, b1, c1, hk2, rfl, hSr, hl1⟩ := hrel
            by_cases hkl : k < 2
            · have hkl' : (k : Int) < 2 := by omega
              obtain ⟨f1, f2, f3⟩ := hle.out
              obtain ⟨f4, f5, f6⟩ := hl1.out
              have hA : a1 ≤ 100000000000000 := by omega
              have hBb : b1 ≤ 100000000000000 := by omega
              have hCc : c1 ≤ 100000000000000 := by omega
              go_wp2_with fail
              refine (KG.out _ _ _ _ _ hSr.out.sv.gg).mono ?_
              rintro e v1 ⟨rfl, hb1⟩
              have hS1 := hide' (hSr.out.over hb1)
              have hn1 : Hid (Below v1.heap.size v1 (v1.alloc (.cells #[.int .u64 (a1 : Int), .int .u64 (b1 : Int), .int .u64 (c1 : Int)] 40))) := (Below.refl _ v1).alloc (Nat.le_refl _) _
              have hS2 := hide' (hS1.out.over hn1.out)
              have hA2 : Hid (GaB (v1.alloc (.cells #[.int .u64 (a1 : Int), .int .u64 (b1 : Int), .int .u64 (c1 : Int)] 40)) v1.heap.size a1 b1 c1) := GaB.new v1 a1 b1 c1
              have hga : Hid (v1.heap.size ≠ gs) := by have := hS1.out.sv.gg.lt; show _ ≠ _; omega
              have q := hS2.out.sv.pb.all
              have hgl := hide' hS2.out.sv.gg.lt
              clear hSr hb1 hS1 hn1 f1 f2 f3
              by_cases hk0 : k = 0
              · subst hk0
                go_upto_region 17 with fail
                generalize v1.heap.size = ga at *
                generalize v1.alloc (.cells #[.int .u64 (a1 : Int), .int .u64 (b1 : Int), .int .u64 (c1 : Int)] 40) = v2 at *
                go_wp2_with fail
                refine (K1.out _ _ _ _ hS2.out).mono ?_
                rintro e v3 ⟨va, vb, vc, rfl, hq3, hb3, _⟩
                have hS3 := hide' (hS2.out.over hb3.out)
                have hA3 := hide' (hA2.out.below hb3.out)
                clear q hb3 hS2 hA2
                go_wp2_with fail
                refine (K6.out _ _ _ _ _ _ _ hS3.out hq3.out (by omega) (by omega) (by omega)).mono ?_
                rintro e v4 ⟨rfl, a2, b2, c2, hg4, hGc, hf4⟩
                have hS4 := hide' (hS3.out.fr hf4.out hg4.out hgs'.out hne.out hgp.out hgt.out hG.out)
                have hA4 := hide' (hA3.out.fr hf4.out hga.out)
                clear hS3 hA3 hq3 hg4 hf4 hga hgl
                obtain ⟨m1, m2, m3, m4, m5, m6, m7⟩ := gc_sum (by decide) hGc.out
                have hmo := hmo0.out _ (hmq ▸ m7)
                have n1 : decide (a2 < a1) = false := decide_eq_false (by omega)
                have n2 : decide (b2 < b1) = false := decide_eq_false (by omega)
                have n3 : decide (c2 < c1) = false := decide_eq_false (by omega)
                obtain ⟨sa, hsa⟩ : ∃ sa, sa = a1 + b1 + c1 := ⟨_, rfl⟩
                obtain ⟨sb, hsb⟩ : ∃ sb, sb = a2 + b2 + c2 := ⟨_, rfl⟩
                have hss : sa ≤ sb := by omega
                have hs64 : sb < 10000000000000000 := by omega
                obtain ⟨dd, hdd⟩ : ∃ dd : Nat, dd = sb - sa := ⟨_, rfl⟩
                have hwr : IntKind.u64.wrap ((sb : Int) - (sa : Int)) = (dd : Int) := by rw [IntKind.wrap_u64]; omega
                have hgt1 : ¬ ((mo : Int) < (dd : Int)) := by omega
                have hgt2 : ¬ (mo < dd) := by omega
                have hgt3 : decide (mo < dd) = false := decide_eq_false hgt2
                clear hdd
                have hl2 : Hid (a2 ≤ a + (0 + 1) * 2000000000000 ∧ b2 ≤ b + (0 + 1) * 2000000000000 ∧ c2 ≤ c + (0 + 1) * 2000000000000) := ⟨by omega, by omega, by omega⟩
                have KSa : Hid (∀ V, Calls Tryd.prog 15 #[.agg #[.int .u64 (a1 : Int), .int .u64 (b1 : Int), .int .u64 (c1 : Int)]] V fun e w' => e = .returned (.int .u64 (sa : Int)) ∧ Below V.heap.size V w') := fun V => by
                  have := KS.out V a1 b1 c1 (by omega)
                  rw [← hsa] at this
                  exact this
                have KSb : Hid (∀ V, Calls Tryd.prog 15 #[.agg #[.int .u64 (a2 : Int), .int .u64 (b2 : Int), .int .u64 (c2 : Int)]] V fun e w' => e = .returned (.int .u64 (sb : Int)) ∧ Below V.heap.size V w') := fun V => by
                  have := KS.out V a2 b2 c2 (by omega)
                  rw [← hsb] at this
                  exact this
                clear m1 m2 m3 m4 m5 m6 m7 hmo hsa hsb hGc hl1
                go_wp2_with fail
                refine (KG.out _ _ _ _ _ hS4.out.sv.gg).mono ?_
                rintro e v5 ⟨rfl, hb5⟩
                have hS5 := hide' (hS4.out.over hb5)
                have hA5 := hide' (hA4.out.below hb5)
                have hn6 : Hid (Below v5.heap.size v5 (v5.alloc (.cells #[.int .u64 (a2 : Int), .int .u64 (b2 : Int), .int .u64 (c2 : Int)] 40))) := (Below.refl _ v5).alloc (Nat.le_refl _) _
                have hS6 := hide' (hS5.out.over (hn6.out.drew))
                have hA6 := hide' (hA5.out.below (hn6.out.drew))
                have hB6 : Hid (GaB (v5.alloc (.cells #[.int .u64 (a2 : Int), .int .u64 (b2 : Int), .int .u64 (c2 : Int)] 40)).drew v5.heap.size a2 b2 c2) := GaB.new v5 a2 b2 c2
                clear hS4 hA4 hb5 hS5 hA5 hn6 K1 K6 K8 KG KS
                go_wp2
                generalize v5.heap.size = gb at *
                generalize v5.alloc (.cells #[.int .u64 (a2 : Int), .int .u64 (b2 : Int), .int .u64 (c2 : Int)] 40) = v6 at *
                go_region_held3 (fun V => (V.cell? ⟨gb, 0, none⟩ = some (.int .u64 (a2 : Int)) ∧ V.cell? ⟨gb, 1, none⟩ = some (.int .u64 (b2 : Int)) ∧ V.cell? ⟨gb, 2, none⟩ = some (.int .u64 (c2 : Int))) ∧ (V.cell? ⟨ga, 0, none⟩ = some (.int .u64 (a1 : Int)) ∧ V.cell? ⟨ga, 1, none⟩ = some (.int .u64 (b1 : Int)) ∧ V.cell? ⟨ga, 2, none⟩ = some (.int .u64 (c1 : Int)))) (first | (exact ⟨hB8.out.all, hA8.out.all⟩) | (exact ⟨hB7.out.all, hA7.out.all⟩) | (exact ⟨hB6.out.all, hA6.out.all⟩)) (first | (go_at_call 15; have hS8 := hide' (hS7.out.over (Below.refl _ _)); refine (KSa.out _).mono ?_; rintro e v8 ⟨rfl, hb8⟩; clear hS8; have hS8 := hide' (hS7.out.over hb8); have hA8 := hide' (hA7.out.below hb8); have hB8 := hide' (hB7.out.below hb8)) | (go_at_call 15; refine (KSb.out _).mono ?_; rintro e v7 ⟨rfl, hb7⟩; have hS7 := hide' (hS6.out.over hb7); have hA7 := hide' (hA6.out.below hb7); have hB7 := hide' (hB6.out.below hb7)))
                all_goals
                  clear KSa KSb hA6 hA7 hA8 hB6 hB7 hB8 hS6 hS7
                  go_wp2
                  exact ⟨⟨0 + 1, a2, b2, c2, by omega, by go_num, hS8, hl2⟩, by simp [intOf]⟩
              · obtain rfl : k = 1 := by omega
                go_upto_region 18 with fail
                generalize v1.heap.size = ga at *
                generalize v1.alloc (.cells #[.int .u64 (a1 : Int), .int .u64 (b1 : Int), .int .u64 (c1 : Int)] 40) = v2 at *
                go_wp2_with fail
                refine (K1.out _ _ _ _ hS2.out).mono ?_
                rintro e v3 ⟨va, vb, vc, rfl, hq3, hb3, ho3⟩
                have hS3 := hide' (hS2.out.over hb3.out)
                have hA3 := hide' (hA2.out.below hb3.out)
                have hn3 : Hid (∀ ad n c, va = .slice (some ad) n c → ad.block ≠ gs) := fun ad n c e => by have := (ho3.out ad n c e).1; have := hgl.out; omega
                clear q hb3 hS2 hA2
                go_wp2_with fail
                refine (K8.out _ _ _ _ _ _ _ hS3.out hq3.out hn3.out (by omega) (by omega) (by omega)).mono ?_
                rintro e v4 ⟨lv, tt, a2, b2, c2, rfl, hg4, hGc, hf4⟩
                have hS4 := hide' (hS3.out.fr hf4.out hg4.out hgs'.out hne.out hgp.out hgt.out hG.out)
                have hA4 := hide' (hA3.out.fr hf4.out hga.out)
                clear hS3 hA3 hq3 hg4 hf4 hga hgl hn3 ho3
                obtain ⟨m1, m2, m3, m4, m5, m6, m7⟩ := gc_sum (by decide) hGc.out
                have hmo := hmo0.out _ (hmq ▸ m7)
                have n1 : decide (a2 < a1) = false := decide_eq_false (by omega)
                have n2 : decide (b2 < b1) = false := decide_eq_false (by omega)
                have n3 : decide (c2 < c1) = false := decide_eq_false (by omega)
                obtain ⟨sa, hsa⟩ : ∃ sa, sa = a1 + b1 + c1 := ⟨_, rfl⟩
                obtain ⟨sb, hsb⟩ : ∃ sb, sb = a2 + b2 + c2 := ⟨_, rfl⟩
                have hss : sa ≤ sb := by omega
                have hs64 : sb < 10000000000000000 := by omega
                obtain ⟨dd, hdd⟩ : ∃ dd : Nat, dd = sb - sa := ⟨_, rfl⟩
                have hwr : IntKind.u64.wrap ((sb : Int) - (sa : Int)) = (dd : Int) := by rw [IntKind.wrap_u64]; omega
                have hgt1 : ¬ ((mo : Int) < (dd : Int)) := by omega
                have hgt2 : ¬ (mo < dd) := by omega
                have hgt3 : decide (mo < dd) = false := decide_eq_false hgt2
                clear hdd
                have hl2 : Hid (a2 ≤ a + (1 + 1) * 2000000000000 ∧ b2 ≤ b + (1 + 1) * 2000000000000 ∧ c2 ≤ c + (1 + 1) * 2000000000000) := ⟨by omega, by omega, by omega⟩
                have KSa : Hid (∀ V, Calls Tryd.prog 15 #[.agg #[.int .u64 (a1 : Int), .int .u64 (b1 : Int), .int .u64 (c1 : Int)]] V fun e w' => e = .returned (.int .u64 (sa : Int)) ∧ Below V.heap.size V w') := fun V => by
                  have := KS.out V a1 b1 c1 (by omega)
                  rw [← hsa] at this
                  exact this
                have KSb : Hid (∀ V, Calls Tryd.prog 15 #[.agg #[.int .u64 (a2 : Int), .int .u64 (b2 : Int), .int .u64 (c2 : Int)]] V fun e w' => e = .returned (.int .u64 (sb : Int)) ∧ Below V.heap.size V w') := fun V => by
                  have := KS.out V a2 b2 c2 (by omega)
                  rw [← hsb] at this
                  exact this
                clear m1 m2 m3 m4 m5 m6 m7 hmo hsa hsb hGc hl1
                go_wp2_with fail
                refine (KG.out _ _ _ _ _ hS4.out.sv.gg).mono ?_
                rintro e v5 ⟨rfl, hb5⟩
                have hS5 := hide' (hS4.out.over hb5)
                have hA5 := hide' (hA4.out.below hb5)
                have hn6 : Hid (Below v5.heap.size v5 (v5.alloc (.cells #[.int .u64 (a2 : Int), .int .u64 (b2 : Int), .int .u64 (c2 : Int)] 40))) := (Below.refl _ v5).alloc (Nat.le_refl _) _
                have hS6 := hide' (hS5.out.over (hn6.out.drew))
                have hA6 := hide' (hA5.out.below (hn6.out.drew))
                have hB6 : Hid (GaB (v5.alloc (.cells #[.int .u64 (a2 : Int), .int .u64 (b2 : Int), .int .u64 (c2 : Int)] 40)).drew v5.heap.size a2 b2 c2) := GaB.new v5 a2 b2 c2
                clear hS4 hA4 hb5 hS5 hA5 hn6 K1 K6 K8 KG KS
                go_wp2
                generalize v5.heap.size = gb at *
                generalize v5.alloc (.cells #[.int .u64 (a2 : Int), .int .u64 (b2 : Int), .int .u64 (c2 : Int)] 40) = v6 at *
                go_region_held3 (fun V => (V.cell? ⟨gb, 0, none⟩ = some (.int .u64 (a2 : Int)) ∧ V.cell? ⟨gb, 1, none⟩ = some (.int .u64 (b2 : Int)) ∧ V.cell? ⟨gb, 2, none⟩ = some (.int .u64 (c2 : Int))) ∧ (V.cell? ⟨ga, 0, none⟩ = some (.int .u64 (a1 : Int)) ∧ V.cell? ⟨ga, 1, none⟩ = some (.int .u64 (b1 : Int)) ∧ V.cell? ⟨ga, 2, none⟩ = some (.int .u64 (c1 : Int)))) (first | (exact ⟨hB8.out.all, hA8.out.all⟩) | (exact ⟨hB7.out.all, hA7.out.all⟩) | (exact ⟨hB6.out.all, hA6.out.all⟩)) (first | (go_at_call 15; have hS8 := hide' (hS7.out.over (Below.refl _ _)); refine (KSa.out _).mono ?_; rintro e v8 ⟨rfl, hb8⟩; clear hS8; have hS8 := hide' (hS7.out.over hb8); have hA8 := hide' (hA7.out.below hb8); have hB8 := hide' (hB7.out.below hb8)) | (go_at_call 15; refine (KSb.out _).mono ?_; rintro e v7 ⟨rfl, hb7⟩; have hS7 := hide' (hS6.out.over hb7); have hA7 := hide' (hA6.out.below hb7); have hB7 := hide' (hB6.out.below hb7)))
                all_goals
                  clear KSa KSb hA6 hA7 hA8 hB6 hB7 hB8 hS6 hS7
                  go_wp2
                  exact ⟨⟨1 + 1, a2, b2, c2, by omega, by go_num, hS8, hl2⟩, by simp [intOf]⟩
            · obtain rfl : k = 2 := by omega
              have hle2 : Hid (a1 ≤ (j + 1) * 4000000000000 ∧ b1 ≤ (j + 1) * 4000000000000 ∧ c1 ≤ (j + 1) * 4000000000000) := by
                obtain ⟨f1, f2, f3⟩ := hle.out
                obtain ⟨f4, f5, f6⟩ := hl1.out
                exact ⟨by omega, by omega, by omega⟩
              have hO9 : Hid (OgS w gs gt a1 b1 c1 wr) := ⟨hSr.out.sv.gg, hSr.out.gt, hSr.out.sv.tab, hSr.out.sv.be⟩
              clear K1 K6 K8 KG KS hSr hle hl1
              go_wp2
              exact ⟨⟨j + 1, a1, b1, c1, by omega, by omega, by go_num, hO9, hle2⟩, by simp [intOf]; omega⟩
        · have hmo1 : mostG Q = 0 := by unfold mostG; rw [if_neg hC]
          have hmo0 : Hid (∀ x, x ≤ mostG Q → x ≤ 0) := fun x h => by rw [hmo1] at h; exact h
          have hne0 : ((chkN Q : Int) == 0) = false := by rw [beq_eq_false_iff_ne]; omega
          clear hC hmo1
          generalize chkN Q = kk at K3 hne0
          go_wp2_with fail
          refine (K3.out _ _ _ _ hS0.out).mono ?_
          rintro e w7 ⟨rfl, hb7⟩
          have hS8 := hide' (hS0.out.over hb7)
          clear q0 hb7 hS0 K3
          generalize w5.heap.size = g at *
          go_wp2
          go_loopw [8] (fun p wr => ∃ k a1 b1 c1 : Nat, k ≤ 2 ∧ p = .int .i64 (k : Int) ∧ Hid (SgS w Q (.slice ow Q.who.length cw) (.slice of Q.fixed.length cf) (.slice or Q.rules.length cr) g gs gt a1 b1 c1 wr) ∧ Hid (a1 ≤ a + k * 2000000000000 ∧ b1 ≤ b + k * 2000000000000 ∧ c1 ≤ c + k * 2000000000000)) (fun p _ => ((2 : Int) - intOf p).toNat)
          case atStart => exact ⟨0, a, b, c, by omega, rfl, hS8, ⟨by omega, by omega, by omega⟩⟩
          case round =>
            clear hS8
            obtain ⟨k, a1, b1, c1, hk2, rfl, hSr, hl1⟩ := hrel
            by_cases hkl : k < 2
            · have hkl' : (k : Int) < 2 := by omega
              obtain ⟨f1, f2, f3⟩ := hle.out
              obtain ⟨f4, f5, f6⟩ := hl1.out
              have hA : a1 ≤ 100000000000000 := by omega
              have hBb : b1 ≤ 100000000000000 := by omega
              have hCc : c1 ≤ 100000000000000 := by omega
              go_wp2_with fail
              refine (KG.out _ _ _ _ _ hSr.out.sv.gg).mono ?_
              rintro e v1 ⟨rfl, hb1⟩
              have hS1 := hide' (hSr.out.over hb1)
              have hn1 : Hid (Below v1.heap.size v1 (v1.alloc (.cells #[.int .u64 (a1 : Int), .int .u64 (b1 : Int), .int .u64 (c1 : Int)] 40))) := (Below.refl _ v1).alloc (Nat.le_refl _) _
              have hS2 := hide' (hS1.out.over hn1.out)
              have hA2 : Hid (GaB (v1.alloc (.cells #[.int .u64 (a1 : Int), .int .u64 (b1 : Int), .int .u64 (c1 : Int)] 40)) v1.heap.size a1 b1 c1) := GaB.new v1 a1 b1 c1
              have hga : Hid (v1.heap.size ≠ gs) := by have := hS1.out.sv.gg.lt; show _ ≠ _; omega
              have q := hS2.out.sv.pb.all
              have hgl := hide' hS2.out.sv.gg.lt
              clear hSr hb1 hS1 hn1 f1 f2 f3
              by_cases hk0 : k = 0
              · subst hk0
                go_upto_region 17 with fail
                generalize v1.heap.size = ga at *
                generalize v1.alloc (.cells #[.int .u64 (a1 : Int), .int .u64 (b1 : Int), .int .u64 (c1 : Int)] 40) = v2 at *
                go_wp2_with fail
                refine (K1.out _ _ _ _ hS2.out).mono ?_
                rintro e v3 ⟨va, vb, vc, rfl, hq3, hb3, _⟩
                have hS3 := hide' (hS2.out.over hb3.out)
                have hA3 := hide' (hA2.out.below hb3.out)
                clear q hb3 hS2 hA2
                go_wp2_with fail
                refine (K6.out _ _ _ _ _ _ _ hS3.out hq3.out (by omega) (by omega) (by omega)).mono ?_
                rintro e v4 ⟨rfl, a2, b2, c2, hg4, hGc, hf4⟩
                have hS4 := hide' (hS3.out.fr hf4.out hg4.out hgs'.out hne.out hgp.out hgt.out hG.out)
                have hA4 := hide' (hA3.out.fr hf4.out hga.out)
                clear hS3 hA3 hq3 hg4 hf4 hga hgl
                obtain ⟨m1, m2, m3, m4, m5, m6, m7⟩ := gc_sum (by decide) hGc.out
                have hmo := hmo0.out _ m7
                have n1 : decide (a2 < a1) = false := decide_eq_false (by omega)
                have n2 : decide (b2 < b1) = false := decide_eq_false (by omega)
                have n3 : decide (c2 < c1) = false := decide_eq_false (by omega)
                obtain ⟨sa, hsa⟩ : ∃ sa, sa = a1 + b1 + c1 := ⟨_, rfl⟩
                obtain ⟨sb, hsb⟩ : ∃ sb, sb = a2 + b2 + c2 := ⟨_, rfl⟩
                have hss : sa ≤ sb := by omega
                have hs64 : sb < 10000000000000000 := by omega
                have hwr : IntKind.u64.wrap ((sb : Int) - (sa : Int)) = 0 := by rw [IntKind.wrap_u64]; omega
                have hl2 : Hid (a2 ≤ a + (0 + 1) * 2000000000000 ∧ b2 ≤ b + (0 + 1) * 2000000000000 ∧ c2 ≤ c + (0 + 1) * 2000000000000) := ⟨by omega, by omega, by omega⟩
                have KSa : Hid (∀ V, Calls Tryd.prog 15 #[.agg #[.int .u64 (a1 : Int), .int .u64 (b1 : Int), .int .u64 (c1 : Int)]] V fun e w' => e = .returned (.int .u64 (sa : Int)) ∧ Below V.heap.size V w') := fun V => by
                  have := KS.out V a1 b1 c1 (by omega)
                  rw [← hsa] at this
                  exact this
                have KSb : Hid (∀ V, Calls Tryd.prog 15 #[.agg #[.int .u64 (a2 : Int), .int .u64 (b2 : Int), .int .u64 (c2 : Int)]] V fun e w' => e = .returned (.int .u64 (sb : Int)) ∧ Below V.heap.size V w') := fun V => by
                  have := KS.out V a2 b2 c2 (by omega)
                  rw [← hsb] at this
                  exact this
                clear m1 m2 m3 m4 m5 m6 m7 hmo hsa hsb hGc hl1
                go_wp2_with fail
                refine (KG.out _ _ _ _ _ hS4.out.sv.gg).mono ?_
                rintro e v5 ⟨rfl, hb5⟩
                have hS5 := hide' (hS4.out.over hb5)
                have hA5 := hide' (hA4.out.below hb5)
                have hn6 : Hid (Below v5.heap.size v5 (v5.alloc (.cells #[.int .u64 (a2 : Int), .int .u64 (b2 : Int), .int .u64 (c2 : Int)] 40))) := (Below.refl _ v5).alloc (Nat.le_refl _) _
                have hS6 := hide' (hS5.out.over (hn6.out.drew))
                have hA6 := hide' (hA5.out.below (hn6.out.drew))
                have hB6 : Hid (GaB (v5.alloc (.cells #[.int .u64 (a2 : Int), .int .u64 (b2 : Int), .int .u64 (c2 : Int)] 40)).drew v5.heap.size a2 b2 c2) := GaB.new v5 a2 b2 c2
                clear hS4 hA4 hb5 hS5 hA5 hn6 K1 K6 K8 KG KS
                go_wp2
                generalize v5.heap.size = gb at *
                generalize v5.alloc (.cells #[.int .u64 (a2 : Int), .int .u64 (b2 : Int), .int .u64 (c2 : Int)] 40) = v6 at *
                go_region_held3 (fun V => (V.cell? ⟨gb, 0, none⟩ = some (.int .u64 (a2 : Int)) ∧ V.cell? ⟨gb, 1, none⟩ = some (.int .u64 (b2 : Int)) ∧ V.cell? ⟨gb, 2, none⟩ = some (.int .u64 (c2 : Int))) ∧ (V.cell? ⟨ga, 0, none⟩ = some (.int .u64 (a1 : Int)) ∧ V.cell? ⟨ga, 1, none⟩ = some (.int .u64 (b1 : Int)) ∧ V.cell? ⟨ga, 2, none⟩ = some (.int .u64 (c1 : Int)))) (first | (exact ⟨hB8.out.all, hA8.out.all⟩) | (exact ⟨hB7.out.all, hA7.out.all⟩) | (exact ⟨hB6.out.all, hA6.out.all⟩)) (first | (go_at_call 15; have hS8 := hide' (hS7.out.over (Below.refl _ _)); refine (KSa.out _).mono ?_; rintro e v8 ⟨rfl, hb8⟩; clear hS8; have hS8 := hide' (hS7.out.over hb8); have hA8 := hide' (hA7.out.below hb8); have hB8 := hide' (hB7.out.below hb8)) | (go_at_call 15; refine (KSb.out _).mono ?_; rintro e v7 ⟨rfl, hb7⟩; have hS7 := hide' (hS6.out.over hb7); have hA7 := hide' (hA6.out.below hb7); have hB7 := hide' (hB6.out.below hb7)))
                all_goals
                  clear KSa KSb hA6 hA7 hA8 hB6 hB7 hB8 hS6 hS7
                  go_wp2
                  exact ⟨⟨0 + 1, a2, b2, c2, by omega, by go_num, hS8, hl2⟩, by simp [intOf]⟩
              · obtain rfl : k = 1 := by omega
                go_upto_region 18 with fail
                generalize v1.heap.size = ga at *
                generalize v1.alloc (.cells #[.int .u64 (a1 : Int), .int .u64 (b1 : Int), .int .u64 (c1 : Int)] 40) = v2 at *
                go_wp2_with fail
                refine (K1.out _ _ _ _ hS2.out).mono ?_
                rintro e v3 ⟨va, vb, vc, rfl, hq3, hb3, ho3⟩
                have hS3 := hide' (hS2.out.over hb3.out)
                have hA3 := hide' (hA2.out.below hb3.out)
                have hn3 : Hid (∀ ad n c, va = .slice (some ad) n c → ad.block ≠ gs) := fun ad n c e => by have := (ho3.out ad n c e).1; have := hgl.out; omega
                clear q hb3 hS2 hA2
                go_wp2_with fail
                refine (K8.out _ _ _ _ _ _ _ hS3.out hq3.out hn3.out (by omega) (by omega) (by omega)).mono ?_
                rintro e v4 ⟨lv, tt, a2, b2, c2, rfl, hg4, hGc, hf4⟩
                have hS4 := hide' (hS3.out.fr hf4.out hg4.out hgs'.out hne.out hgp.out hgt.out hG.out)
                have hA4 := hide' (hA3.out.fr hf4.out hga.out)
                clear hS3 hA3 hq3 hg4 hf4 hga hgl hn3 ho3
                obtain ⟨m1, m2, m3, m4, m5, m6, m7⟩ := gc_sum (by decide) hGc.out
                have hmo := hmo0.out _ m7
                have n1 : decide (a2 < a1) = false := decide_eq_false (by omega)
                have n2 : decide (b2 < b1) = false := decide_eq_false (by omega)
                have n3 : decide (c2 < c1) = false := decide_eq_false (by omega)
                obtain ⟨sa, hsa⟩ : ∃ sa, sa = a1 + b1 + c1 := ⟨_, rfl⟩
                obtain ⟨sb, hsb⟩ : ∃ sb, sb = a2 + b2 + c2 := ⟨_, rfl⟩
                have hss : sa ≤ sb := by omega
                have hs64 : sb < 10000000000000000 := by omega
                have hwr : IntKind.u64.wrap ((sb : Int) - (sa : Int)) = 0 := by rw [IntKind.wrap_u64]; omega
                have hl2 : Hid (a2 ≤ a + (1 + 1) * 2000000000000 ∧ b2 ≤ b + (1 + 1) * 2000000000000 ∧ c2 ≤ c + (1 + 1) * 2000000000000) := ⟨by omega, by omega, by omega⟩
                have KSa : Hid (∀ V, Calls Tryd.prog 15 #[.agg #[.int .u64 (a1 : Int), .int .u64 (b1 : Int), .int .u64 (c1 : Int)]] V fun e w' => e = .returned (.int .u64 (sa : Int)) ∧ Below V.heap.size V w') := fun V => by
                  have := KS.out V a1 b1 c1 (by omega)
                  rw [← hsa] at this
                  exact this
                have KSb : Hid (∀ V, Calls Tryd.prog 15 #[.agg #[.int .u64 (a2 : Int), .int .u64 (b2 : Int), .int .u64 (c2 : Int)]] V fun e w' => e = .returned (.int .u64 (sb : Int)) ∧ Below V.heap.size V w') := fun V => by
                  have := KS.out V a2 b2 c2 (by omega)
                  rw [← hsb] at this
                  exact this
                clear m1 m2 m3 m4 m5 m6 m7 hmo hsa hsb hGc hl1
                go_wp2_with fail
                refine (KG.out _ _ _ _ _ hS4.out.sv.gg).mono ?_
                rintro e v5 ⟨rfl, hb5⟩
                have hS5 := hide' (hS4.out.over hb5)
                have hA5 := hide' (hA4.out.below hb5)
                have hn6 : Hid (Below v5.heap.size v5 (v5.alloc (.cells #[.int .u64 (a2 : Int), .int .u64 (b2 : Int), .int .u64 (c2 : Int)] 40))) := (Below.refl _ v5).alloc (Nat.le_refl _) _
                have hS6 := hide' (hS5.out.over (hn6.out.drew))
                have hA6 := hide' (hA5.out.below (hn6.out.drew))
                have hB6 : Hid (GaB (v5.alloc (.cells #[.int .u64 (a2 : Int), .int .u64 (b2 : Int), .int .u64 (c2 : Int)] 40)).drew v5.heap.size a2 b2 c2) := GaB.new v5 a2 b2 c2
                clear hS4 hA4 hb5 hS5 hA5 hn6 K1 K6 K8 KG KS
                go_wp2
                generalize v5.heap.size = gb at *
                generalize v5.alloc (.cells #[.int .u64 (a2 : Int), .int .u64 (b2 : Int), .int .u64 (c2 : Int)] 40) = v6 at *
                go_region_held3 (fun V => (V.cell? ⟨gb, 0, none⟩ = some (.int .u64 (a2 : Int)) ∧ V.cell? ⟨gb, 1, none⟩ = some (.int .u64 (b2 : Int)) ∧ V.cell? ⟨gb, 2, none⟩ = some (.int .u64 (c2 : Int))) ∧ (V.cell? ⟨ga, 0, none⟩ = some (.int .u64 (a1 : Int)) ∧ V.cell? ⟨ga, 1, none⟩ = some (.int .u64 (b1 : Int)) ∧ V.cell? ⟨ga, 2, none⟩ = some (.int .u64 (c1 : Int)))) (first | (exact ⟨hB8.out.all, hA8.out.all⟩) | (exact ⟨hB7.out.all, hA7.out.all⟩) | (exact ⟨hB6.out.all, hA6.out.all⟩)) (first | (go_at_call 15; have hS8 := hide' (hS7.out.over (Below.refl _ _)); refine (KSa.out _).mono ?_; rintro e v8 ⟨rfl, hb8⟩; clear hS8; have hS8 := hide' (hS7.out.over hb8); have hA8 := hide' (hA7.out.below hb8); have hB8 := hide' (hB7.out.below hb8)) | (go_at_call 15; refine (KSb.out _).mono ?_; rintro e v7 ⟨rfl, hb7⟩; have hS7 := hide' (hS6.out.over hb7); have hA7 := hide' (hA6.out.below hb7); have hB7 := hide' (hB6.out.below hb7)))
                all_goals
                  clear KSa KSb hA6 hA7 hA8 hB6 hB7 hB8 hS6 hS7
                  go_wp2
                  exact ⟨⟨1 + 1, a2, b2, c2, by omega, by go_num, hS8, hl2⟩, by simp [intOf]⟩
            · obtain rfl : k = 2 := by omega
              have hle2 : Hid (a1 ≤ (j + 1) * 4000000000000 ∧ b1 ≤ (j + 1) * 4000000000000 ∧ c1 ≤ (j + 1) * 4000000000000) := by
                obtain ⟨f1, f2, f3⟩ := hle.out
                obtain ⟨f4, f5, f6⟩ := hl1.out
                exact ⟨by omega, by omega, by omega⟩
              have hO9 : Hid (OgS w gs gt a1 b1 c1 wr) := ⟨hSr.out.sv.gg, hSr.out.gt, hSr.out.sv.tab, hSr.out.sv.be⟩
              clear K1 K6 K8 KG KS hSr hle hl1
              go_wp2
              exact ⟨⟨j + 1, a1, b1, c1, by omega, by omega, by go_num, hO9, hle2⟩, by simp [intOf]; omega⟩
      · obtain rfl : j = 20 := by omega
        clear hp' hpb'
        go_wp2_with fail
        refine (gaugeF _ _ _ _ _ hO.out.gt).mono ?_
        rintro e w9 ⟨rfl, hb9⟩
        have hO9 := hide' (hO.out.over hb9)
        go_wp2
        go_ret
        exact ⟨rfl, hO9.out.be⟩
    · obtain rfl : j = PL.length := by omega
      clear hp' hpb'
      go_wp2_with fail
      refine (gaugeF _ _ _ _ _ hO.out.gt).mono ?_
      rintro e w9 ⟨rfl, hb9⟩
      have hO9 := hide' (hO.out.over hb9)
      go_wp2
      go_ret
      exact ⟨rfl, hO9.out.be⟩
end Go.Proofs.YtckmffoeabhffabDoor.S

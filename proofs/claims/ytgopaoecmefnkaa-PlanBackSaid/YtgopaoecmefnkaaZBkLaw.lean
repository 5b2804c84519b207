/- PlanBack, walked. -/
import Derived.Test.YtgopaoecmefnkaaZLk
import Derived.Test.YtgopaoecmefnkaaZdC2
import Derived.Test.YtgopaoecmefnkaaZdF
import Derived.Test.YtgopaoecmefnkaaZdK
namespace Go.Proofs.Ytgopaoecmefnkaa.S
open Go.RowKit Go.Shelf
/-- What stands between the calls. -/
structure Bk (w : World) (Q : Pb) (qw qf qr lv : Value) (L : List Int) (av : Value) (R : List Nat) (g : Nat) (V : World) : Prop where
  b : PbB V g Q qw qf qr
  q : PbV V Q qw qf qr
  l : RowI V lv L
  r : RowC V av R
  be : Below w.heap.size w V
theorem Bk.over {w : World} {Q : Pb} {qw qf qr lv : Value} {L : List Int} {av : Value} {R : List Nat} {g : Nat} {V V' : World} (h : Bk w Q qw qf qr lv L av R g V) (hb : Below V.heap.size V V') : Bk w Q qw qf qr lv L av R g V' :=
  ⟨h.b.below hb, h.q.below hb, h.l.below hb (Nat.le_refl _), h.r.below hb (Nat.le_refl _), h.be.trans (hb.mono h.be.size)⟩
theorem be_mem {wd n : Nat} : ∀ b ∈ be wd n, b < 256 := fun b hb => by
  unfold be at hb
  obtain ⟨i, _, rfl⟩ := List.mem_map.1 hb
  exact Nat.mod_lt _ (by decide)
theorem certL_mem (P : Pb) (L : List Int) : ∀ b ∈ certL P L, b < 256 := fun b hb => by
  unfold certL hdB at hb
  simp only [List.mem_append] at hb
  rcases hb with ((((h | h) | h) | h) | h) | h
  · exact be_mem b h
  · exact be_mem b h
  · exact be_mem b h
  · unfold stsB at h
    obtain ⟨t, _, ht⟩ := List.mem_flatMap.1 h
    unfold stB at ht
    simp only [List.mem_append] at ht
    rcases ht with (q | q) | q <;> exact be_mem b q
  · exact be_mem b h
  · unfold rusB at h
    obtain ⟨r, _, hr⟩ := List.mem_flatMap.1 h
    unfold ruB spB at hr
    simp only [List.mem_append] at hr
    rcases hr with ((q | q) | q) | q
    · exact be_mem b q
    · exact be_mem b q
    · exact be_mem b q
    · obtain ⟨x, _, hx⟩ := List.mem_flatMap.1 q
      exact be_mem b hx
theorem certL_len {P : Pb} (hk : Pok P) (hr : P.rules.length ≤ 40) (hw : P.who.length ≤ 20) (L : List Int) : (certL P L).length ≤ 100000 := by
  have h1 := rusB_le hk.s
  unfold certL
  simp only [List.length_append, hdB_len, stsB_len, be_len]
  omega
/-- A problem that is one is not cut. -/
theorem cutP_small {P : Pb} (h : chkN P = 0) : cutP P = P := by
  obtain ⟨g12, g0, g64, g32, gF, gW, gR⟩ := chkN_zero h
  obtain ⟨gl, gx⟩ := fixB_of gF g64
  unfold cutP
  rw [List.take_of_length_le (by omega), List.take_of_length_le (by omega), List.take_of_length_le (by omega)]
  have : P.rules.map cutR = P.rules := by
    have e : ∀ r ∈ P.rules, cutR r = r := fun r hr => by
      have := (rule_small (List.all_eq_true.1 gR r hr)).2.2.2.2.2
      unfold cutR
      rw [List.take_of_length_le (by omega)]
    rw [List.map_congr_left e, List.map_id']
  rw [this]
/-- Read, of bytes in memory. -/
theorem readC {L : List Nat} {v : Value} {V w' : World} (hO : w'.ownsRow V.heap.size 5 1 v L.length (cellsB L)) (hb : ∀ b ∈ L, b < 256) (hl : L.length ≤ 100000) :
    ∃ oa cap, v = .slice oa L.length cap ∧ Calls Try.prog 16 #[.slice oa L.length cap] w' (ReP w' L) := by
  obtain ⟨oa, cap, e, h0, hc⟩ := RowC.of_owns hO
  subst e
  refine ⟨oa, cap, rfl, readF L oa cap w' ⟨oa, cap, rfl, hc⟩ hb h0.1 (fun ad e => ?_) hl⟩
  subst e
  exact (hO.lt ad.block rfl).2
theorem wrN_zero {Q : Pb} {L : List Int} (h : wrN Q L = 0) : holP Q L = true := by
  unfold wrN at h
  split at h
  · rename_i hc
    split at h
    · rename_i hh; exact hh
    · cases h
  · rename_i hc; exact absurd h hc
/-- What stands behind a certificate that was taken. -/
structure Bx (w : World) (X : Pb) (gx : Nat) (xa xb xc xp : Value) (M : List Int) (av : Value) (R : List Nat) (V : World) : Prop where
  pb : PbB V gx X xa xb xc
  pv : PbV V X xa xb xc
  pl : RowI V xp M
  r : RowC V av R
  be : Below w.heap.size w V
theorem Bx.over {w : World} {X : Pb} {gx : Nat} {xa xb xc xp : Value} {M : List Int} {av : Value} {R : List Nat} {V V' : World} (h : Bx w X gx xa xb xc xp M av R V) (hb : Below V.heap.size V V') : Bx w X gx xa xb xc xp M av R V' :=
  ⟨h.pb.below hb, h.pv.below hb, h.pl.below hb (Nat.le_refl _), h.r.below hb (Nat.le_refl _), h.be.trans (hb.mono h.be.size)⟩
set_option maxRecDepth 100000 in
set_option maxHeartbeats 16000000 in
theorem planBack_walk (P : Pb) (wv fv rv : Value) (L : List Int) (lv : Value) (R : List Nat) (av : Value) (w : World) (h : PbV w P wv fv rv) (hL : RowI w lv L) (hA : RowC w av R) (hb : ∀ z ∈ P.who, z < 18446744073709551616) (hRb : ∀ b ∈ R, b < 256) :
    Calls Try.prog 6 #[pbV P wv fv rv, lv, av] w fun e w' => e = .returned (.bool true) ∧ Below w.heap.size w w' := by
  have hB0 : Hid (Below w.heap.size w (w.alloc (.cells #[.int .i64 P.users, wv, fv, rv] 26))) := (Below.refl _ w).alloc (Nat.le_refl _) _
  have K0 := hide' (cutA P wv fv rv _ (h.below hB0.out))
  have hk := hide' (cutP_ok hb)
  have hL' := hide' hL
  have hA' := hide' hA
  have hQb : Hid (∀ V (a b c : Value), PbV V (cutP P) a b c → Calls Try.prog 7 #[pbV (cutP P) a b c] V fun e w' => ∃ va vb vc, e = .returned (pbV (cutP P) va vb vc) ∧ Hid (PbV w' (cutP P) va vb vc) ∧ Hid (Below V.heap.size V w')) := fun V a b c hq => cutB P a b c V hq
  have hQl : Hid ((cutP P).who.length ≤ 20 ∧ (cutP P).rules.length ≤ 40) := by
    refine ⟨?_, ?_⟩
    · show (P.who.take 20).length ≤ 20; rw [List.length_take]; omega
    · show ((P.rules.take 40).map cutR).length ≤ 40; rw [List.length_map, List.length_take]; omega
  clear h hL hb hA
  unfold pbV at K0 hQb ⊢
  generalize cutP P = Q at *
  go_enter Try.func6, Try.ntmps6
  go_wp2_with fail
  refine K0.out.mono ?_
  rintro e w1 ⟨qw, qf, qr, rfl, hq1, hb1⟩
  have hB1 : Hid (Below w.heap.size w w1) := hB0.out.trans (hb1.out.mono hB0.out.size)
  have hS : Hid (Bk w Q qw qf qr lv L av R w1.heap.size (w1.alloc (.cells #[.int .i64 Q.users, qw, qf, qr] 26))) := by
    have k := Lk.start hL'.out hB1.out hq1.out
    exact ⟨k.b, k.q, k.l, hA'.out.below k.be (Nat.le_refl _), k.be⟩
  obtain ⟨ow, cw, of, cf, or, cr, rfl, rfl, rfl⟩ := hq1.out.shape
  clear hb1 hq1 hB0 K0 hL' hB1 hA'
  have K4 : Hid (∀ V v' M, RowI V v' M → Calls Try.prog 9 #[v'] V fun e w' => ∃ v'', e = .returned v'' ∧ RowI w' v'' (M.take 30) ∧ Below V.heap.size V w') := fun V v' M hV => row14F M v' V hV
  have K7 : Hid (∀ V, Calls Try.prog 11 #[] V fun e w' => e = .returned (.bool true) ∧ Below V.heap.size V w') := fun V => wakes14 V
  have KW : Hid (∀ (P' : Pb) V va vb vc v' M, Pok P' → PbV V P' va vb vc → RowI V v' M → M.length ≤ 30 → Calls Try.prog 14 #[.agg #[.int .i64 P'.users, va, vb, vc], v'] V fun e w' => ∃ oa n cap, e = .returned (.tuple #[.slice oa n cap, .int .i64 (wrN P' M : Int)]) ∧ Hid (RowC w' (.slice oa n cap) (wrL P' M)) ∧ Hid (Below V.heap.size V w')) := fun P' V va vb vc v' M hk' hV hr hl => (writeF P' va vb vc M v' V hV hr (by omega) hk').mono fun e w' ⟨v, h1, h2, h3⟩ => by
    obtain ⟨a, c, rfl⟩ := own_shp h2.out
    exact ⟨a, _, c, h1, RowC.of_owns h2.out, h3⟩
  have hTl : Hid ((L.take 30).length ≤ 30) := by show _ ≤ _; rw [List.length_take]; omega
  go_wp2_with fail
  generalize w1.alloc (.cells #[.int .i64 Q.users, .slice ow Q.who.length cw, .slice of Q.fixed.length cf, .slice or Q.rules.length cr] 26) = w2 at hS ⊢
  generalize w1.heap.size = g at *
  refine (hQb.out _ _ _ _ hS.out.q).mono ?_
  rintro e w3 ⟨va, vb, vc, rfl, hq3, hb3⟩
  have hS3 := hide' (hS.out.over hb3.out)
  clear hS hb3
  go_wp2_with fail
  refine (K4.out _ _ _ hS3.out.l).mono ?_
  rintro e w4 ⟨v4, rfl, hr4, hb4⟩
  have hS4 := hide' (hS3.out.over hb4)
  have hq4 := hide' (hq3.out.below hb4)
  have hr4' := hide' hr4
  clear hS3 hb4 hq3 hr4
  go_wp2_with fail
  refine (KW.out Q _ _ _ _ _ _ hk.out hq4.out hr4'.out hTl.out).mono ?_
  rintro e w5 ⟨o5, n5, c5, rfl, hR5, hb5⟩
  have hS5 := hide' (hS4.out.over hb5.out)
  clear hS4 hb5 hq4 hr4'
  go_upto_if 29 with fail
  go_cut [9, 10, 11, 12] from 20 to 52 (fun _ _ _ _ wx => Hid (Bk w Q (.slice ow Q.who.length cw) (.slice of Q.fixed.length cf) (.slice or Q.rules.length cr) lv L av R g wx))
  case first =>
    as_aux_lemma =>
    by_cases hz : wrN Q (L.take 30) = 0
    case neg =>
      have hz1 : ((wrN Q (L.take 30) : Nat) : Int) ≠ 0 := by omega
      have hz2 : (((wrN Q (L.take 30) : Nat) : Int) == 0) = false := by rw [beq_eq_false_iff_ne]; exact hz1
      generalize wrN Q (L.take 30) = nn at *
      clear hz hR5 KW K4 K7 hQb
      go_wp2
      go_meet
      exact hS5
    case pos =>
      have hh := wrN_zero hz
      have hW : wrL Q (L.take 30) = certL Q (L.take 30) := by unfold wrL; rw [if_pos hh]
      rw [hW] at hR5
      obtain ⟨b0, b1, b2⟩ := back_rd hh hk.out
      have hlC := hide' (certL_len hk.out hQl.out.2 hQl.out.1 (L.take 30))
      have hmC := hide' (certL_mem Q (L.take 30))
      have hb' : Hid (rdN (certL Q (L.take 30)) = 0 ∧ rdP (certL Q (L.take 30)) = Q ∧ rdL (certL Q (L.take 30)) = L.take 30) := ⟨b0, b1, b2⟩
      have KS : Hid (∀ V a1 a2 a3, PbV V Q a1 a2 a3 → Bk w Q (.slice ow Q.who.length cw) (.slice of Q.fixed.length cf) (.slice or Q.rules.length cr) lv L av R g V → Calls Try.prog 19 #[.agg #[.int .i64 Q.users, a1, a2, a3], .agg #[.int .i64 Q.users, .slice ow Q.who.length cw, .slice of Q.fixed.length cf, .slice or Q.rules.length cr]] V fun e w' => e = .returned (.bool true) ∧ Below V.heap.size V w') := fun V a1 a2 a3 h1 h2 => same14 Q a1 a2 a3 _ _ _ V h1 h2.q hk.out
      have KI : Hid (∀ V x y, RowI V x (L.take 30) → RowI V y (L.take 30) → Calls Try.prog 20 #[x, y] V fun e w' => e = .returned (.bool true) ∧ Below V.heap.size V w') := fun V x y h1 h2 => by
        have := keepInts (L.take 30) (L.take 30) x y V h1 h2 (by have := hTl.out; omega) (by have := hTl.out; omega)
        simpa using this
      rw [hz]
      clear hz hW hh b0 b1 b2 KW hQb hk
      generalize certL Q (L.take 30) = CC at *
      obtain ⟨LL, eLL⟩ : ∃ l, l = L.take 30 := ⟨_, rfl⟩
      rw [← eLL] at KI hb' hTl
      have eLL' := hide' eLL
      clear eLL
      go_wp2_with fail
      refine (few2S CC _ _ hR5.out (by have := hlC.out; omega)).mono ?_
      rintro e w6 ⟨v6, rfl, hO6, hb6⟩
      have hS6 := hide' (hS5.out.over hb6)
      obtain ⟨o6, c6, rfl, hRd⟩ := readC hO6 hmC.out hlC.out
      have hRd' := hide' hRd
      unfold ReP at hRd'
      rw [hb'.out.1, hb'.out.2.1, hb'.out.2.2] at hRd'
      clear hRd hO6 hb6 hS5 hR5 hb'
      go_wp2_with fail
      refine hRd'.out.mono ?_
      rintro e w7 ⟨xa, xb, xc, xp, rfl, hx7, hb7⟩
      have hS7 := hide' (hS6.out.over hb7.out)
      have hbx : Below w7.heap.size w7 (w7.alloc (.cells #[.int .i64 Q.users, xa, xb, xc] 26)) := (Below.refl _ w7).alloc (Nat.le_refl _) _
      have hS8 := hide' (hS7.out.over hbx)
      have hx8 := hide' (hx7.out.1.below hbx)
      have hp8 := hide' (hx7.out.2.below hbx (Nat.le_refl _))
      obtain ⟨xo1, xc1, xo2, xc2, xo3, xc3, rfl, rfl, rfl⟩ := hx7.out.1.shape
      obtain ⟨po, pc, e9⟩ : ∃ a c, xp = .slice a LL.length c := by obtain ⟨a, c, e, _⟩ := hx7.out.2; exact ⟨a, c, e⟩
      subst e9
      have q0 := hS8.out.b.c0
      have q1 := hS8.out.b.c1
      have q2 := hS8.out.b.c2
      have q3 := hS8.out.b.c3
      clear hx7 hb7 hS6 hS7 hRd' hbx
      go_wp2_with fail
      refine (KS.out _ _ _ _ hx8.out hS8.out).mono ?_
      rintro e w9 ⟨rfl, hb9⟩
      have hS9 := hide' (hS8.out.over hb9)
      have hp9 := hide' (hp8.out.below hb9 (Nat.le_refl _))
      clear hS8 hx8 hp8 hb9 KS q0 q1 q2 q3
      go_wp2_with fail
      refine (K4.out _ _ _ hS9.out.l).mono ?_
      rintro e w10 ⟨v10, rfl, hr10, hb10⟩
      rw [← eLL'.out] at hr10
      have hS10 := hide' (hS9.out.over hb10)
      have hp10 := hide' (hp9.out.below hb10 (Nat.le_refl _))
      have hr10' := hide' hr10
      clear hS9 hp9 hb10 hr10
      go_wp2_with fail
      refine (KI.out _ _ _ hp10.out hr10'.out).mono ?_
      rintro e w11 ⟨rfl, hb11⟩
      have hS11 := hide' (hS10.out.over hb11)
      clear hS10 hp10 hr10' hb11 KI K4 K7
      go_wp2
      go_meet
      exact hS11
  case rest =>
  have hS6 := hcut
  clear hcut hS5 hR5
  have hRt : Hid ((R.take 2000).length ≤ 2000) := by show _ ≤ _; rw [List.length_take]; omega
  have hRm : Hid (∀ b ∈ R.take 2000, b < 256) := fun b hb => hRb b (List.mem_of_mem_take hb)
  have KF : Hid (∀ V, Bk w Q (.slice ow Q.who.length cw) (.slice of Q.fixed.length cf) (.slice or Q.rules.length cr) lv L av R g V → Calls Try.prog 17 #[av] V fun e w' => ∃ v', e = .returned v' ∧ w'.ownsRow V.heap.size 5 1 v' (R.take 2000).length (cellsB (R.take 2000)) ∧ Below V.heap.size V w') := fun V hV => fewS R av V hV.r
  have hFw : Hid (∀ V, RowC V av R → Calls Try.prog 17 #[av] V fun e w' => ∃ v', e = .returned v' ∧ w'.ownsRow V.heap.size 5 1 v' (R.take 2000).length (cellsB (R.take 2000)) ∧ Below V.heap.size V w') := fun V hV => fewS R av V hV
  have hbw := hide' (fun hz => back_wr (L := R.take 2000) hRm.out hz)
  have hz0 : Hid (rdN (R.take 2000) ≠ 0 → rdP (R.take 2000) = ⟨0, [], [], []⟩ ∧ rdL (R.take 2000) = []) := fun q => (rd_bad rfl q).2
  clear hRb
  generalize R.take 2000 = RR at *
  go_wp2_with fail
  refine (KF.out _ hS6.out).mono ?_
  rintro e w7 ⟨v7, rfl, hO7, hb7⟩
  have hS7 := hide' (hS6.out.over hb7)
  obtain ⟨o7, c7, rfl, hRd⟩ := readC hO7 hRm.out (by have := hRt.out; omega)
  have hRd' := hide' hRd
  unfold ReP at hRd'
  clear hRd hO7 hb7 hS6
  go_wp2_with fail
  refine hRd'.out.mono ?_
  rintro e w8 ⟨xa, xb, xc, xp, rfl, hx8, hb8⟩
  have hS8 := hide' (hS7.out.over hb8.out)
  have hbx : Below w8.heap.size w8 (w8.alloc (.cells #[.int .i64 (rdP RR).users, xa, xb, xc] 26)) := (Below.refl _ w8).alloc (Nat.le_refl _) _
  have hS9 := hide' (hS8.out.over hbx)
  have hx9 := hide' (hx8.out.1.below hbx)
  have hp9 := hide' (hx8.out.2.below hbx (Nat.le_refl _))
  have hbx9 : Hid (PbB (w8.alloc (.cells #[.int .i64 (rdP RR).users, xa, xb, xc] 26)) w8.heap.size (rdP RR) xa xb xc) := heap_new w8 _
  obtain ⟨xo1, xc1, xo2, xc2, xo3, xc3, rfl, rfl, rfl⟩ := hx8.out.1.shape
  obtain ⟨po, pc, e9⟩ : ∃ a c, xp = .slice a (rdL RR).length c := by obtain ⟨a, c, e, _⟩ := hx8.out.2; exact ⟨a, c, e⟩
  subst e9
  clear hx8 hb8 hS7 hS8 hRd' hbx hQb
  go_upto_region 8 with fail
  generalize w8.alloc (.cells #[.int .i64 (rdP RR).users, .slice xo1 (rdP RR).who.length xc1, .slice xo2 (rdP RR).fixed.length xc2, .slice xo3 (rdP RR).rules.length xc3] 26) = w9 at *
  generalize w8.heap.size = gx at *
  have hSb : Hid (PbB w9 gx (rdP RR) (.slice xo1 (rdP RR).who.length xc1) (.slice xo2 (rdP RR).fixed.length xc2) (.slice xo3 (rdP RR).rules.length xc3)) := hbx9
  clear hbx9
  by_cases hz : rdN RR = 0
  case neg =>
    as_aux_lemma =>
    obtain ⟨e1, e2⟩ := hz0.out hz
    have hz1 : (((rdN RR : Nat) : Int) != 0) = true := by rw [bne_iff_ne]; omega
    have hz2 : ((rdN RR : Nat) : Int) ≠ 0 := by omega
    rw [e1] at hx9 hSb
    rw [e2] at hp9
    rw [e1, e2]
    have KS : Hid (∀ V a1 a2 a3, PbV V ⟨0, [], [], []⟩ a1 a2 a3 → Calls Try.prog 19 #[.agg #[.int .i64 0, a1, a2, a3], .agg #[.int .i64 0, .slice none 0 0, .slice none 0 0, .slice none 0 0]] V fun e w' => e = .returned (.bool true) ∧ Below V.heap.size V w') := fun V a1 a2 a3 h1 => same14 ⟨0, [], [], []⟩ a1 a2 a3 _ _ _ V h1 (nil_pv V).1 ⟨by decide, by decide, by decide, (fun r hr => by cases hr), (fun z hz => by cases hz)⟩
    generalize rdN RR = nn at *
    have q0 := hSb.out.c0
    have q1 := hSb.out.c1
    have q2 := hSb.out.c2
    have q3 := hSb.out.c3
    simp only [List.length_nil] at *
    clear KW K4 KF hbw hz0 e1 e2 hz hFw
    go_wp2_with fail
    refine (KS.out _ _ _ _ hx9.out).mono ?_
    rintro e w10 ⟨rfl, hb10⟩
    have hS10 := hide' (hS9.out.over hb10)
    clear hS9 hb10 KS q0 q1 q2 q3 hSb hx9 hp9
    go_wp2_with fail
    refine (K7.out _).mono ?_
    rintro e w11 ⟨rfl, hb11⟩
    have hS11 := hide' (hS10.out.over hb11)
    clear hS10 hb11 K7
    go_wp2
    go_ret
    exact ⟨rfl, hS11.out.be⟩
  case pos =>
    as_aux_lemma =>
    obtain ⟨hh, hcert, hok⟩ := hbw.out hz
    have hC := holP_chk hh
    have hcut := cutP_small hC
    have hMl : (rdL RR).length ≤ 30 := by
      have h1 : (rdL RR).length = (rdP RR).who.length := by
        have := hh
        unfold holP at this
        simp only [Bool.and_eq_true, decide_eq_true_eq] at this
        exact this.1.1.2
      have := (chkN_zero hC).1
      omega
    have hMt : (rdL RR).take 30 = rdL RR := List.take_of_length_le hMl
    have hwn : wrN (rdP RR) (rdL RR) = 0 := by unfold wrN; rw [if_pos hC, if_pos hh]
    have hwl : wrL (rdP RR) (rdL RR) = RR := by unfold wrL; rw [if_pos hh]; exact hcert
    rw [hz]
    have KC : Hid (∀ V a b c, PbV V (rdP RR) a b c → Calls Try.prog 7 #[.agg #[.int .i64 (rdP RR).users, a, b, c]] V fun e w' => ∃ va vb vc, e = .returned (.agg #[.int .i64 (rdP RR).users, va, vb, vc]) ∧ Hid (PbV w' (rdP RR) va vb vc) ∧ Hid (Below V.heap.size V w')) := fun V a b c hq => by
      have := cutA (rdP RR) a b c V hq
      rw [hcut] at this
      exact this
    have KO : Hid (∀ V v', RowI V v' (rdL RR) → Calls Try.prog 9 #[v'] V fun e w' => ∃ v'', e = .returned v'' ∧ RowI w' v'' (rdL RR) ∧ Below V.heap.size V w') := fun V v' h1 => by
      have := K4.out V v' _ h1
      rw [hMt] at this
      exact this
    have KX : Hid (∀ V va vb vc v', PbV V (rdP RR) va vb vc → RowI V v' (rdL RR) → Calls Try.prog 14 #[.agg #[.int .i64 (rdP RR).users, va, vb, vc], v'] V fun e w' => ∃ oa n cap, e = .returned (.tuple #[.slice oa n cap, .int .i64 0]) ∧ Hid (RowC w' (.slice oa n cap) RR) ∧ Hid (Below V.heap.size V w')) := fun V va vb vc v' h1 h2 => by
      have := KW.out (rdP RR) V va vb vc v' (rdL RR) hok h1 h2 hMl
      rw [hwn, hwl] at this
      exact this
    have KH : Hid (∀ V va vb vc v', PbV V (rdP RR) va vb vc → RowI V v' (rdL RR) → Calls Try.prog 22 #[.agg #[.int .i64 (rdP RR).users, va, vb, vc], v'] V fun e w' => e = .returned (.bool true) ∧ Below V.heap.size V w') := fun V va vb vc v' h1 h2 => by
      have := holdsPF (rdP RR) va vb vc (rdL RR) v' V h1 h2 (by omega) hok.w hok.f hok.r hok.s hok.b
      rw [hh] at this
      exact this
    have KF' : Hid (∀ V, RowC V av R → Calls Try.prog 17 #[av] V fun e w' => ∃ oa n cap, e = .returned (.slice oa n cap) ∧ Hid (RowC w' (.slice oa n cap) RR) ∧ (convert 38 9 (.slice oa n cap)).run Try.prog w' = .ok (.string (strB RR)) w' ∧ Hid (Below V.heap.size V w')) := fun V hV => (hFw.out V hV).mono fun e w' ⟨v', h1, h2, h3⟩ => by
      obtain ⟨a, c, rfl⟩ := own_shp h2
      exact ⟨a, _, c, h1, RowC.of_owns h2, conv_bytes (RowC.of_owns h2).rowB, h3⟩
    have hX9 : Hid (Bx w (rdP RR) gx (.slice xo1 (rdP RR).who.length xc1) (.slice xo2 (rdP RR).fixed.length xc2) (.slice xo3 (rdP RR).rules.length xc3) (.slice po (rdL RR).length pc) (rdL RR) av R w9) := ⟨hSb.out, hx9.out, hp9.out, hS9.out.r, hS9.out.be⟩
    clear hh hcert hok hC hcut hMl hMt hwn hwl hz KW K4 KF hbw hz0 hSb hx9 hp9 hS9 hFw hk
    generalize rdP RR = X at *
    generalize rdL RR = M at *
    have q0 := hX9.out.pb.c0
    have q1 := hX9.out.pb.c1
    have q2 := hX9.out.pb.c2
    have q3 := hX9.out.pb.c3
    go_wp2_with fail
    refine (KC.out _ _ _ _ hX9.out.pv).mono ?_
    rintro e w10 ⟨va10, vb10, vc10, rfl, hq10, hb10⟩
    have hX10 := hide' (hX9.out.over hb10.out)
    clear hX9 hb10 q0 q1 q2 q3
    go_wp2_with fail
    refine (KO.out _ _ hX10.out.pl).mono ?_
    rintro e w11 ⟨v11, rfl, hr11, hb11⟩
    have hX11 := hide' (hX10.out.over hb11)
    have hq11 := hide' (hq10.out.below hb11)
    have hr11' := hide' hr11
    clear hX10 hb11 hq10 hr11
    go_wp2_with fail
    refine (KX.out _ _ _ _ _ hq11.out hr11'.out).mono ?_
    rintro e w12 ⟨oc, nc, cc, rfl, hRc, hb12⟩
    have hX12 := hide' (hX11.out.over hb12.out)
    have hXd := hide' (hX12.out.over (Below.refl _ w12).drew)
    have hRd := hide' (hRc.out.below (Below.refl _ w12).drew (Nat.le_refl _))
    clear hX11 hb12 hq11 hr11' hX12 hRc KX
    have hcvd : Hid ((convert 38 9 (.slice oc nc cc)).run Try.prog w12.drew = .ok (.string (strB RR)) w12.drew) := conv_bytes hRd.out.rowB
    have hSS : Hid (∀ V, Bx w X gx (.slice xo1 X.who.length xc1) (.slice xo2 X.fixed.length xc2) (.slice xo3 X.rules.length xc3) (.slice po M.length pc) M av R V → RowC V (.slice oc nc cc) RR → (V.cell? ⟨gx, 0, none⟩ = some (.int .i64 X.users) ∧ V.cell? ⟨gx, 1, none⟩ = some (.slice xo1 X.who.length xc1) ∧ V.cell? ⟨gx, 2, none⟩ = some (.slice xo2 X.fixed.length xc2) ∧ V.cell? ⟨gx, 3, none⟩ = some (.slice xo3 X.rules.length xc3)) ∧ (convert 38 9 (.slice oc nc cc)).run Try.prog V = .ok (.string (strB RR)) V) := fun V h1 h2 => ⟨h1.pb.all4, conv_bytes h2.rowB⟩
    generalize strB RR = bs at *
    go_wp2
    refine wp_region_held_drew (S := (fun V => (V.cell? ⟨gx, 0, none⟩ = some (.int .i64 X.users) ∧ V.cell? ⟨gx, 1, none⟩ = some (.slice xo1 X.who.length xc1) ∧ V.cell? ⟨gx, 2, none⟩ = some (.slice xo2 X.fixed.length xc2) ∧ V.cell? ⟨gx, 3, none⟩ = some (.slice xo3 X.rules.length xc3)) ∧ (convert 38 9 (.slice oc nc cc)).run Try.prog V = .ok (.string bs) V)) (by kernel_rfl) ?_ (fun hHeld => ?_)
    · exact hSS.out _ hXd.out hRd.out
    refine wpAnyH_take (i := 0) (oi := { dst := some 80, op := Op.move (Operand.tmp 17), type := 29, pos := "law.go:115", after := #[], guard := none }) (v := ?_) rfl (by kernel_rfl) (by kernel_rfl) (by kernel_rfl) (fun _ _ _ h => h) (Or.inl ⟨by rfl, ?_⟩) (by assumption) ?_
    rotate_left
    · intro w hSw; (try dsimp only at hSw); go_simp <;> with_reducible rfl
    simp only [Act.put, List.setIfInBounds_toArray, List.set_cons_zero, List.set_cons_succ]
    refine wpAnyH_take (i := 1) (oi := { dst := some 81, op := Op.binOp BinOp.eql 29 (Operand.tmp 80) (Operand.const (Value.int IntKind.i64 0)) 29, type := 4, pos := "law.go:115", after := #[{ on := 0, ground := Ground.data }], guard := none }) (v := ?_) rfl (by kernel_rfl) (by kernel_rfl) (by kernel_rfl) (fun _ _ _ h => h) (Or.inl ⟨by rfl, ?_⟩) (by assumption) ?_
    rotate_left
    · intro w hSw; (try dsimp only at hSw); go_simp <;> with_reducible rfl
    simp only [Act.put, List.setIfInBounds_toArray, List.set_cons_zero, List.set_cons_succ]
    refine wpAnyH_take (i := 2) (oi := { dst := some 82, op := Op.move (Operand.tmp 81), type := 4, pos := "law.go:115", after := #[{ on := 1, ground := Ground.data }], guard := none }) (v := ?_) rfl (by kernel_rfl) (by kernel_rfl) (by kernel_rfl) (fun _ _ _ h => h) (Or.inl ⟨by rfl, ?_⟩) (by assumption) ?_
    rotate_left
    · intro w hSw; (try dsimp only at hSw); go_simp <;> with_reducible rfl
    simp only [Act.put, List.setIfInBounds_toArray, List.set_cons_zero, List.set_cons_succ]
    refine wpAnyH_take (i := 3) (oi := { dst := some 83, op := Op.move (Operand.tmp 16), type := 38, pos := "law.go:115", after := #[{ on := 2, ground := Ground.guard }], guard := some (2, true) }) (v := ?_) rfl (by kernel_rfl) (by kernel_rfl) (by kernel_rfl) (fun _ _ _ h => h) (Or.inl ⟨by rfl, ?_⟩) (by assumption) ?_
    rotate_left
    · intro w hSw; (try dsimp only at hSw); go_simp <;> with_reducible rfl
    simp only [Act.put, List.setIfInBounds_toArray, List.set_cons_zero, List.set_cons_succ]
    refine wpAnyH_take (i := 4) (oi := { dst := some 84, op := Op.convert 38 9 (Operand.tmp 83), type := 9, pos := "law.go:115", after := #[{ on := 3, ground := Ground.data }, { on := 2, ground := Ground.guard }], guard := some (2, true) }) (v := ?_) rfl (by kernel_rfl) (by kernel_rfl) (by kernel_rfl) (fun _ _ _ h => h) (Or.inl ⟨by rfl, ?_⟩) (by assumption) ?_
    rotate_left
    · intro w hSw; (try dsimp only at hSw); go_simp <;> with_reducible rfl
    simp only [Act.put, List.setIfInBounds_toArray, List.set_cons_zero, List.set_cons_succ]
    refine wpAnyH_take (i := 5) (oi := { dst := some 85, op := Op.move (Operand.tmp 2), type := 38, pos := "law.go:115", after := #[{ on := 2, ground := Ground.guard }], guard := some (2, true) }) (v := ?_) rfl (by kernel_rfl) (by kernel_rfl) (by kernel_rfl) (fun _ _ _ h => h) (Or.inl ⟨by rfl, ?_⟩) (by assumption) ?_
    rotate_left
    · intro w hSw; (try dsimp only at hSw); go_simp <;> with_reducible rfl
    simp only [Act.put, List.setIfInBounds_toArray, List.set_cons_zero, List.set_cons_succ]
    refine wpAnyH_ready (rs := [6]) (by kernel_rfl) (by simp) ?_
    refine AllReadyH.cons (o := { dst := some 86, op := Op.call { callee := Callee.value (Operand.func 17), args := #[Operand.tmp 85], argTypes := #[38] }, type := 38, pos := "law.go:115", after := #[{ on := 5, ground := Ground.data }, { on := 2, ground := Ground.chain }, { on := 2, ground := Ground.guard }], guard := some (2, true) }) rfl (fun K hK => ?_) AllReadyH.nil
    go_simp
    go_at_call 17; refine (KF'.out _ hXd.out.r).mono ?_; rintro e w13 ⟨of13, nf13, cf13, rfl, hf13, hcv13, hb13⟩; have hX13 := hide' (hXd.out.over hb13.out); have hR13 := hide' (hRd.out.below hb13.out (Nat.le_refl _)); (try dsimp only)
    refine hK.out _ _ ?_ (fun hHeld => ?_)
    · exact hSS.out _ hX13.out hR13.out
    clear hK K
    try simp only [Act.put, List.setIfInBounds_toArray, List.set_cons_zero, List.set_cons_succ]
    refine wpAnyH_ready (rs := [7]) (by kernel_rfl) (by simp) ?_
    refine AllReadyH.cons (o := { dst := some 87, op := Op.convert 38 9 (Operand.tmp 86), type := 9, pos := "law.go:115", after := #[{ on := 6, ground := Ground.data }, { on := 2, ground := Ground.guard }], guard := some (2, true) }) rfl (fun K hK => ?_) AllReadyH.nil
    go_simp
    refine hK.out _ _ ?_ (fun hHeld => ?_)
    · exact hSS.out _ hX13.out hR13.out
    clear hK K
    try simp only [Act.put, List.setIfInBounds_toArray, List.set_cons_zero, List.set_cons_succ]
    refine wpAnyH_take (i := 8) (oi := { dst := some 88, op := Op.binOp BinOp.eql 9 (Operand.tmp 84) (Operand.tmp 87) 9, type := 4, pos := "law.go:115", after := #[{ on := 4, ground := Ground.data }, { on := 7, ground := Ground.data }, { on := 2, ground := Ground.guard }], guard := some (2, true) }) (v := ?_) rfl (by kernel_rfl) (by kernel_rfl) (by kernel_rfl) (fun _ _ _ h => h) (Or.inl ⟨by rfl, ?_⟩) (by assumption) ?_
    rotate_left
    · intro w hSw; (try dsimp only at hSw); go_simp <;> with_reducible rfl
    simp only [Act.put, List.setIfInBounds_toArray, List.set_cons_zero, List.set_cons_succ]
    refine wpAnyH_take (i := 9) (oi := { dst := some 89, op := Op.pick (Operand.tmp 82) (Operand.tmp 88) (Operand.const (Value.bool false)), type := 4, pos := "law.go:115", after := #[{ on := 2, ground := Ground.data }, { on := 8, ground := Ground.data }], guard := none }) (v := ?_) rfl (by kernel_rfl) (by kernel_rfl) (by kernel_rfl) (fun _ _ _ h => h) (Or.inl ⟨by rfl, ?_⟩) (by assumption) ?_
    rotate_left
    · intro w hSw; (try dsimp only at hSw); go_simp <;> with_reducible rfl
    simp only [Act.put, List.setIfInBounds_toArray, List.set_cons_zero, List.set_cons_succ]
    refine wpAnyH_take (i := 10) (oi := { dst := some 90, op := Op.move (Operand.tmp 89), type := 4, pos := "law.go:115", after := #[{ on := 9, ground := Ground.data }, { on := 6, ground := Ground.chain }], guard := none }) (v := ?_) rfl (by kernel_rfl) (by kernel_rfl) (by kernel_rfl) (fun _ _ _ h => h) (Or.inl ⟨by rfl, ?_⟩) (by assumption) ?_
    rotate_left
    · intro w hSw; (try dsimp only at hSw); go_simp <;> with_reducible rfl
    simp only [Act.put, List.setIfInBounds_toArray, List.set_cons_zero, List.set_cons_succ]
    refine wpAnyH_take (i := 11) (oi := { dst := some 91, op := Op.load 26 (Operand.tmp 13), type := 26, pos := "law.go:115", after := #[{ on := 10, ground := Ground.guard }], guard := some (10, true) }) (v := ?_) rfl (by kernel_rfl) (by kernel_rfl) (by kernel_rfl) (fun _ _ _ h => h) (Or.inl ⟨by rfl, ?_⟩) (by assumption) ?_
    rotate_left
    · intro w hSw; (try dsimp only at hSw); go_simp <;> with_reducible rfl
    simp only [Act.put, List.setIfInBounds_toArray, List.set_cons_zero, List.set_cons_succ]
    refine wpAnyH_take (i := 13) (oi := { dst := some 93, op := Op.move (Operand.tmp 14), type := 23, pos := "law.go:115", after := #[{ on := 10, ground := Ground.guard }], guard := some (10, true) }) (v := ?_) rfl (by kernel_rfl) (by kernel_rfl) (by kernel_rfl) (fun _ _ _ h => h) (Or.inl ⟨by rfl, ?_⟩) (by assumption) ?_
    rotate_left
    · intro w hSw; (try dsimp only at hSw); go_simp <;> with_reducible rfl
    simp only [Act.put, List.setIfInBounds_toArray, List.set_cons_zero, List.set_cons_succ]
    refine wpAnyH_ready (rs := [12]) (by kernel_rfl) (by simp) ?_
    refine AllReadyH.cons (o := { dst := some 92, op := Op.call { callee := Callee.value (Operand.func 7), args := #[Operand.tmp 91], argTypes := #[26] }, type := 26, pos := "law.go:115", after := #[{ on := 11, ground := Ground.data }, { on := 10, ground := Ground.chain }, { on := 10, ground := Ground.guard }], guard := some (10, true) }) rfl (fun K hK => ?_) AllReadyH.nil
    go_simp
    go_at_call 7; refine (KC.out _ _ _ _ hX13.out.pv).mono ?_; rintro e w14 ⟨va14, vb14, vc14, rfl, hq14, hb14⟩; have hX14 := hide' (hX13.out.over hb14.out); have hR14 := hide' (hR13.out.below hb14.out (Nat.le_refl _)); (try dsimp only)
    refine hK.out _ _ ?_ (fun hHeld => ?_)
    · exact hSS.out _ hX14.out hR14.out
    clear hK K
    try simp only [Act.put, List.setIfInBounds_toArray, List.set_cons_zero, List.set_cons_succ]
    refine wpAnyH_ready (rs := [14]) (by kernel_rfl) (by simp) ?_
    refine AllReadyH.cons (o := { dst := some 94, op := Op.call { callee := Callee.value (Operand.func 9), args := #[Operand.tmp 93], argTypes := #[23] }, type := 23, pos := "law.go:115", after := #[{ on := 13, ground := Ground.data }, { on := 12, ground := Ground.chain }, { on := 10, ground := Ground.guard }], guard := some (10, true) }) rfl (fun K hK => ?_) AllReadyH.nil
    go_simp
    go_at_call 9; refine (KO.out _ _ hX14.out.pl).mono ?_; rintro e w15 ⟨v15, rfl, hr15, hb15⟩; have hX15 := hide' (hX14.out.over hb15); have hR15 := hide' (hR14.out.below hb15 (Nat.le_refl _)); have hq15 := hide' (hq14.out.below hb15); have hr15' := hide' hr15; (try dsimp only)
    refine hK.out _ _ ?_ (fun hHeld => ?_)
    · exact hSS.out _ hX15.out hR15.out
    clear hK K
    try simp only [Act.put, List.setIfInBounds_toArray, List.set_cons_zero, List.set_cons_succ]
    refine wpAnyH_ready (rs := [15]) (by kernel_rfl) (by simp) ?_
    refine AllReadyH.cons (o := { dst := some 95, op := Op.call { callee := Callee.value (Operand.func 22), args := #[Operand.tmp 92, Operand.tmp 94], argTypes := #[26, 23] }, type := 4, pos := "law.go:115", after := #[{ on := 12, ground := Ground.data }, { on := 14, ground := Ground.data }, { on := 14, ground := Ground.chain }, { on := 10, ground := Ground.guard }], guard := some (10, true) }) rfl (fun K hK => ?_) AllReadyH.nil
    go_simp
    go_at_call 22; refine (KH.out _ _ _ _ _ hq15.out hr15'.out).mono ?_; rintro e w16 ⟨rfl, hb16⟩; have hX16 := hide' (hX15.out.over hb16); have hR16 := hide' (hR15.out.below hb16 (Nat.le_refl _)); (try dsimp only)
    refine hK.out _ _ ?_ (fun hHeld => ?_)
    · exact hSS.out _ hX16.out hR16.out
    clear hK K
    try simp only [Act.put, List.setIfInBounds_toArray, List.set_cons_zero, List.set_cons_succ]
    refine wpAnyH_take (i := 16) (oi := { dst := some 96, op := Op.pick (Operand.tmp 90) (Operand.tmp 95) (Operand.const (Value.bool false)), type := 4, pos := "law.go:115", after := #[{ on := 10, ground := Ground.data }, { on := 15, ground := Ground.data }], guard := none }) (v := ?_) rfl (by kernel_rfl) (by kernel_rfl) (by kernel_rfl) (fun _ _ _ h => h) (Or.inl ⟨by rfl, ?_⟩) (by assumption) ?_
    rotate_left
    · intro w hSw; (try dsimp only at hSw); go_simp <;> with_reducible rfl
    simp only [Act.put, List.setIfInBounds_toArray, List.set_cons_zero, List.set_cons_succ]
    refine wpAnyH_take (i := 17) (oi := { dst := some 97, op := Op.move (Operand.tmp 96), type := 4, pos := "law.go:115", after := #[{ on := 16, ground := Ground.data }, { on := 15, ground := Ground.chain }], guard := none }) (v := ?_) rfl (by kernel_rfl) (by kernel_rfl) (by kernel_rfl) (fun _ _ _ h => h) (Or.inl ⟨by rfl, ?_⟩) (by assumption) ?_
    rotate_left
    · intro w hSw; (try dsimp only at hSw); go_simp <;> with_reducible rfl
    simp only [Act.put, List.setIfInBounds_toArray, List.set_cons_zero, List.set_cons_succ]
    refine wpAnyH_ready (rs := [18]) (by kernel_rfl) (by simp) ?_
    refine AllReadyH.cons (o := { dst := some 98, op := Op.call { callee := Callee.value (Operand.func 11), args := #[], argTypes := #[] }, type := 4, pos := "law.go:115", after := #[{ on := 17, ground := Ground.chain }, { on := 17, ground := Ground.guard }], guard := some (17, true) }) rfl (fun K hK => ?_) AllReadyH.nil
    go_simp
    go_at_call 11; refine (K7.out _).mono ?_; rintro e w17 ⟨rfl, hb17⟩; have hX17 := hide' (hX16.out.over hb17); have hR17 := hide' (hR16.out.below hb17 (Nat.le_refl _)); (try dsimp only)
    refine hK.out _ _ ?_ (fun hHeld => ?_)
    · exact hSS.out _ hX17.out hR17.out
    clear hK K
    try simp only [Act.put, List.setIfInBounds_toArray, List.set_cons_zero, List.set_cons_succ]
    refine wpAnyH_take (i := 19) (oi := { dst := some 99, op := Op.pick (Operand.tmp 97) (Operand.tmp 98) (Operand.const (Value.bool false)), type := 4, pos := "law.go:115", after := #[{ on := 17, ground := Ground.data }, { on := 18, ground := Ground.data }], guard := none }) (v := ?_) rfl (by kernel_rfl) (by kernel_rfl) (by kernel_rfl) (fun _ _ _ h => h) (Or.inl ⟨by rfl, ?_⟩) (by assumption) ?_
    rotate_left
    · intro w hSw; (try dsimp only at hSw); go_simp <;> with_reducible rfl
    simp only [Act.put, List.setIfInBounds_toArray, List.set_cons_zero, List.set_cons_succ]
    refine wpAnyH_take (i := 20) (oi := { dst := some 6, op := Op.assign (Operand.tmp 99), type := 4, pos := "law.go:115", after := #[{ on := 19, ground := Ground.data }, { on := 18, ground := Ground.chain }, { on := 0, ground := Ground.phase }, { on := 1, ground := Ground.phase }, { on := 2, ground := Ground.phase }, { on := 3, ground := Ground.phase }, { on := 4, ground := Ground.phase }, { on := 5, ground := Ground.phase }, { on := 6, ground := Ground.phase }, { on := 7, ground := Ground.phase }, { on := 8, ground := Ground.phase }, { on := 9, ground := Ground.phase }, { on := 10, ground := Ground.phase }, { on := 11, ground := Ground.phase }, { on := 12, ground := Ground.phase }, { on := 13, ground := Ground.phase }, { on := 14, ground := Ground.phase }, { on := 15, ground := Ground.phase }, { on := 16, ground := Ground.phase }, { on := 17, ground := Ground.phase }, { on := 18, ground := Ground.phase }, { on := 19, ground := Ground.phase }], guard := none }) (v := ?_) rfl (by kernel_rfl) (by kernel_rfl) (by kernel_rfl) (fun _ _ _ h => h) (Or.inl ⟨by rfl, ?_⟩) (by assumption) ?_
    rotate_left
    · intro w hSw; (try dsimp only at hSw); go_simp <;> with_reducible rfl
    simp only [Act.put, List.setIfInBounds_toArray, List.set_cons_zero, List.set_cons_succ]
    refine wpAnyH_done (by kernel_rfl) ?_ _
    skip
    clear KC KO KH K7 KF' hSS
    go_wp2
    go_ret
    exact ⟨rfl, hX17.out.be⟩
end Go.Proofs.Ytgopaoecmefnkaa.S

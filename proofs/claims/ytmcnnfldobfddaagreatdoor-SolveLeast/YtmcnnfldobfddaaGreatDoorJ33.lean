/- The document's Rows: the users of each block. -/
import Derived.Test.YtmcnnfldobfddaaGreatDoorJ20
import Derived.Test.YtmcnnfldobfddaaGreatDoorJ31
import Derived.Test.YtmcnnfldobfddaaGreatDoorJ32
import Derived.Deep.QuietTactic
import Derived.BigQuiet
namespace Go.Proofs.YtmcnnfldobfddaaGreatDoor.S
open Go.RowKit Go.Shelf
attribute [local irreducible] wpQuiet
theorem mem_plc {l : List Nat} {b t : Nat} : t ∈ plc l b ↔ l[t]? = some b := by
  unfold plc
  rw [List.mem_filter, List.mem_range]
  constructor
  · intro h; simpa using h.2
  · intro h; exact ⟨(List.getElem?_eq_some_iff.1 h).1, by simp [h]⟩
/-- Who may do all of a block's steps. -/
theorem row_all {P : Pb} (hP : chkN P = 0) {a : List Nat} (hL : Leg 0 a) (hl : a.length ≤ P.who.length) {b u : Nat} (hb : b < blks 0 a) (hu : (u : Int) < P.users) : ((plc a b).all fun t => okU P t (u : Int)) = ((lvS (mayP P) a).1 b).testBit u := by
  apply Bool.eq_iff_iff.2
  rw [row_bit hP hL hl hb, List.all_eq_true]
  constructor
  · intro h; exact ⟨hu, fun t ht => h t (mem_plc.2 ht)⟩
  · rintro ⟨_, h⟩ t ht; exact h t (mem_plc.1 ht)
theorem mod_next (x u : Nat) : x % 2 ^ (u + 1) = if x.testBit u = true then x % 2 ^ u ||| 2 ^ u else x % 2 ^ u := by
  apply Nat.eq_of_testBit_eq
  intro i
  have h1 : (x % 2 ^ (u + 1)).testBit i = (decide (i < u + 1) && x.testBit i) := Nat.testBit_mod_two_pow ..
  have h2 : (x % 2 ^ u).testBit i = (decide (i < u) && x.testBit i) := Nat.testBit_mod_two_pow ..
  rw [h1]
  by_cases hb : x.testBit u = true
  · rw [if_pos hb, Nat.testBit_or, h2, Nat.testBit_two_pow]
    by_cases e : u = i
    · subst e; simp [hb]
    · have : decide (i < u + 1) = decide (i < u) := by rw [decide_eq_decide]; omega
      rw [this]; simp [e]
  · rw [if_neg hb, h2]
    by_cases e : u = i
    · subst e; simp [hb]
    · have : decide (i < u + 1) = decide (i < u) := by rw [decide_eq_decide]; omega
      rw [this]
theorem mod_full {P : Pb} (hP : chkN P = 0) {a : List Nat} (hL : Leg 0 a) (hl : a.length ≤ P.who.length) {b : Nat} (hb : b < blks 0 a) : (lvS (mayP P) a).1 b % 2 ^ P.users.toNat = (lvS (mayP P) a).1 b := by
  apply Nat.eq_of_testBit_eq
  intro i
  rw [Nat.testBit_mod_two_pow]
  cases h : ((lvS (mayP P) a).1 b).testBit i with
  | false => simp
  | true =>
    have := ((row_bit hP hL hl hb).1 h).1
    have : i < P.users.toNat := by omega
    simp [this]
def rowT (P : Pb) (a : List Nat) (c : Nat) : List Nat := (List.range c).map (lvS (mayP P) a).1
theorem rowT_succ (P : Pb) (a : List Nat) (c : Nat) : rowT P a (c + 1) = rowT P a c ++ [(lvS (mayP P) a).1 c] := by unfold rowT; rw [List.range_succ, List.map_append]; rfl
theorem rowT_len (P : Pb) (a : List Nat) (c : Nat) : (rowT P a c).length = c := by simp [rowT]
theorem plc_lt {l : List Nat} {b k t : Nat} (h : (plc l b)[k]? = some t) : t < l.length := by
  have := mem_plc.1 (List.mem_of_getElem? h)
  exact (List.getElem?_eq_some_iff.1 this).1
theorem all_snocB {f : Nat → Bool} {L : List Nat} {c t : Nat} (h : L[c]? = some t) : (L.take (c + 1)).all f = ((L.take c).all f && f t) := by
  rw [List.take_add_one, h, List.all_append]; simp
set_option maxRecDepth 100000 in
set_option maxHeartbeats 4000000 in
theorem rowsDF (P : Pb) (wv fv rvv : Value) (a : List Nat) (av : Value) (w : World) (h : PbV w P wv fv rvv) (ha : RowI w av (ints a)) (hk : Pok P) (hP : chkN P = 0) (hL : Leg 0 a) (hl : a.length ≤ P.who.length) :
    Calls Tryz.prog 87 #[pbV P wv fv rvv, av] w fun e w' => ∃ v', e = .returned v' ∧ w'.ownsRow w.heap.size 58 1 v' (rowD P a).length (M.cellsU (rowD P a)) ∧ Below w.heap.size w w' := by
  obtain ⟨h12, hU0, hU64, _⟩ := chkN_zero hP
  have hs := h.shape
  have hB0 : Hid (Below w.heap.size w (w.alloc (.cells #[.int .i64 P.users, wv, fv, rvv] 26))) := (Below.refl _ w).alloc (Nat.le_refl _) _
  have hb0 : Hid ((w.alloc (.cells #[.int .i64 P.users, wv, fv, rvv] 26)).heap[w.heap.size]? = some (.cells #[.int .i64 P.users, wv, fv, rvv] 26 (0, 0))) := heap_new w _
  have hbl := blks_leg hL
  have KB := hide' (refBlocks a.length a av _ (ha.below hB0.out (Nat.le_refl _)) rfl (by omega) hL)
  have KM : Hid (∀ V (t : Nat) (x : Int), Below w.heap.size w V → t < a.length → Calls Tryz.prog 123 #[pbV P wv fv rvv, .int .i64 (t : Int), .int .i64 x] V fun e w' => e = .returned (.bool (okU P t x)) ∧ Below V.heap.size V w') := fun V t x hV ht => rMayF P wv fv rvv t x V (h.below hV) hP (by omega) hk.b
  have hAll : Hid (∀ b u : Nat, b < blks 0 a → (u : Int) < P.users → ((plc a b).all fun t => okU P t (u : Int)) = ((lvS (mayP P) a).1 b).testBit u) := fun b u hb hu => row_all hP hL hl hb hu
  have hMf : Hid (∀ b, b < blks 0 a → (lvS (mayP P) a).1 b % 2 ^ P.users.toNat = (lvS (mayP P) a).1 b) := fun b hb => mod_full hP hL hl hb
  have hEnd : Hid (rowT P a (blks 0 a) = rowD P a) := rfl
  have hmm : blks 0 a ≤ 12 := by omega
  have hal : Hid (a.length ≤ 12) := by show _ ≤ _; omega
  obtain ⟨U, hU⟩ : ∃ U : Nat, P.users = (U : Int) := ⟨P.users.toNat, by omega⟩
  have hU' := hide' hU
  have hU64' : U ≤ 64 := by omega
  obtain ⟨ow, cw, of, cf, or, cr, rfl, rfl, rfl⟩ := hs
  obtain ⟨oa, ca, rfl, _, _⟩ := ha
  unfold pbV at KM ⊢
  clear h hk hP hL hl h12 hU0 hU64 hbl
  rw [hU] at hb0 hB0 KB KM hAll hMf ⊢
  rw [Int.toNat_natCast] at hMf
  clear hU
  generalize rowD P a = RD at *
  generalize hm : blks 0 a = m at *
  clear hm
  go_enter Tryz.func87, Tryz.ntmps87
  go_wp2_with fail
  refine KB.out.mono ?_
  rintro e W2 ⟨ob, cb, rfl, hRR, hb2⟩
  have hRR' : Hid (∀ c, c < m → ∃ g o ou cu, ob = some ⟨g, o, none⟩ ∧ W2.cell? ⟨g, o + c, none⟩ = some (.slice ou (plc a c).length cu) ∧ RowI W2 (.slice ou (plc a c).length cu) (ints (plc a c))) := fun c hc => by
    obtain ⟨oa', cap', he, hh⟩ := hRR.out
    injection he with e1 _ _
    subst e1
    exact hh c (plc a c) (by simp [blockL, hc])
  have hM : Hid (∀ V, Below W2.heap.size W2 V → Below w.heap.size w V ∧ (V.cell? ⟨w.heap.size, 0, none⟩ = some (.int .i64 (U : Int)) ∧ V.cell? ⟨w.heap.size, 1, none⟩ = some (.slice ow P.who.length cw) ∧ V.cell? ⟨w.heap.size, 2, none⟩ = some (.slice of P.fixed.length cf) ∧ V.cell? ⟨w.heap.size, 3, none⟩ = some (.slice or P.rules.length cr))) := fun V hV => by
    have h1 := hb2.trans (hV.mono hb2.size)
    have h2 := (h1.block w.heap.size (Array.getElem?_eq_some_iff.1 hb0.out).1).trans hb0.out
    exact ⟨hB0.out.trans (h1.mono hB0.out.size), by simp [World.cell?, h2]⟩
  have hwz : Hid (w.heap.size ≤ W2.heap.size) := (hM.out W2 (Below.refl _ _)).1.size
  clear KB hRR hb2 hb0 hB0
  go_wp2
  go_loopw [5, 7, 8, 9, 10, 11] (fun l k _ _ _ _ wr => ∃ c : Nat, c ≤ m ∧ k = .int .i64 c ∧ Hid (wr.ownsRow W2.heap.size 58 1 l (rowT P a c).length (M.cellsU (rowT P a c))) ∧ Hid (Below W2.heap.size W2 wr)) (fun _ k _ _ _ _ _ => ((m : Int) - intOf k).toNat)
  case atStart => exact ⟨0, Nat.zero_le _, rfl, World.ownsRow_nil _ _ _ _, Below.refl _ _⟩
  case round =>
    obtain ⟨c, hcm, rfl, hO, hB⟩ := hrel
    by_cases hlt : c < m
    · obtain ⟨g, o, ou, cu, rfl, cx0, hrow⟩ := hRR'.out c hlt
      have hNx := hide' (rowT_succ P a c)
      have hXf := hide' (hMf.out c hlt)
      have hXa : Hid (∀ u : Nat, u < U → ((plc a c).all fun t => okU P t (u : Int)) = ((lvS (mayP P) a).1 c).testBit u) := fun u hu => hAll.out c u hlt (by omega)
      have hpl : Hid (∀ k t, (plc a c)[k]? = some t → t < a.length) := fun k t h => plc_lt h
      have hDl : Hid ((plc a c).length ≤ 12) := by
        have h1 : (plc a c).length ≤ a.length := by
          have h := List.length_filter_le (fun i => a[i]? == some c) (List.range a.length)
          rwa [List.length_range] at h
        have h2 := hal.out
        show _ ≤ _
        omega
      obtain ⟨os, cs, he, hcap, hDc⟩ := hrow
      rw [ints_len] at he hcap
      injection he with e1 _ e2
      subst e1 e2
      have hcx : Hid (∀ V, Below W2.heap.size W2 V → V.cell? ⟨g, o + c, none⟩ = some (.slice ou (plc a c).length cu)) := fun V hV => (hV.cell (p := ⟨g, o + c, none⟩) (cell_lt cx0)).trans cx0
      have hDc' : Hid (∀ (V : World) (k t : Nat), Below W2.heap.size W2 V → (plc a c)[k]? = some t → ∃ g' o', ou = some ⟨g', o', none⟩ ∧ V.cell? ⟨g', o' + k, none⟩ = some (.int .i64 (t : Int))) := fun V k t hV ht => by
        obtain ⟨g', o', e, hc⟩ := hDc k t (ints_at ht)
        exact ⟨g', o', e, (hV.cell (p := ⟨g', o' + k, none⟩) (cell_lt hc)).trans hc⟩
      have hTl := rowT_len P a c
      have hTl' : (rowT P a c).length ≤ 1000000 := by omega
      have hDl' := hDl.out
      clear hRR' hAll hMf hDc cx0 hTl hEnd hal
      generalize rowT P a c = TT at *
      generalize hTN : rowT P a (c + 1) = TN at *
      generalize (lvS (mayP P) a).1 c = X at *
      generalize plc a c = D at *
      go_wp2
      obtain ⟨Wc, rfl⟩ : ∃ W, W = wr := ⟨_, rfl⟩
      go_loopw [8, 9, 10, 11] (fun x k _ _ wq => ∃ u : Nat, u ≤ U ∧ k = .int .i64 u ∧ x = .int .u64 ((X % 2 ^ u : Nat) : Int) ∧ Hid (Below Wc.heap.size Wc wq)) (fun _ k _ _ _ => ((U : Int) - intOf k).toNat)
      case atStart => exact ⟨0, Nat.zero_le _, rfl, by simp [Nat.mod_one], Below.refl _ _⟩
      case round =>
        obtain ⟨u, huU, rfl, rfl, hBq⟩ := hrel
        have hBw := hide' (hB.out.trans (hBq.out.mono hB.out.size))
        have q0 := (hM.out wr hBw.out).2.1
        by_cases hu : u < U
        · have hXu := hide' (hXa.out u hu)
          have hXn := hide' (mod_next X u)
          have hmlt : X % 2 ^ u < 18446744073709551616 := Nat.lt_of_lt_of_le (Nat.mod_lt _ (Nat.pow_pos (by decide))) (Nat.pow_le_pow_right (by decide) (show u ≤ 64 by omega))
          have hsh := M.shlc u (by omega)
          have hpw : (2 ^ u : Nat) < 18446744073709551616 := Nat.lt_of_lt_of_le (Nat.pow_lt_pow_right (by decide) (show u < 64 by omega)) (by decide)
          have hor := u64_or_nat (X % 2 ^ u) (2 ^ u) hmlt hpw
          clear hXa hXf hmlt hpw
          generalize hy : X % 2 ^ u = y at *
          generalize hyn : X % 2 ^ (u + 1) = yn at *
          clear hy
          go_wp2
          obtain ⟨Wd, rfl⟩ : ∃ W, W = wr := ⟨_, rfl⟩
          go_loopw [10, 11] (fun ok k wz => ∃ (j : Nat) (b : Bool), j ≤ D.length ∧ k = .int .i64 j ∧ ok = .bool b ∧ Hid (b = (D.take j).all fun t => okU P t (u : Int)) ∧ Hid (Below Wc.heap.size Wc wz)) (fun _ k _ => ((D.length : Int) - intOf k).toNat)
          case atStart => exact ⟨0, true, Nat.zero_le _, rfl, rfl, rfl, hBq⟩
          case round =>
            obtain ⟨j, b, hjl, rfl, rfl, hb, hBz⟩ := hrel
            have hBv := hide' (hB.out.trans (hBz.out.mono hB.out.size))
            have hcx1 := hcx.out wr hBv.out
            by_cases hj : j < D.length
            · obtain ⟨t, ht⟩ : ∃ t, D[j]? = some t := ⟨_, List.getElem?_eq_getElem hj⟩
              have hta := hpl.out j t ht
              have hbn : Hid ((b && okU P t (u : Int)) = (D.take (j + 1)).all fun t => okU P t (u : Int)) := by show _ = _; rw [all_snocB ht, ← hb.out]
              obtain ⟨g', o', rfl, _⟩ := hDc'.out wr j t hBv.out ht
              have hcell : Hid (∀ V, Below W2.heap.size W2 V → (V.cell? ⟨w.heap.size, 0, none⟩ = some (.int .i64 (U : Int)) ∧ V.cell? ⟨w.heap.size, 1, none⟩ = some (.slice ow P.who.length cw) ∧ V.cell? ⟨w.heap.size, 2, none⟩ = some (.slice of P.fixed.length cf) ∧ V.cell? ⟨w.heap.size, 3, none⟩ = some (.slice or P.rules.length cr)) ∧ V.cell? ⟨g, o + c, none⟩ = some (.slice (some ⟨g', o', none⟩) D.length cu) ∧ V.cell? ⟨g', o' + j, none⟩ = some (.int .i64 (t : Int))) := fun V hV => by
                obtain ⟨g2, o2, e, hc⟩ := hDc'.out V j t hV ht
                cases e
                exact ⟨(hM.out V hV).2, hcx.out V hV, hc⟩
              have hBd : Hid (Below W2.heap.size W2 wr.drew) := hBv.out.drew
              have hBcd : Hid (Below Wc.heap.size Wc wr.drew) := hBz.out.drew
              have hH := hide' (KM.out wr.drew t (u : Int) (hM.out _ hBd.out).1 hta)
              have hS0 := hide' (hcell.out _ hBd.out)
              clear KM hDc' hcx hM ht hta hb hpl
              generalize okU P t (u : Int) = z at *
              cases b with
              | true =>
                as_aux_lemma =>
                go_upto_region 14 with fail
                go_region_held3 (fun V => (V.cell? ⟨w.heap.size, 0, none⟩ = some (.int .i64 (U : Int)) ∧ V.cell? ⟨w.heap.size, 1, none⟩ = some (.slice ow P.who.length cw) ∧ V.cell? ⟨w.heap.size, 2, none⟩ = some (.slice of P.fixed.length cf) ∧ V.cell? ⟨w.heap.size, 3, none⟩ = some (.slice or P.rules.length cr)) ∧ V.cell? ⟨g, o + c, none⟩ = some (.slice (some ⟨g', o', none⟩) D.length cu) ∧ V.cell? ⟨g', o' + j, none⟩ = some (.int .i64 (t : Int))) (first | (exact hS0.out) | (exact hcell.out _ (hBd.out.trans (hb1.mono hBd.out.size)))) (first | (go_at_call 123; refine hH.out.mono ?_; rintro e w1 ⟨rfl, hb1⟩))
                have hB1 := hide' (hBcd.out.trans (hb1.mono hBcd.out.size))
                clear hb1 hH hcell hS0 hBd hBcd
                go_wp2
                exact ⟨⟨j + 1, z, by omega, by go_num, rfl, (show z = _ by rw [← hbn.out, Bool.true_and]), hB1⟩, by simp [intOf]; omega⟩
              | false =>
                as_aux_lemma =>
                obtain ⟨⟨x0, x1, x2, x3⟩, x4, x5⟩ := hcell.out wr hBv.out
                have hBq2 : Hid (∀ q, Below Wc.heap.size Wc (wr.drewN q)) := fun q => below_drewS hBz.out q
                clear hH hcell hS0 hBd hBcd
                go_upto_region 14 with fail
                go_quiet (fail)
                go_wp2
                exact ⟨⟨j + 1, false, by omega, by go_num, rfl, (show false = _ by rw [← hbn.out, Bool.false_and]), hBq2.out _⟩, by simp [intOf]; omega⟩
            · obtain rfl : j = D.length := by omega
              have hbx : b = X.testBit u := by rw [hb.out, List.take_length]; exact hXu.out
              clear KM hDc' hM hb hpl hXu
              cases b with
              | true =>
                rw [← hbx, if_pos rfl] at hXn
                clear hbx
                go_wp2
                exact ⟨⟨u + 1, by omega, by go_num, by rw [hyn, hXn.out, ← hor, Int.natCast_pow]; rfl, hBz⟩, by simp [intOf]; omega⟩
              | false =>
                rw [← hbx, if_neg (by decide)] at hXn
                clear hbx
                go_wp2
                exact ⟨⟨u + 1, by omega, by go_num, by rw [hyn, hXn.out], hBz⟩, by simp [intOf]; omega⟩
        · obtain rfl : u = U := by omega
          rw [hXf.out]
          have hO1 := hide' (M.owns_belowM hO.out hBq.out)
          have hsz := hBw.out.size
          clear KM hDc' hM hpl hXa hXf hcx hO
          obtain ⟨i0, hi, hz0, hz1, hz2⟩ := info_parts M.infoU
          go_wp2_with (at_builtin; refine wpList_append_own _ rfl _ _ 22 rfl W2.heap.size 58 i0 (.int .u64 0) 1 8 Tryz.underlying22 hi hz0 hz1 hz2 rfl (by decide) _ TT.length (M.cellsU TT) rfl (hO1.out.alloc _) ⟨wr.heap.size, 0, none⟩ 1 1 [.int .u64 (X : Int)] rfl rfl (World.news_of_block (cs := #[.int .u64 (X : Int)]) (heap_new _ _)) (by simp [Value.oneCell']) (by unfold maxLen; omega) (by omega) (by simp; omega) ?_; intro v2 w2 hown2 hgrow2 _; have hO2 := hide' hown2; have hG2 := hide' hgrow2; clear hown2 hgrow2)
          refine ⟨⟨c + 1, by omega, by go_num, ?_, (hBw.out.alloc hsz _).grown hG2.out (by simp; omega) (fun j ej => M.own_geM hO1.out j ej)⟩, by simp [intOf]; omega⟩
          show World.ownsRow _ _ _ _ _ _ _
          rw [hTN, hNx.out, List.length_append]
          have := hO2.out
          simpa [M.cellsU] using this
    · obtain rfl : c = m := by omega
      rw [hEnd.out] at hO
      have hF : Hid (wr.ownsRow w.heap.size 58 1 u5 RD.length (M.cellsU RD) ∧ Below w.heap.size w wr) := ⟨owns_lowS hO.out hwz.out, (hM.out wr hB.out).1⟩
      clear KM hM hO hRR' hAll hMf
      go_wp2
      go_ret
      exact ⟨_, rfl, hF.out⟩
end Go.Proofs.YtmcnnfldobfddaaGreatDoor.S

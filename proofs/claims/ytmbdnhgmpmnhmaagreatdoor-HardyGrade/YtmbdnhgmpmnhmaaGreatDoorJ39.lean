/- The document's Least and Can. -/
import Derived.Test.YtmbdnhgmpmnhmaaGreatDoorJ20
import Derived.Test.YtmbdnhgmpmnhmaaGreatDoorJ24
import Derived.Test.YtmbdnhgmpmnhmaaGreatDoorJ30
import Derived.Test.YtmbdnhgmpmnhmaaGreatDoorJ31
import Derived.Test.YtmbdnhgmpmnhmaaGreatDoorJ37
import Derived.Test.YtmbdnhgmpmnhmaaGreatDoorJ38
import Derived.Deep.QuietTactic
import Derived.BigQuiet
import Derived.Laws.MakeOwn
namespace Go.Proofs.YtmbdnhgmpmnhmaaGreatDoor.S
open Go.RowKit Go.Shelf
attribute [local irreducible] wpQuiet
theorem mem_plc {l : List Nat} {b t : Nat} : t ∈ plc l b ↔ l[t]? = some b := by
  unfold plc
  rw [List.mem_filter, List.mem_range]
  constructor
  · intro h; simpa using h.2
  · intro h; exact ⟨(List.getElem?_eq_some_iff.1 h).1, by simp [h]⟩
/-- Who may do all of a block's steps. -/
theorem row_all {P : Pb} (hP : chkN P = 0) {a : List Nat} (hL : Leg 0 a) (hl : a.length ≤ P.who.length) {b u : Nat} (hb : b < blks 0 a) (hu : (u : Int) < P.users) : ((plc a b).all fun t => okU P t (u : Int)) = ((lvS (mayP P) a).1 b).testBit u := by
  apply Bool.eq_iff_iff.2
  rw [row_bit hP hL hl hb, List.all_eq_true]
  constructor
  · intro h; exact ⟨hu, fun t ht => h t (mem_plc.2 ht)⟩
  · rintro ⟨_, h⟩ t ht; exact h t (mem_plc.1 ht)
theorem mod_next (x u : Nat) : x % 2 ^ (u + 1) = if x.testBit u = true then x % 2 ^ u ||| 2 ^ u else x % 2 ^ u := by
  apply Nat.eq_of_testBit_eq
  intro i
  have h1 : (x % 2 ^ (u + 1)).testBit i = (decide (i < u + 1) && x.testBit i) := Nat.testBit_mod_two_pow ..
  have h2 : (x % 2 ^ u).testBit i = (decide (i < u) && x.testBit i) := Nat.testBit_mod_two_pow ..
  rw [h1]
  by_cases hb : x.testBit u = true
  · rw [if_pos hb, Nat.testBit_or, h2, Nat.testBit_two_pow]
    by_cases e : u = i
    · subst e; simp [hb]
    · have : decide (i < u + 1) = decide (i < u) := by rw [decide_eq_decide]; omega
      rw [this]; simp [e]
  · rw [if_neg hb, h2]
    by_cases e : u = i
    · subst e; simp [hb]
    · have : decide (i < u + 1) = decide (i < u) := by rw [decide_eq_decide]; omega
      rw [this]
theorem mod_full {P : Pb} (hP : chkN P = 0) {a : List Nat} (hL : Leg 0 a) (hl : a.length ≤ P.who.length) {b : Nat} (hb : b < blks 0 a) : (lvS (mayP P) a).1 b % 2 ^ P.users.toNat = (lvS (mayP P) a).1 b := by
  apply Nat.eq_of_testBit_eq
  intro i
  rw [Nat.testBit_mod_two_pow]
  cases h : ((lvS (mayP P) a).1 b).testBit i with
  | false => simp
  | true =>
    have := ((row_bit hP hL hl hb).1 h).1
    have : i < P.users.toNat := by omega
    simp [this]
def rowT (P : Pb) (a : List Nat) (c : Nat) : List Nat := (List.range c).map (lvS (mayP P) a).1
theorem rowT_succ (P : Pb) (a : List Nat) (c : Nat) : rowT P a (c + 1) = rowT P a c ++ [(lvS (mayP P) a).1 c] := by unfold rowT; rw [List.range_succ, List.map_append]; rfl
theorem rowT_len (P : Pb) (a : List Nat) (c : Nat) : (rowT P a c).length = c := by simp [rowT]
theorem plc_lt {l : List Nat} {b k t : Nat} (h : (plc l b)[k]? = some t) : t < l.length := by
  have := mem_plc.1 (List.mem_of_getElem? h)
  exact (List.getElem?_eq_some_iff.1 this).1
theorem all_snocB {f : Nat → Bool} {L : List Nat} {c t : Nat} (h : L[c]? = some t) : (L.take (c + 1)).all f = ((L.take c).all f && f t) := by
  rw [List.take_add_one, h, List.all_append]; simp
set_option maxRecDepth 100000 in
set_option maxHeartbeats 4000000 in
theorem rowsDF (P : Pb) (wv fv rvv : Value) (a : List Nat) (av : Value) (w : World) (h : PbV w P wv fv rvv) (ha : RowI w av (ints a)) (hk : Pok P) (hP : chkN P = 0) (hL : Leg 0 a) (hl : a.length ≤ P.who.length) :
    Calls Tryz.prog 84 #[pbV P wv fv rvv, av] w fun e w' => ∃ v', e = .returned v' ∧ w'.ownsRow w.heap.size 27 1 v' (rowD P a).length (M.cellsU (rowD P a)) ∧ Below w.heap.size w w' := by
  obtain ⟨h12, hU0, hU64, _⟩ := chkN_zero hP
  have hs := h.shape
  have hB0 : Hid (Below w.heap.size w (w.alloc (.cells #[.int .i64 P.users, wv, fv, rvv] 26))) := (Below.refl _ w).alloc (Nat.le_refl _) _
  have hb0 : Hid ((w.alloc (.cells #[.int .i64 P.users, wv, fv, rvv] 26)).heap[w.heap.size]? = some (.cells #[.int .i64 P.users, wv, fv, rvv] 26 (0, 0))) := heap_new w _
  have hbl := blks_leg hL
  have KB := hide' (refBlocks a.length a av _ (ha.below hB0.out (Nat.le_refl _)) rfl (by omega) hL)
  have KM : Hid (∀ V (t : Nat) (x : Int), Below w.heap.size w V → t < a.length → Calls Tryz.prog 104 #[pbV P wv fv rvv, .int .i64 (t : Int), .int .i64 x] V fun e w' => e = .returned (.bool (okU P t x)) ∧ Below V.heap.size V w') := fun V t x hV ht => rMayF P wv fv rvv t x V (h.below hV) hP (by omega) hk.b
  have hAll : Hid (∀ b u : Nat, b < blks 0 a → (u : Int) < P.users → ((plc a b).all fun t => okU P t (u : Int)) = ((lvS (mayP P) a).1 b).testBit u) := fun b u hb hu => row_all hP hL hl hb hu
  have hMf : Hid (∀ b, b < blks 0 a → (lvS (mayP P) a).1 b % 2 ^ P.users.toNat = (lvS (mayP P) a).1 b) := fun b hb => mod_full hP hL hl hb
  have hEnd : Hid (rowT P a (blks 0 a) = rowD P a) := rfl
  have hmm : blks 0 a ≤ 12 := by omega
  have hal : Hid (a.length ≤ 12) := by show _ ≤ _; omega
  obtain ⟨U, hU⟩ : ∃ U : Nat, P.users = (U : Int) := ⟨P.users.toNat, by omega⟩
  have hU' := hide' hU
  have hU64' : U ≤ 64 := by omega
  obtain ⟨ow, cw, of, cf, or, cr, rfl, rfl, rfl⟩ := hs
  obtain ⟨oa, ca, rfl, _, _⟩ := ha
  unfold pbV at KM ⊢
  clear h hk hP hL hl h12 hU0 hU64 hbl
  rw [hU] at hb0 hB0 KB KM hAll hMf ⊢
  rw [Int.toNat_natCast] at hMf
  clear hU
  generalize rowD P a = RD at *
  generalize hm : blks 0 a = m at *
  clear hm
  go_enter Tryz.func84, Tryz.ntmps84
  go_wp2_with fail
  refine KB.out.mono ?_
  rintro e W2 ⟨ob, cb, rfl, hRR, hb2⟩
  have hRR' : Hid (∀ c, c < m → ∃ g o ou cu, ob = some ⟨g, o, none⟩ ∧ W2.cell? ⟨g, o + c, none⟩ = some (.slice ou (plc a c).length cu) ∧ RowI W2 (.slice ou (plc a c).length cu) (ints (plc a c))) := fun c hc => by
    obtain ⟨oa', cap', he, hh⟩ := hRR.out
    injection he with e1 _ _
    subst e1
    exact hh c (plc a c) (by simp [blockL, hc])
  have hM : Hid (∀ V, Below W2.heap.size W2 V → Below w.heap.size w V ∧ (V.cell? ⟨w.heap.size, 0, none⟩ = some (.int .i64 (U : Int)) ∧ V.cell? ⟨w.heap.size, 1, none⟩ = some (.slice ow P.who.length cw) ∧ V.cell? ⟨w.heap.size, 2, none⟩ = some (.slice of P.fixed.length cf) ∧ V.cell? ⟨w.heap.size, 3, none⟩ = some (.slice or P.rules.length cr))) := fun V hV => by
    have h1 := hb2.trans (hV.mono hb2.size)
    have h2 := (h1.block w.heap.size (Array.getElem?_eq_some_iff.1 hb0.out).1).trans hb0.out
    exact ⟨hB0.out.trans (h1.mono hB0.out.size), by simp [World.cell?, h2]⟩
  have hwz : Hid (w.heap.size ≤ W2.heap.size) := (hM.out W2 (Below.refl _ _)).1.size
  clear KB hRR hb2 hb0 hB0
  go_wp2
  go_loopw [5, 7, 8, 9, 10, 11] (fun l k _ _ _ _ wr => ∃ c : Nat, c ≤ m ∧ k = .int .i64 c ∧ Hid (wr.ownsRow W2.heap.size 27 1 l (rowT P a c).length (M.cellsU (rowT P a c))) ∧ Hid (Below W2.heap.size W2 wr)) (fun _ k _ _ _ _ _ => ((m : Int) - intOf k).toNat)
  case atStart => exact ⟨0, Nat.zero_le _, rfl, World.ownsRow_nil _ _ _ _, Below.refl _ _⟩
  case round =>
    obtain ⟨c, hcm, rfl, hO, hB⟩ := hrel
    by_cases hlt : c < m
    · obtain ⟨g, o, ou, cu, rfl, cx0, hrow⟩ := hRR'.out c hlt
      have hNx := hide' (rowT_succ P a c)
      have hXf := hide' (hMf.out c hlt)
      have hXa : Hid (∀ u : Nat, u < U → ((plc a c).all fun t => okU P t (u : Int)) = ((lvS (mayP P) a).1 c).testBit u) := fun u hu => hAll.out c u hlt (by omega)
      have hpl : Hid (∀ k t, (plc a c)[k]? = some t → t < a.length) := fun k t h => plc_lt h
      have hDl : Hid ((plc a c).length ≤ 12) := by
        have h1 : (plc a c).length ≤ a.length := by
          have h := List.length_filter_le (fun i => a[i]? == some c) (List.range a.length)
          rwa [List.length_range] at h
        have h2 := hal.out
        show _ ≤ _
        omega
      obtain ⟨os, cs, he, hcap, hDc⟩ := hrow
      rw [ints_len] at he hcap
      injection he with e1 _ e2
      subst e1 e2
      have hcx : Hid (∀ V, Below W2.heap.size W2 V → V.cell? ⟨g, o + c, none⟩ = some (.slice ou (plc a c).length cu)) := fun V hV => (hV.cell (p := ⟨g, o + c, none⟩) (cell_lt cx0)).trans cx0
      have hDc' : Hid (∀ (V : World) (k t : Nat), Below W2.heap.size W2 V → (plc a c)[k]? = some t → ∃ g' o', ou = some ⟨g', o', none⟩ ∧ V.cell? ⟨g', o' + k, none⟩ = some (.int .i64 (t : Int))) := fun V k t hV ht => by
        obtain ⟨g', o', e, hc⟩ := hDc k t (ints_at ht)
        exact ⟨g', o', e, (hV.cell (p := ⟨g', o' + k, none⟩) (cell_lt hc)).trans hc⟩
      have hTl := rowT_len P a c
      have hTl' : (rowT P a c).length ≤ 1000000 := by omega
      have hDl' := hDl.out
      clear hRR' hAll hMf hDc cx0 hTl hEnd hal
      generalize rowT P a c = TT at *
      generalize hTN : rowT P a (c + 1) = TN at *
      generalize (lvS (mayP P) a).1 c = X at *
      generalize plc a c = D at *
      go_wp2
      obtain ⟨Wc, rfl⟩ : ∃ W, W = wr := ⟨_, rfl⟩
      go_loopw [8, 9, 10, 11] (fun x k _ _ wq => ∃ u : Nat, u ≤ U ∧ k = .int .i64 u ∧ x = .int .u64 ((X % 2 ^ u : Nat) : Int) ∧ Hid (Below Wc.heap.size Wc wq)) (fun _ k _ _ _ => ((U : Int) - intOf k).toNat)
      case atStart => exact ⟨0, Nat.zero_le _, rfl, by simp [Nat.mod_one], Below.refl _ _⟩
      case round =>
        obtain ⟨u, huU, rfl, rfl, hBq⟩ := hrel
        have hBw := hide' (hB.out.trans (hBq.out.mono hB.out.size))
        have q0 := (hM.out wr hBw.out).2.1
        by_cases hu : u < U
        · have hXu := hide' (hXa.out u hu)
          have hXn := hide' (mod_next X u)
          have hmlt : X % 2 ^ u < 18446744073709551616 := Nat.lt_of_lt_of_le (Nat.mod_lt _ (Nat.pow_pos (by decide))) (Nat.pow_le_pow_right (by decide) (show u ≤ 64 by omega))
          have hsh := M.shlc u (by omega)
          have hpw : (2 ^ u : Nat) < 18446744073709551616 := Nat.lt_of_lt_of_le (Nat.pow_lt_pow_right (by decide) (show u < 64 by omega)) (by decide)
          have hor := u64_or_nat (X % 2 ^ u) (2 ^ u) hmlt hpw
          clear hXa hXf hmlt hpw
          generalize hy : X % 2 ^ u = y at *
          generalize hyn : X % 2 ^ (u + 1) = yn at *
          clear hy
          go_wp2
          obtain ⟨Wd, rfl⟩ : ∃ W, W = wr := ⟨_, rfl⟩
          go_loopw [10, 11] (fun ok k wz => ∃ (j : Nat) (b : Bool), j ≤ D.length ∧ k = .int .i64 j ∧ ok = .bool b ∧ Hid (b = (D.take j).all fun t => okU P t (u : Int)) ∧ Hid (Below Wc.heap.size Wc wz)) (fun _ k _ => ((D.length : Int) - intOf k).toNat)
          case atStart => exact ⟨0, true, Nat.zero_le _, rfl, rfl, rfl, hBq⟩
          case round =>
            obtain ⟨j, b, hjl, rfl, rfl, hb, hBz⟩ := hrel
            have hBv := hide' (hB.out.trans (hBz.out.mono hB.out.size))
            have hcx1 := hcx.out wr hBv.out
            by_cases hj : j < D.length
            · obtain ⟨t, ht⟩ : ∃ t, D[j]? = some t := ⟨_, List.getElem?_eq_getElem hj⟩
              have hta := hpl.out j t ht
              have hbn : Hid ((b && okU P t (u : Int)) = (D.take (j + 1)).all fun t => okU P t (u : Int)) := by show _ = _; rw [all_snocB ht, ← hb.out]
              obtain ⟨g', o', rfl, _⟩ := hDc'.out wr j t hBv.out ht
              have hcell : Hid (∀ V, Below W2.heap.size W2 V → (V.cell? ⟨w.heap.size, 0, none⟩ = some (.int .i64 (U : Int)) ∧ V.cell? ⟨w.heap.size, 1, none⟩ = some (.slice ow P.who.length cw) ∧ V.cell? ⟨w.heap.size, 2, none⟩ = some (.slice of P.fixed.length cf) ∧ V.cell? ⟨w.heap.size, 3, none⟩ = some (.slice or P.rules.length cr)) ∧ V.cell? ⟨g, o + c, none⟩ = some (.slice (some ⟨g', o', none⟩) D.length cu) ∧ V.cell? ⟨g', o' + j, none⟩ = some (.int .i64 (t : Int))) := fun V hV => by
                obtain ⟨g2, o2, e, hc⟩ := hDc'.out V j t hV ht
                cases e
                exact ⟨(hM.out V hV).2, hcx.out V hV, hc⟩
              have hBd : Hid (Below W2.heap.size W2 wr.drew) := hBv.out.drew
              have hBcd : Hid (Below Wc.heap.size Wc wr.drew) := hBz.out.drew
              have hH := hide' (KM.out wr.drew t (u : Int) (hM.out _ hBd.out).1 hta)
              have hS0 := hide' (hcell.out _ hBd.out)
              clear KM hDc' hcx hM ht hta hb hpl
              generalize okU P t (u : Int) = z at *
              cases b with
              | true =>
                as_aux_lemma =>
                go_upto_region 14 with fail
                go_region_held3 (fun V => (V.cell? ⟨w.heap.size, 0, none⟩ = some (.int .i64 (U : Int)) ∧ V.cell? ⟨w.heap.size, 1, none⟩ = some (.slice ow P.who.length cw) ∧ V.cell? ⟨w.heap.size, 2, none⟩ = some (.slice of P.fixed.length cf) ∧ V.cell? ⟨w.heap.size, 3, none⟩ = some (.slice or P.rules.length cr)) ∧ V.cell? ⟨g, o + c, none⟩ = some (.slice (some ⟨g', o', none⟩) D.length cu) ∧ V.cell? ⟨g', o' + j, none⟩ = some (.int .i64 (t : Int))) (first | (exact hS0.out) | (exact hcell.out _ (hBd.out.trans (hb1.mono hBd.out.size)))) (first | (go_at_call 104; refine hH.out.mono ?_; rintro e w1 ⟨rfl, hb1⟩))
                have hB1 := hide' (hBcd.out.trans (hb1.mono hBcd.out.size))
                clear hb1 hH hcell hS0 hBd hBcd
                go_wp2
                exact ⟨⟨j + 1, z, by omega, by go_num, rfl, (show z = _ by rw [← hbn.out, Bool.true_and]), hB1⟩, by simp [intOf]; omega⟩
              | false =>
                as_aux_lemma =>
                obtain ⟨⟨x0, x1, x2, x3⟩, x4, x5⟩ := hcell.out wr hBv.out
                have hBq2 : Hid (∀ q, Below Wc.heap.size Wc (wr.drewN q)) := fun q => below_drewS hBz.out q
                clear hH hcell hS0 hBd hBcd
                go_upto_region 14 with fail
                go_quiet (fail)
                go_wp2
                exact ⟨⟨j + 1, false, by omega, by go_num, rfl, (show false = _ by rw [← hbn.out, Bool.false_and]), hBq2.out _⟩, by simp [intOf]; omega⟩
            · obtain rfl : j = D.length := by omega
              have hbx : b = X.testBit u := by rw [hb.out, List.take_length]; exact hXu.out
              clear KM hDc' hM hb hpl hXu
              cases b with
              | true =>
                rw [← hbx, if_pos rfl] at hXn
                clear hbx
                go_wp2
                exact ⟨⟨u + 1, by omega, by go_num, by rw [hyn, hXn.out, ← hor, Int.natCast_pow]; rfl, hBz⟩, by simp [intOf]; omega⟩
              | false =>
                rw [← hbx, if_neg (by decide)] at hXn
                clear hbx
                go_wp2
                exact ⟨⟨u + 1, by omega, by go_num, by rw [hyn, hXn.out], hBz⟩, by simp [intOf]; omega⟩
        · obtain rfl : u = U := by omega
          rw [hXf.out]
          have hO1 := hide' (M.owns_belowM hO.out hBq.out)
          have hsz := hBw.out.size
          clear KM hDc' hM hpl hXa hXf hcx hO
          obtain ⟨i0, hi, hz0, hz1, hz2⟩ := info_parts M.infoU
          go_wp2_with (at_builtin; refine wpList_append_own _ rfl _ _ 22 rfl W2.heap.size 27 i0 (.int .u64 0) 1 8 Tryz.underlying22 hi hz0 hz1 hz2 rfl (by decide) _ TT.length (M.cellsU TT) rfl (hO1.out.alloc _) ⟨wr.heap.size, 0, none⟩ 1 1 [.int .u64 (X : Int)] rfl rfl (World.news_of_block (cs := #[.int .u64 (X : Int)]) (heap_new _ _)) (by simp [Value.oneCell']) (by unfold maxLen; omega) (by omega) (by simp; omega) ?_; intro v2 w2 hown2 hgrow2 _; have hO2 := hide' hown2; have hG2 := hide' hgrow2; clear hown2 hgrow2)
          refine ⟨⟨c + 1, by omega, by go_num, ?_, (hBw.out.alloc hsz _).grown hG2.out (by simp; omega) (fun j ej => M.own_geM hO1.out j ej)⟩, by simp [intOf]; omega⟩
          show World.ownsRow _ _ _ _ _ _ _
          rw [hTN, hNx.out, List.length_append]
          have := hO2.out
          simpa [M.cellsU] using this
    · obtain rfl : c = m := by omega
      rw [hEnd.out] at hO
      have hF : Hid (wr.ownsRow w.heap.size 27 1 u5 RD.length (M.cellsU RD) ∧ Below w.heap.size w wr) := ⟨owns_lowS hO.out hwz.out, (hM.out wr hB.out).1⟩
      clear KM hM hO hRR' hAll hMf
      go_wp2
      go_ret
      exact ⟨_, rfl, hF.out⟩
end Go.Proofs.YtmbdnhgmpmnhmaaGreatDoor.S
namespace Go.Proofs.YtmbdnhgmpmnhmaaGreatDoor.S
open Go.RowKit Go.Shelf
/-- What the document's search answers. -/
def SeP (w : World) (P : Pb) (d : Nat) (a : List Nat) (e : Ending) (w' : World) : Prop :=
  Hid (Below w.heap.size w w') ∧ ((e = .returned (.tuple #[.slice none 0 0, .bool false]) ∧ Hid (SrS P d a none)) ∨ ∃ v m l, e = .returned (.tuple #[v, .bool true]) ∧ Hid (SrS P d a (some m)) ∧ Hid (M.LexL (rowD P m) l) ∧ Hid (w'.ownsRow w.heap.size 3 1 v (planL m (M.fn l)).length (cellsI (planL m (M.fn l)))))
/-- A number laid behind a row of one's own. -/
theorem app_oneS {o : Oper} {a : Act} {K : Act → World → Prop} {Q : Exit → Act → World → Prop} (s x : Operand) (B : Nat) (W : World) (v : Value) (l : List Int) (z : Int) (ho : o.op = .call { callee := .builtin .append, args := #[s, x], argTypes := #[23, 23] })
    (es : a.eval s = v) (ex : a.eval x = .slice (some ⟨W.heap.size, 0, none⟩) 1 1) (hT : W.ownsRow B 3 1 v l.length (cellsI l)) (hB : B ≤ W.heap.size) (hn : l.length ≤ 1000000)
    (hK : ∀ v2 w2, Hid (w2.ownsRow B 3 1 v2 (l ++ [z]).length (cellsI (l ++ [z]))) → Hid (Below B W w2) → K (a.put o.dst v2) w2) : o.wp Tryz.prog a (W.alloc (.cells #[.int .i64 z] 3)) K Q := by
  obtain ⟨i0, hi, hz0, hz1, hz2⟩ := info_parts info3
  refine wp_append_own _ s x 23 ho B 3 i0 (.int .i64 0) 1 8 Tryz.underlying23 hi hz0 hz1 hz2 rfl (by decide) v l.length (cellsI l) es (hT.alloc _) ⟨W.heap.size, 0, none⟩ 1 1 [.int .i64 z] ex rfl (World.news_of_block (cs := #[.int .i64 z]) (heap_new _ _)) (by simp [Value.oneCell']) (by unfold maxLen; omega) (by omega) (by simp; omega) ?_
  intro v2 w2 hown hgrow _
  refine hK _ _ ?_ (((Below.refl B W).alloc hB _).grown hgrow (by simp; omega) (fun j ej => (hT.lt j ej).1))
  show World.ownsRow _ _ _ _ _ _ _
  rw [List.length_append]
  simpa [cellsI] using hown
/-- The same, with one way out. -/
def SeQ (w : World) (P : Pb) (d : Nat) (a : List Nat) (v : Value) (t : Bool) (w' : World) : Prop :=
  (t = false ∧ v = .slice none 0 0 ∧ SrS P d a none) ∨ (t = true ∧ ∃ m l, SrS P d a (some m) ∧ M.LexL (rowD P m) l ∧ w'.ownsRow w.heap.size 3 1 v (planL m (M.fn l)).length (cellsI (planL m (M.fn l))))
theorem SeP.one {w : World} {P : Pb} {d : Nat} {a : List Nat} {e : Ending} {w' : World} (h : SeP w P d a e w') : ∃ o n c t, e = .returned (.tuple #[.slice o n c, .bool t]) ∧ Hid (SeQ w P d a (.slice o n c) t w') ∧ Below w.heap.size w w' := by
  obtain ⟨hb, ⟨rfl, hs⟩ | ⟨v, m, l, rfl, h1, h2, h3⟩⟩ := h
  · exact ⟨none, 0, 0, false, rfl, .inl ⟨rfl, rfl, hs.out⟩, hb.out⟩
  · obtain ⟨o, c, rfl⟩ := own_shp h3.out
    exact ⟨o, _, c, true, rfl, .inr ⟨rfl, m, l, h1.out, h2.out, h3.out⟩, hb.out⟩
theorem cellsI_same (l : List Nat) : I.cellsI (M.ints l) = cellsI (ints l) := rfl
set_option maxRecDepth 100000 in
set_option maxHeartbeats 8000000 in
theorem searchDF (P : Pb) (wv fv rvv : Value) (hk : Pok P) (hP : chkN P = 0) : ∀ (d : Nat) (a : List Nat) (av : Value) (w : World), PbV w P wv fv rvv → RowI w av (ints a) → Leg 0 a → a.length + d = P.who.length → M.Tab w →
    Calls Tryz.prog 65 #[pbV P wv fv rvv, av] w (SeP w P d a) := by
  intro d
  induction d with
  | zero =>
    intro a av w h ha hL hl ht
    obtain ⟨h12, _⟩ := chkN_zero hP
    have hs := h.shape
    have hB0 : Hid (Below w.heap.size w (w.alloc (.cells #[.int .i64 P.users, wv, fv, rvv] 26))) := (Below.refl _ w).alloc (Nat.le_refl _) _
    have hb0 : Hid (PbB (w.alloc (.cells #[.int .i64 P.users, wv, fv, rvv] 26)) w.heap.size P wv fv rvv) := heap_new w _
    have KE : Hid (∀ V, Below w.heap.size w V → Calls Tryz.prog 82 #[pbV P wv fv rvv, av] V fun e w' => e = .returned (.bool (earA P a)) ∧ Below V.heap.size V w') := fun V hV => earlyDF P wv fv rvv a av V (h.below hV) (ha.below hV (Nat.le_refl _)) hk
    have KR : Hid (∀ V, Below w.heap.size w V → Calls Tryz.prog 84 #[pbV P wv fv rvv, av] V fun e w' => ∃ v', e = .returned v' ∧ w'.ownsRow V.heap.size 27 1 v' (rowD P a).length (M.cellsU (rowD P a)) ∧ Below V.heap.size V w') := fun V hV => rowsDF P wv fv rvv a av V (h.below hV) (ha.below hV (Nat.le_refl _)) hk hP hL (by omega)
    have KL : Hid (∀ V B v', Below w.heap.size w V → V.ownsRow B 27 1 v' (rowD P a).length (M.cellsU (rowD P a)) → Calls Tryz.prog 83 #[v'] V (M.LeaR V (rowD P a))) := fun V B v' hV ho => M.rLeastF (rowD P a) v' V (M.RowU.of_owns ho) (row_lt hP hL (by omega)) (ht.over hV)
    have hl0 : a.length = P.who.length := by omega
    have hlate : Hid (earA P a = false → SrS P 0 a none) := fun he => SrS.late hP hl he
    have hno : Hid (¬ M.Has (rowD P a) → SrS P 0 a none) := fun hh => SrS.leaf0 hh
    have hyes : Hid (earA P a = true → M.Has (rowD P a) → SrS P 0 a (some a)) := fun he hh => SrS.leaf1 hl0 he hh
    have hbl := blks_leg hL
    have hrl : Hid ((rowD P a).length = blks 0 a) := rowD_len P a
    have hin : Hid (∀ j x, a[j]? = some x → x < blks 0 a) := fun j x hx => lt_blks (List.mem_of_getElem? hx)
    have hwl : Hid (∀ l, M.LexL (rowD P a) l → l.length = blks 0 a ∧ M.Has (rowD P a)) := fun l hl' => by
      obtain ⟨g1, g2⟩ := hl'.lex (row_lt hP hL (by omega))
      exact ⟨by rw [g1, rowD_len], M.fn l, g2.full⟩
    have hal : a.length ≤ 12 := by omega
    have hbl2 : blks 0 a ≤ 12 := by omega
    have hPl := hide' hl0
    obtain ⟨ow, cw, of, cf, or, cr, rfl, rfl, rfl⟩ := hs
    have ha' := hide' ha
    obtain ⟨oa, ca, rfl, hca, hac⟩ := ha
    have hac' : Hid (∀ (V : World) (j x : Nat), Below w.heap.size w V → a[j]? = some x → ∃ g o, oa = some ⟨g, o, none⟩ ∧ V.cell? ⟨g, o + j, none⟩ = some (.int .i64 (x : Int))) := fun V j x hV hx => by
      obtain ⟨g, o, e, hc⟩ := hac j (x : Int) (ints_at hx)
      exact ⟨g, o, e, (hV.cell (p := ⟨g, o + j, none⟩) (cell_lt hc)).trans hc⟩
    rw [ints_len] at KE KR hca ⊢
    unfold pbV at KE KR ⊢
    rw [← hl0] at KE KR hb0 hB0 ⊢
    clear h hk hP hL hl ht hac ha' hl0 hbl
    generalize hz : earA P a = z at *
    clear hz
    generalize blks 0 a = m at *
    have hM : Hid (∀ V, Below (w.alloc (.cells #[.int .i64 P.users, .slice ow a.length cw, .slice of P.fixed.length cf, .slice or P.rules.length cr] 26)).heap.size (w.alloc (.cells #[.int .i64 P.users, .slice ow a.length cw, .slice of P.fixed.length cf, .slice or P.rules.length cr] 26)) V → Below w.heap.size w V ∧ (V.cell? ⟨w.heap.size, 0, none⟩ = some (.int .i64 P.users) ∧ V.cell? ⟨w.heap.size, 1, none⟩ = some (.slice ow a.length cw) ∧ V.cell? ⟨w.heap.size, 2, none⟩ = some (.slice of P.fixed.length cf) ∧ V.cell? ⟨w.heap.size, 3, none⟩ = some (.slice or P.rules.length cr))) := fun V hV => ⟨hB0.out.trans (hV.mono hB0.out.size), (hb0.out.below hV).all⟩
    obtain ⟨W1, hW1⟩ : ∃ W, W = w.alloc (.cells #[.int .i64 P.users, .slice ow a.length cw, .slice of P.fixed.length cf, .slice or P.rules.length cr] 26) := ⟨_, rfl⟩
    rw [← hW1] at hM
    clear hb0 hB0
    go_enter Tryz.func65, Tryz.ntmps65
    go_upto_region 1 with fail
    rw [← hW1]
    clear hW1
    obtain ⟨hB1, q0⟩ := hM.out W1 (Below.refl _ _)
    have hB1' := hide' hB1
    clear hB1
    go_wp2_with fail
    refine (KE.out _ hB1'.out).mono ?_
    rintro e w1 ⟨rfl, hb1⟩
    obtain ⟨hB2, q1⟩ := hM.out w1 hb1
    have hB2' := hide' hB2
    have hb1' := hide' hb1
    clear hB2 hb1 KE q0
    cases z with
    | false =>
      go_wp2
      go_ret2
      exact ⟨hB2', .inl ⟨rfl, hlate.out (by first | trivial | rfl)⟩⟩
    | true =>
      clear hlate
      go_wp2_with fail
      refine (KR.out _ hB2'.out).mono ?_
      rintro e w2 ⟨v2, rfl, ho2, hb2⟩
      have hB3 := hide' (hB2'.out.trans (hb2.mono hB2'.out.size))
      have KL2 := hide' (KL.out w2 _ v2 hB3.out ho2)
      obtain ⟨o2, c2, rfl⟩ := own_shp ho2
      clear KR KL ho2 hb2 q1 hM
      go_wp2_with fail
      refine KL2.out.mono ?_
      rintro e w3 ⟨hb3, ⟨_, l, v3, rfl, hlx, ho3⟩ | ⟨rfl, hn⟩⟩
      · have hB4 := hide' (hB3.out.trans (hb3.out.mono hB3.out.size))
        obtain ⟨hll, hhas⟩ := hwl.out l hlx.out
        have hS := hide' (hyes.out (by first | trivial | rfl) hhas)
        obtain ⟨i0, hi, hz0, hz1, hz2⟩ := info_parts info3
        have hlc : Hid (∀ (V : World) (x : Nat), Below w3.heap.size w3 V → x < m → ∃ gu cu, v3 = .slice (some ⟨gu, 0, none⟩) m cu ∧ V.cell? ⟨gu, x, none⟩ = some (.int .i64 ((M.fn l x : Nat) : Int))) := fun V x hV hx => by
          obtain ⟨gu, cu, e⟩ := own_some ho3.out (by omega)
          have h1 := ho3.out
          rw [e] at h1
          have h2 := h1.cellAt x (by omega)
          have h3 : (I.cellsI (M.ints l))[x]? = some (.int .i64 ((M.fn l x : Nat) : Int)) := by simp [I.cellsI, M.ints, M.fn_get (L := l) (r := x) (by omega)]
          rw [h3] at h2
          exact ⟨gu, cu, by rw [e, hll], (hV.cell (p := ⟨gu, x, none⟩) (cell_lt h2)).trans h2⟩
        obtain ⟨o3, c3, rfl⟩ := own_shp ho3.out
        rw [hll] at hlc
        clear hno hyes hwl hb3 KL2 hhas ho3
        rw [show l.length = m from hll]
        clear hll
        go_wp2_with (at_make; refine wpList_make_full _ rfl _ _ 23 rfl w3.heap.size 3 i0 (.int .i64 0) 1 Tryz.underlying23 hi hz0 hz1 .i64 .i64 _ _ a.length rfl rfl rfl rfl (by rw [hz2]; omega) (by unfold maxLen; omega) (by simp) ?_; intro w8 hrow hgrow; have hB8 : Below w3.heap.size w3 w8 := (Below.refl _ w3).grown hgrow (Nat.le_refl _) (fun j ej => by cases ej))
        have hr0 : Hid (w8.ownsRow w3.heap.size 3 1 (.slice (some ⟨w3.heap.size, 0, none⟩) a.length a.length) a.length (cellsZ (plA a (M.fn l) 0) a.length)) := by
          have h := hrow
          rw [show (Value.int .i64 0).cells = #[.int .i64 0] from rfl, toList_madeCells_one, Nat.mul_one, cellsZ_zero] at h
          have e : plA a (M.fn l) 0 = fun _ => 0 := by funext a; simp [plA]
          rw [e]
          exact h
        have hB8' := hide' hB8
        clear hrow hgrow hB8
        go_loopw [9] (fun p wr => ∃ (j : Nat), j ≤ a.length ∧ p = .int .i64 (j : Int) ∧ Hid (wr.ownsRow w3.heap.size 3 1 (.slice (some ⟨w3.heap.size, 0, none⟩) a.length a.length) a.length (cellsZ (plA a (M.fn l) j) a.length)) ∧ Hid (Below w3.heap.size w3 wr)) (fun p _ => ((a.length : Int) - intOf p).toNat)
        case atStart => exact ⟨0, Nat.zero_le _, rfl, hr0, hB8'⟩
        case round =>
          clear hr0 hB8'
          obtain ⟨j, hj, rfl, hO, hBr⟩ := hrel
          by_cases hlt : j < a.length
          · have hlt' : (j : Int) < (a.length : Int) := by omega
            obtain ⟨x, hx⟩ : ∃ x, a[j]? = some x := ⟨_, List.getElem?_eq_getElem hlt⟩
            have hxB := hin.out j x hx
            obtain ⟨g8, o8, rfl, cx⟩ := hac'.out wr j x (hB4.out.trans (hBr.out.mono hB4.out.size)) hx
            obtain ⟨gu, cu8, e8, cu9⟩ := hlc.out wr x hBr.out hxB
            injection e8 with e8a _ e8c
            subst e8a e8c
            have hxB' : (x : Int) < (m : Int) := by omega
            have hx0 : ¬ (x : Int) < 0 := by omega
            have c0 : wr.cell? ⟨w3.heap.size, j, none⟩ = some (.int .i64 (plA a (M.fn l) j j)) := by rw [hO.out.cellAt j (by omega)]; exact cellsZ_at _ hlt
            have fz0 := hO.out.frozenAt j
            have hS0 : Hid ((wr.setCell ⟨w3.heap.size, j, none⟩ (.int .i64 (M.fn l x : Int))).ownsRow w3.heap.size 3 1 (.slice (some ⟨w3.heap.size, 0, none⟩) a.length a.length) a.length (cellsZ (plA a (M.fn l) (j + 1)) a.length)) := by
              have h1 := (hO.out.stored j (.int .i64 (M.fn l x : Int))).1
              rw [cellsZ_set, show (M.fn l x : Int) = (M.fn l (a.getD j 0) : Int) by simp [hx], plA_set] at h1
              have e9 : a.getD j 0 = x := by simp [hx]
              rw [e9] at h1
              exact h1
            have hB1 : Hid (Below w3.heap.size w3 (wr.setCell ⟨w3.heap.size, j, none⟩ (.int .i64 (M.fn l x : Int)))) := hBr.out.setCell (p := ⟨w3.heap.size, j, none⟩) (Nat.le_refl _) _
            clear hO hBr hx hac' hlc
            generalize plA a (M.fn l) j j = z0 at *
            go_wp2
            exact ⟨⟨j + 1, by omega, by go_num, hS0, hB1⟩, by simp [intOf]; omega⟩
          · obtain rfl : j = a.length := by omega
            have hown : Hid (wr.ownsRow w.heap.size 3 1 (.slice (some ⟨w3.heap.size, 0, none⟩) a.length a.length) (planL a (M.fn l)).length (cellsI (planL a (M.fn l)))) := by
              have h1 := hO.out
              rw [plA_all] at h1
              have e : (planL a (M.fn l)).length = a.length := by simp [planL]
              rw [e]
              exact owns_lowS h1 hB4.out.size
            have hBe := hide' (hB4.out.trans (hBr.out.mono hB4.out.size))
            go_wp2
            refine bodyPost_ret (v := .tuple #[.slice (some ⟨w3.heap.size, 0, none⟩) a.length a.length, .bool true]) (by simp [results, Tryz.results65, go_sem]) rfl ?_
            exact ⟨hBe, .inr ⟨_, a, l, rfl, hS, hlx, hown⟩⟩
      · have hB4 := hide' (hB3.out.trans (hb3.out.mono hB3.out.size))
        have hS := hide' (hno.out (hn.out (by have := hrl.out; omega)))
        clear hno hyes hwl hb3 KL2 hn
        go_wp2
        go_ret2
        exact ⟨hB4, .inl ⟨rfl, hS⟩⟩
  | succ d ih =>
    intro a av w h ha hL hl ht
    obtain ⟨h12, _⟩ := chkN_zero hP
    have hs := h.shape
    have hB0 : Hid (Below w.heap.size w (w.alloc (.cells #[.int .i64 P.users, wv, fv, rvv] 26))) := (Below.refl _ w).alloc (Nat.le_refl _) _
    have hb0 : Hid (PbB (w.alloc (.cells #[.int .i64 P.users, wv, fv, rvv] 26)) w.heap.size P wv fv rvv) := heap_new w _
    have KE : Hid (∀ V, Below w.heap.size w V → Calls Tryz.prog 82 #[pbV P wv fv rvv, av] V fun e w' => e = .returned (.bool (earA P a)) ∧ Below V.heap.size V w') := fun V hV => earlyDF P wv fv rvv a av V (h.below hV) (ha.below hV (Nat.le_refl _)) hk
    have KZ : Hid (∀ V, Below w.heap.size w V → Calls Tryz.prog 85 #[av] V fun e w' => e = .returned (.int .i64 (blks 0 a)) ∧ w' = V) := fun V hV => refSize a av V (ha.below hV (Nat.le_refl _)) (by omega) hL
    have KS : Hid (∀ V v' (c : Nat), Below w.heap.size w V → c ≤ blks 0 a → RowI V v' (ints a ++ [(c : Int)]) → Calls Tryz.prog 65 #[pbV P wv fv rvv, v'] V fun e w' => ∃ o n c' t, e = .returned (.tuple #[.slice o n c', .bool t]) ∧ Hid (SeQ V P d (a ++ [c]) (.slice o n c') t w') ∧ Below V.heap.size V w') := fun V v' c hV hc hr => by
      refine (ih (a ++ [c]) v' V (h.below hV) (by simpa [ints] using hr) (leg_snocH hL hc) (by simp; omega) (ht.over hV)).mono fun e w' h => h.one
    have hlate : Hid (earA P a = false → SrS P (d + 1) a none) := fun he => SrS.late hP hl he
    have hn0 : Hid (SrL P d a 0) := SrL.zero P d a
    have hnx : Hid (∀ c, SrL P d a c → SrS P d (a ++ [c]) none → SrL P d a (c + 1)) := fun c h1 h2 => h1.next h2
    have hfd : Hid (∀ c m, SrL P d a c → c ≤ blks 0 a → SrS P d (a ++ [c]) (some m) → SrS P (d + 1) a (some m)) := fun c m h1 h2 h3 => h1.found h2 h3
    have hend : Hid (SrL P d a (blks 0 a + 1) → SrS P (d + 1) a none) := fun h => h.none
    have hbl := blks_leg hL
    have hne : ((a.length : Int) == (P.who.length : Int)) = false := by rw [beq_eq_false_iff_ne]; omega
    have hal : a.length ≤ 12 := by omega
    have hbl2 : blks 0 a ≤ 12 := by omega
    have ha' := hide' ha
    obtain ⟨ow, cw, of, cf, or, cr, rfl, rfl, rfl⟩ := hs
    obtain ⟨oa, ca, rfl, hca, hac⟩ := ha
    rw [ints_len] at KE KZ hca ha' ⊢
    unfold pbV at KE KS ⊢
    have hil : (ints a).length ≤ 1000 := by rw [ints_len]; omega
    have hM : Hid (∀ V, Below (w.alloc (.cells #[.int .i64 P.users, .slice ow P.who.length cw, .slice of P.fixed.length cf, .slice or P.rules.length cr] 26)).heap.size (w.alloc (.cells #[.int .i64 P.users, .slice ow P.who.length cw, .slice of P.fixed.length cf, .slice or P.rules.length cr] 26)) V → Below w.heap.size w V ∧ (V.cell? ⟨w.heap.size, 0, none⟩ = some (.int .i64 P.users) ∧ V.cell? ⟨w.heap.size, 1, none⟩ = some (.slice ow P.who.length cw) ∧ V.cell? ⟨w.heap.size, 2, none⟩ = some (.slice of P.fixed.length cf) ∧ V.cell? ⟨w.heap.size, 3, none⟩ = some (.slice or P.rules.length cr))) := fun V hV => ⟨hB0.out.trans (hV.mono hB0.out.size), (hb0.out.below hV).all⟩
    clear h hk hP hL ht hac hbl ih hl hb0 hB0
    have hSP : Hid (∀ e w', SeP w P (d + 1) a e w' = SeP w P (d + 1) a e w') := fun _ _ => rfl
    generalize hz : earA P a = z at *
    clear hz
    generalize blks 0 a = m at *
    obtain ⟨W1, hW1⟩ : ∃ W, W = w.alloc (.cells #[.int .i64 P.users, .slice ow P.who.length cw, .slice of P.fixed.length cf, .slice or P.rules.length cr] 26) := ⟨_, rfl⟩
    rw [← hW1] at hM
    clear hSP
    go_enter Tryz.func65, Tryz.ntmps65
    go_upto_region 1 with fail
    rw [← hW1]
    clear hW1
    obtain ⟨hB1, q0⟩ := hM.out W1 (Below.refl _ _)
    have hB1' := hide' hB1
    clear hB1
    go_wp2_with fail
    refine (KE.out _ hB1'.out).mono ?_
    rintro e w1 ⟨rfl, hb1⟩
    obtain ⟨hB2, q1⟩ := hM.out w1 hb1
    have hB2' := hide' hB2
    have hb1' := hide' hb1
    clear hB2 hb1 KE q0
    cases z with
    | false =>
      go_wp2
      go_ret2
      exact ⟨hB2', .inl ⟨rfl, hlate.out (by first | trivial | rfl)⟩⟩
    | true =>
      clear hlate
      go_wp2
      clear q1 hne
      go_loopw [10, 11, 12, 13] (fun k _ _ _ wr => ∃ (c : Nat), c ≤ m + 1 ∧ k = .int .i64 (c : Int) ∧ Hid (SrL P d a c) ∧ Hid (Below W1.heap.size W1 wr)) (fun k _ _ _ _ => ((m : Int) + 1 - intOf k).toNat)
      case atStart => exact ⟨0, Nat.zero_le _, rfl, hn0, hb1'⟩
      case round =>
        clear hn0 hb1' hB2'
        obtain ⟨c, hcm, rfl, hLc, hB⟩ := hrel
        obtain ⟨hBw, q2⟩ := hM.out wr hB.out
        have hBw' := hide' hBw
        have KZ1 := hide' (KZ.out wr hBw)
        clear hBw
        by_cases hlt : c ≤ m
        · have hlt' : (c : Int) ≤ (m : Int) := by omega
          have haw := hide' (ha'.out.below hBw'.out (Nat.le_refl _))
          have hsz := hBw'.out.size
          clear hend KZ
          go_wp2_with (first | (go_at_call 85; refine KZ1.out.mono ?_; rintro e w9 ⟨rfl, hw9⟩; obtain rfl : wr = w9 := hw9.symm) | (at_builtin; refine all_intsS rfl (.tmp 59) (.tmp 60) wr _ (ints a) rfl rfl rfl haw.out hil ?_; intro o2 n2 c2 w2 hO2 hb2))
          have hBx := hide' (hB.out.trans (hb2.out.mono hB.out.size))
          have hBd : Hid (Below W1.heap.size W1 w2.drew) := hBx.out.drew
          have hBa : Hid (Below W1.heap.size W1 (w2.drew.alloc (.cells #[.int .i64 (c : Int)] 3))) := hBd.out.alloc hBd.out.size _
          have hBs : wr.heap.size ≤ w2.drew.heap.size := hb2.out.size
          have hBs2 : W1.heap.size ≤ wr.heap.size := hB.out.size
          clear KZ1 q2 hb2
          have hil2 : (ints a).length ≤ 1000000 := by omega
          go_region_held3 (fun V => V.cell? ⟨w.heap.size, 0, none⟩ = some (.int .i64 P.users) ∧ V.cell? ⟨w.heap.size, 1, none⟩ = some (.slice ow P.who.length cw) ∧ V.cell? ⟨w.heap.size, 2, none⟩ = some (.slice of P.fixed.length cf) ∧ V.cell? ⟨w.heap.size, 3, none⟩ = some (.slice or P.rules.length cr)) (first | (exact (hM.out _ hBd.out).2) | (exact (hM.out _ hBa.out).2) | (exact (hM.out _ (hb3.out.trans (hb4.mono hb3.out.size))).2) | (exact (hM.out _ hb3.out).2)) (first | (go_at_call 65; refine (KS.out _ _ c (hM.out _ hb3.out).1 hlt (RowI.of_owns hO3.out)).mono ?_; rintro e w4 ⟨o4, n4, c4, t4, rfl, hQ, hb4⟩) | (rw [if_pos (by rfl)]; refine app_oneS (.tmp 64) (.tmp 66) wr.heap.size w2.drew _ (ints a) (c : Int) rfl rfl rfl hO2.out hBs hil2 ?_; intro v3 w3 hO3 hb3'; have hb3 : Hid (Below W1.heap.size W1 w3) := hBd.out.trans (hb3'.out.mono hBs2)))
          all_goals
            have hB4 := hide' (hb3.out.trans (hb4.mono hb3.out.size))
            have hB5 := hide' (hM.out _ hB4.out).1
            have hw34 := (hM.out _ hb3.out).1.size
            clear hb4 hO3 hb3' hBd hBa hO2 hBx KS
            cases t4 with
            | false =>
              have hN : Hid (SrL P d a (c + 1)) := by
                rcases hQ.out with ⟨_, _, hs⟩ | ⟨hf, _⟩
                · exact hnx.out c hLc.out hs
                · cases hf
              clear hQ hnx hfd
              go_wp2
              exact ⟨⟨c + 1, by omega, by go_num, hN, hB4⟩, by simp [intOf]; omega⟩
            | true =>
              have hF : Hid (SeP w P (d + 1) a (.returned (.tuple #[.slice o4 n4 c4, .bool true])) w4) := by
                rcases hQ.out with ⟨hf, _⟩ | ⟨_, mm, l, h1, h2, h3⟩
                · cases hf
                · exact ⟨hB5, .inr ⟨_, mm, l, rfl, hfd.out c mm hLc.out hlt h1, h2, owns_lowS h3 hw34⟩⟩
              clear hQ hnx hfd
              go_wp2
              go_ret2
              exact hF.out
        · obtain rfl : c = m + 1 := by omega
          have hlt' : ¬ ((m + 1 : Nat) : Int) ≤ (m : Int) := by omega
          have hld : decide (((m + 1 : Nat) : Int) ≤ (m : Int)) = false := decide_eq_false hlt'
          have hS := hide' (hend.out hLc.out)
          clear hend hLc
          go_wp2_with (first | (go_at_call 85; refine KZ1.out.mono ?_; rintro e w9 ⟨rfl, hw9⟩; obtain rfl : wr = w9 := hw9.symm))
          go_ret2
          exact ⟨hBw', .inl ⟨rfl, hS⟩⟩
end Go.Proofs.YtmbdnhgmpmnhmaaGreatDoor.S
namespace Go.Proofs.YtmbdnhgmpmnhmaaGreatDoor.S
open Go.RowKit Go.Shelf
/-- What the document's Least answers. -/
def LdQ (w : World) (P : Pb) (v : Value) (t : Bool) (w' : World) : Prop :=
  (t = false ∧ v = .slice none 0 0 ∧ LsP P none) ∨ (t = true ∧ ∃ l, LsP P (some l) ∧ w'.ownsRow w.heap.size 3 1 v l.length (cellsI l))
theorem LdQ.can {w : World} {P : Pb} {v : Value} {t : Bool} {w' : World} (h : LdQ w P v t w') : t = canB P := by
  rcases h with ⟨rfl, _, h⟩ | ⟨rfl, l, h, _⟩
  · cases hc : canB P with
    | false => rfl
    | true => obtain ⟨L, hL⟩ := (canB_iff P).1 hc; rw [h L] at hL; cases hL
  · exact ((canB_iff P).2 ⟨l, h.1⟩).symm
theorem ls_bad {P : Pb} (h : chkN P ≠ 0) : LsP P none := fun L => by
  cases hL : holP P L with
  | false => rfl
  | true => exact absurd (holP_of hL).1 h
set_option maxRecDepth 100000 in
set_option maxHeartbeats 2000000 in
theorem leastDF (P : Pb) (wv fv rvv : Value) (w : World) (h : PbV w P wv fv rvv) (hk : Pok P) (ht : M.Tab w) :
    Calls Tryz.prog 50 #[pbV P wv fv rvv] w fun e w' => ∃ o n c t, e = .returned (.tuple #[.slice o n c, .bool t]) ∧ Hid (LdQ w P (.slice o n c) t w') ∧ Below w.heap.size w w' := by
  have hs := h.shape
  have hB0 : Hid (Below w.heap.size w (w.alloc (.cells #[.int .i64 P.users, wv, fv, rvv] 26))) := (Below.refl _ w).alloc (Nat.le_refl _) _
  have hb0 : Hid (PbB (w.alloc (.cells #[.int .i64 P.users, wv, fv, rvv] 26)) w.heap.size P wv fv rvv) := heap_new w _
  have KC := hide' (rCheckF P wv fv rvv _ (h.below hB0.out) hk)
  have KS : Hid (∀ V, Below w.heap.size w V → chkN P = 0 → Calls Tryz.prog 65 #[pbV P wv fv rvv, .slice none 0 0] V (SeP V P P.who.length [])) := fun V hV hP => searchDF P wv fv rvv hk hP P.who.length [] _ V (h.below hV) ⟨none, 0, rfl, ⟨Nat.le_refl _, fun _ => rfl⟩, fun i z hz => by cases hz⟩ trivial (by simp) (ht.over hV)
  have hbad : Hid (chkN P ≠ 0 → LsP P none) := fun h => ls_bad h
  have hgood : Hid (chkN P = 0 → ∀ V v t V', SeQ V P P.who.length [] v t V' → LdQ V P v t V') := fun hP V v t V' hq => by
    rcases hq with ⟨rfl, rfl, hs⟩ | ⟨rfl, m, l, h1, h2, h3⟩
    · exact .inl ⟨rfl, rfl, srs_none fun _ => hs⟩
    · have hL : Leg 0 m ∧ m.length = P.who.length := by
        obtain ⟨q, e, e1, e2, _⟩ := h1
        rw [List.nil_append] at e
        subst e
        exact ⟨e2, e1⟩
      exact .inr ⟨rfl, _, srs_some hP h1 (row_lt hP hL.1 (by omega)) h2, h3⟩
  obtain ⟨ow, cw, of, cf, or, cr, rfl, rfl, rfl⟩ := hs
  unfold pbV at KC KS ⊢
  clear h hk ht
  go_enter Tryz.func50, Tryz.ntmps50
  have q := hb0.out.all
  go_wp2_with fail
  refine KC.out.mono ?_
  rintro e w1 ⟨rfl, hb1⟩
  have hB1 := hide' (hB0.out.trans (hb1.mono hB0.out.size))
  have q1 := (hb0.out.below hb1).all
  clear KC hb0 q hb1
  by_cases hP : chkN P = 0
  · have KS1 := hide' (KS.out w1 hB1.out hP)
    have hg := hide' (hgood.out hP)
    rw [hP]
    clear hbad hgood KS hP
    go_wp2_with fail
    refine KS1.out.mono ?_
    intro e w2 h2
    obtain ⟨o, n, c, t, rfl, hQ, hb2⟩ := h2.one
    have hF : Hid (LdQ w P (.slice o n c) t w2 ∧ Below w.heap.size w w2) := ⟨by
      rcases hg.out _ _ _ _ hQ.out with h | ⟨h1, l, h2, h3⟩
      · exact .inl h
      · exact .inr ⟨h1, l, h2, owns_lowS h3 hB1.out.size⟩, hB1.out.trans (hb2.mono hB1.out.size)⟩
    clear hg hQ h2 KS1 hb2
    go_wp2
    go_ret2
    exact ⟨o, n, c, t, rfl, hF.out.1, hF.out.2⟩
  · have hls := hide' (hbad.out hP)
    have hne : ¬ ((chkN P : Nat) : Int) = 0 := by omega
    have hne' : (((chkN P : Nat) : Int) != 0) = true := by rw [bne_iff_ne]; exact hne
    clear hbad hgood KS hP
    generalize ((chkN P : Nat) : Int) = z at *
    go_wp2
    go_ret2
    exact ⟨none, 0, 0, false, rfl, .inl ⟨rfl, rfl, hls.out⟩, hB1.out⟩
set_option maxRecDepth 100000 in
theorem canDF (P : Pb) (wv fv rvv : Value) (w : World) (h : PbV w P wv fv rvv) (hk : Pok P) (ht : M.Tab w) :
    Calls Tryz.prog 33 #[pbV P wv fv rvv] w fun e w' => e = .returned (.bool (canB P)) ∧ Below w.heap.size w w' := by
  have hs := h.shape
  have hB0 : Hid (Below w.heap.size w (w.alloc (.cells #[.int .i64 P.users, wv, fv, rvv] 26))) := (Below.refl _ w).alloc (Nat.le_refl _) _
  have hb0 : Hid (PbB (w.alloc (.cells #[.int .i64 P.users, wv, fv, rvv] 26)) w.heap.size P wv fv rvv) := heap_new w _
  have KL := hide' (leastDF P wv fv rvv _ (h.below hB0.out) hk (ht.over hB0.out))
  obtain ⟨ow, cw, of, cf, or, cr, rfl, rfl, rfl⟩ := hs
  unfold pbV at KL ⊢
  clear h hk ht
  go_enter Tryz.func33, Tryz.ntmps33
  have q := hb0.out.all
  go_wp2_with fail
  refine KL.out.mono ?_
  rintro e w1 ⟨o, n, c, t, rfl, hQ, hb1⟩
  have ht := hide' hQ.out.can
  have hB1 := hide' (hB0.out.trans (hb1.mono hB0.out.size))
  clear KL hb0 q hb1 hQ
  go_wp2
  go_ret
  exact ⟨ret_bool ht.out, hB1.out⟩
end Go.Proofs.YtmbdnhgmpmnhmaaGreatDoor.S

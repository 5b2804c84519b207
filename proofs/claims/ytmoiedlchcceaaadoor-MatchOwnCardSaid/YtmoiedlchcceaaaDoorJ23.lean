/- offer, walked. -/
import Derived.Test.YtmoiedlchcceaaaDoorJ22
namespace Go.Proofs.YtmoiedlchcceaaaDoor.M
open Go.RowKit Go.Shelf
theorem kwA {wr V V' : World} {b : Nat} {x : Value} (h : V.cell? ⟨b, 0, none⟩ = some x ∧ Below wr.heap.size wr V) (hb : Below V.heap.size V V') : V'.cell? ⟨b, 0, none⟩ = some x ∧ Below wr.heap.size wr V' := ⟨cell_over h.1 hb, h.2.trans (hb.mono h.2.size)⟩
theorem kwL {wr V : World} {b : Nat} {x : Value} (h : V.cell? ⟨b, 0, none⟩ = some x ∧ Below wr.heap.size wr V) (o : Obj) : (V.alloc o).cell? ⟨b, 0, none⟩ = some x ∧ Below wr.heap.size wr (V.alloc o) := kwA h ((Below.refl _ V).alloc (Nat.le_refl _) _)
theorem kwS {wr V : World} {b tb : Nat} {x v : Value} (h : V.cell? ⟨b, 0, none⟩ = some x ∧ Below wr.heap.size wr V) (hb : b < wr.heap.size) (ht : wr.heap.size ≤ tb) : (V.setCell ⟨tb, 0, none⟩ v).cell? ⟨b, 0, none⟩ = some x ∧ Below wr.heap.size wr (V.setCell ⟨tb, 0, none⟩ v) := by
  have h1 : Below wr.heap.size V (V.setCell ⟨tb, 0, none⟩ v) := (Below.refl _ V).setCell (p := ⟨tb, 0, none⟩) ht v
  exact ⟨(h1.cell (p := ⟨b, 0, none⟩) hb).trans h.1, h.2.trans h1⟩
theorem cell_otherB {V : World} {b a o o' : Nat} {x v : Value} (h : V.cell? ⟨b, o', none⟩ = some x) (hne : b ≠ a) : (V.setCell ⟨a, o, none⟩ v).cell? ⟨b, o', none⟩ = some x := by
  have := Below.heap_setCell V ⟨a, o, none⟩ v b hne
  simp only [World.cell?] at h ⊢
  rw [this]; exact h
set_option maxRecDepth 100000 in
set_option maxHeartbeats 40000000 in
theorem offerF (w0 W : World) (gc M n u : Nat) (R f : Nat → Nat) (ht : Tab w0) (hold : Below w0.heap.size w0 W) (hnew : w0.heap.size ≤ gc) (hC : CAt W gc M f) (hM : M ≤ 65536) (hn : n ≤ 12) (hf : ∀ s, s < 2 ^ n → f s = wA R M u s) :
    Calls Tryd.prog 29 #[.pointer (some ⟨gc, 0, none⟩), .agg #[.int .u64 (askN R u n : Int)], .int .i64 ((2 ^ n - 1 : Nat) : Int)] W fun e W' => e = .returned (.tuple #[]) ∧ ∃ f', Hid (Below w0.heap.size w0 W') ∧ Hid (CAt W' gc M f') ∧ Hid (∀ s, s < 2 ^ n → f' s = wA R M (u + 1) s) := by
  have hN12 : 2 ^ n ≤ 4096 := Nat.pow_le_pow_right (n := 2) (j := 12) (by decide) hn
  have hN0 : 0 < 2 ^ n := Nat.pow_pos (by decide)
  have hwl : askN R u n < 18446744073709551616 := Nat.lt_of_lt_of_le (askN_lt R u n) (show 2 ^ n ≤ 2 ^ 64 from Nat.pow_le_pow_right (by decide) (by omega))
  have hst : Hid (∀ k, k < 2 ^ n → TkS R M u k (askN R u n &&& k) (wA R M u k)) := fun k hk => TkS.start hk hn
  have hemp : Hid (nums (askN R u n) = [] → ∀ s, s < 2 ^ n → wA R M (u + 1) s = wA R M u s) := fun h s hs => by
    have h1 := (TkS.start (R := R) (M := M) (u := u) hs hn)
    have h2 := h1.done (by rw [nums_and, List.filter_eq_nil_iff]; intro j _ hj; have := (mem_nums _ j).2 hj; rw [h] at this; cases this)
    exact h2.symm
  have ht' := hide' ht
  replace hwl := hide' hwl
  have hf' := hide' hf
  have hS0 : Hid (OfS w0 (W.alloc (.cells #[.int .u64 (askN R u n : Int)] 60)) gc M f W.heap.size (askN R u n)) :=
    ⟨hold.alloc hold.size _, hnew, hC.lt, hC.below ((Below.refl _ _).alloc (Nat.le_refl _) _), Boxed.new W 60 _⟩
  clear ht hf hold hC
  generalize 2 ^ n = N at *
  generalize askN R u n = who at *
  have hcast : (((N - 1 : Nat)) : Int) = (N : Int) - 1 := by omega
  have KL : Hid (∀ V, Calls Tryd.prog 39 #[.agg #[.int .u64 (who : Int)]] V fun e w' => e = .returned (.int .i64 (nums who).length) ∧ Below V.heap.size V w') := fun V => len64 who hwl.out V
  go_enter Tryd.func29, Tryd.ntmps29
  have c0 := hS0.out.box.cell
  go_wp2_with fail
  refine (KL.out _).mono ?_
  rintro e w1 ⟨rfl, hb1⟩
  have hS1 : Hid (OfS w0 w1 gc M f W.heap.size who) := hS0.out.over hb1
  clear hb1 hS0 c0 KL
  by_cases hz : (nums who).length = 0
  · have hz' : (((nums who).length : Int) == 0) = true := by rw [hz]; rfl
    go_wp2
    refine bodyPost_ret (v := .tuple #[]) (by simp [results, Tryd.results29, go_sem]) rfl ?_
    exact ⟨rfl, f, hS1.out.old, hS1.out.cat, fun s hs => by rw [hemp.out (List.eq_nil_of_length_eq_zero hz) s hs]; exact hf'.out s hs⟩
  · have hz' : (((nums who).length : Int) == 0) = false := by rw [beq_eq_false_iff_ne]; omega
    have hstart : Hid (∀ t, t < N → f t = if N - 1 < t then wA R M (u + 1) t else wA R M u t) := fun t h => by rw [if_neg (by omega)]; exact hf'.out t h
    clear hemp hf' hz
    go_wp2
    go_loopw [6, 7] (fun p _ wr => ∃ (k : Nat) (F : Nat → Nat), k < N ∧ p = .int .i64 (k : Int) ∧ Hid (OfS w0 wr gc M F W.heap.size who) ∧ Hid (∀ t, t < N → F t = if k < t then wA R M (u + 1) t else wA R M u t)) (fun p _ _ => (intOf p).toNat)
    case atStart => exact ⟨N - 1, f, by omega, by rw [hcast], hS1, hstart⟩
    case round =>
      clear hS1 hstart
      obtain ⟨k, F, hk, rfl, hS, hF⟩ := hrel
      by_cases hk0 : k = 0
      · subst hk0
        have hk0' : ¬ (0 : Int) < ((0 : Nat) : Int) := by omega
        go_wp2
        refine bodyPost_end (v := .tuple #[]) (by simp [results, Tryd.results29, go_sem]) rfl ?_
        refine ⟨rfl, hS.out.old, F, hS.out.cat, fun s hs => ?_⟩
        have hFs := hF.out s hs
        by_cases e : s = 0
        · subst e; rw [hFs, if_neg (by omega), wA_zero]
        · rw [hFs, if_pos (by omega)]
      · have hk0' : (0 : Int) < (k : Int) := by omega
        have c0 := hS.out.box.cell
        have KA := hide' (and64 who k hwl.out (by omega))
        have hkw : IntKind.u64.wrap (k : Int) = (k : Int) := by rw [IntKind.wrap_u64]; omega
        have hT0 := hide' (hst.out k hk)
        generalize hT : who &&& k = T0 at *
        clear hT
        have hs0 : Hid (wr.drew.cell? ⟨W.heap.size, 0, none⟩ = some (.int .u64 (who : Int)) ∧ Below wr.heap.size wr wr.drew) := ⟨c0, (Below.refl _ wr).drew⟩
        have hbl := hS.out.box.lt
        have hc0 : Hid (∀ V, Below wr.heap.size wr V → V.cell? ⟨W.heap.size, 0, none⟩ = some (.int .u64 (who : Int))) := fun V hV => cell_over c0 hV
        go_upto_region 5 with fail
        go_cut [7] from 12 to 20 (fun s wx => ∃ tb, s = .pointer (some ⟨tb, 0, none⟩) ∧ Hid (OfS w0 wx gc M F W.heap.size who) ∧ Hid (Boxed wx tb 60 (.int .u64 (T0 : Int))) ∧ W.heap.size < tb)
        case first =>
          go_region_held3 (fun V => V.cell? ⟨W.heap.size, 0, none⟩ = some (.int .u64 (who : Int)) ∧ Below wr.heap.size wr V) (first | assumption | (exact hs0.out) | (exact kwL hs0.out _) | (exact kwL hx2 _) | (exact kwL hx3 _) | (exact kwS hx3 hbl (Nat.le_refl _)) | (exact kwS hx3 hbl hx2.2.size)) (first | (go_at_call 23; refine (ofC _ _).mono ?_; rintro e w2 ⟨rfl, hb2⟩; have hx2 := kwA (wr := wr) (b := W.heap.size) (x := .int .u64 (who : Int)) (by first | exact hs0.out | exact kwL hs0.out _) hb2; first | (have bT2 : Boxed w2 wr.heap.size 60 (.int .u64 0) := (hb2.block wr.heap.size (by simp)).trans (Boxed.new wr.drew 60 (.int .u64 0)); have cT2 := bT2.cell; have fT2 := bT2.frozen) | skip) | (go_at_call 47; refine (KA.out _).mono ?_; rintro e w3 ⟨rfl, hb3⟩; have hx3 := kwA (wr := wr) (b := W.heap.size) (x := .int .u64 (who : Int)) (by first | exact hx2 | exact kwL hx2 _) hb3; first | (have bT3 : Boxed w3 wr.heap.size 60 (.int .u64 0) := (hb3.block wr.heap.size bT2.lt).trans bT2; have cT3 := bT3.cell; have fT3 := bT3.frozen) | (have bT3 : Boxed w3 w2.heap.size 60 (.int .u64 0) := (hb3.block w2.heap.size (by simp)).trans (Boxed.new w2 60 (.int .u64 0)); have cT3 := bT3.cell; have fT3 := bT3.frozen) | skip))

          · go_wp2
            go_meet
            exact ⟨_, rfl, (hS.out.over hx3.2).over ((Below.refl _ w3).alloc (Nat.le_refl _) _), Boxed.new w3 _ _, Nat.lt_of_lt_of_le hbl hx3.2.size⟩
          · go_wp2
            go_meet
            exact ⟨_, rfl, (hS.out.over hx3.2).setT (Nat.lt_of_lt_of_le hbl hx2.2.size) _, bT3.set _, Nat.lt_of_lt_of_le hbl hx2.2.size⟩
          · go_wp2
            go_meet
            exact ⟨_, rfl, (hS.out.over hx3.2).setT hbl _, bT3.set _, hbl⟩
        case rest =>
        obtain ⟨tb0, rfl, hS2, hT2, htb⟩ := hcut
        clear KA hs0 hbl hc0 hkw c0 hS
        have hS3 : Hid (OfS w0 wc gc M (upd F k (wA R M u k)) W.heap.size who) := hS2.out.ext fun s => by
          by_cases e : s = k
          · subst e; rw [upd_same, hF.out s hk, if_neg (Nat.lt_irrefl _)]
          · rw [upd_ne _ _ e]
        clear hS2
        go_wp2
        go_loopw [7] (fun p wr => ∃ (tb T v : Nat), p = .pointer (some ⟨tb, 0, none⟩) ∧ W.heap.size < tb ∧ Hid (OfS w0 wr gc M (upd F k v) W.heap.size who) ∧ Hid (Boxed wr tb 60 (.int .u64 (T : Int))) ∧ Hid (TkS R M u k T v)) (fun p wr => boxN wr p)
        case atStart => exact ⟨tb0, T0, _, rfl, htb, hS3, hT2, hT0⟩
        case round =>
          clear hS3 hT2 hT0 htb
          obtain ⟨tb, T, v, rfl, htb, hS, hT, hTk⟩ := hrel
          have cT := hT.out.cell
          have KL : Hid (∀ V, Calls Tryd.prog 39 #[.agg #[.int .u64 (T : Int)]] V fun e w' => e = .returned (.int .i64 (nums T).length) ∧ Below V.heap.size V w') := fun V => len64 T hTk.out.word V
          go_wp2_with fail
          refine (KL.out _).mono ?_
          rintro e w5 ⟨rfl, hb5⟩
          have hmea : boxN wr (.pointer (some ⟨tb, 0, none⟩)) = (nums T).length := boxN_at cT
          have hS5 : Hid (OfS w0 w5 gc M (upd F k v) W.heap.size who) := hS.out.over hb5
          have hT5 : Hid (Boxed w5 tb 60 (.int .u64 (T : Int))) := (hb5.block tb hT.out.lt).trans hT.out
          clear KL cT hS hT hb5
          cases hnT : nums T with
          | nil =>
            have hv := hTk.out.done hnT
            subst hv
            have hl0 : ¬ (0 : Int) < (([] : List (Fin 64)).length : Int) := by simp
            have hwk : IntKind.i64.wrap ((k : Int) - 1) = ((k - 1 : Nat) : Int) := by rw [IntKind.wrap_i64]; omega
            have hF2 : Hid (∀ t, t < N → upd F k (wA R M (u + 1) k) t = if k - 1 < t then wA R M (u + 1) t else wA R M u t) := fun t ht => by
              by_cases e : t = k
              · subst e; rw [upd_same, if_pos (by omega)]
              · rw [upd_ne _ _ e, hF.out t ht]
                by_cases e2 : k < t
                · rw [if_pos e2, if_pos (by omega)]
                · rw [if_neg e2, if_neg (by omega)]
            go_wp2
            go_roundw
            case rel => exact ⟨k - 1, _, by omega, by go_num, hS5, hF2⟩
            case measure => simp [intOf]; omega
          | cons j l =>
            have hl1 : (0 : Int) < ((j :: l).length : Int) := by simp only [List.length_cons]; omega
            obtain ⟨hTk2, hnT2⟩ := hTk.out.step hnT
            have hkj := hTk.out.sub j (by rw [hnT]; exact List.mem_cons_self ..)
            have hk' := clS_lt hkj
            have hj12 : j.val < 12 := by
              rcases Nat.lt_or_ge j.val 12 with h | h
              · exact h
              · rw [Nat.testBit_lt_two_pow (Nat.lt_of_lt_of_le (show k < 2 ^ 12 by omega) (Nat.pow_le_pow_right (by decide) h))] at hkj; cases hkj
            have hx : upd F k v (clS k j.val) = wA R M u (clS k j.val) := by rw [upd_ne _ _ (Nat.ne_of_lt hk'), hF.out _ (by omega), if_neg (by omega)]
            have hxM : wA R M u (clS k j.val) ≤ M := Nat.min_le_right _ _
            have hvM := hTk.out.le
            have hand := i64_andNot_nat k (2 ^ j.val) (by omega) (Nat.lt_of_lt_of_le (Nat.pow_lt_pow_right (by decide) hj12) (show 2 ^ 12 ≤ 9223372036854775808 by decide))
            have KLw : Hid (∀ V, Below w5.heap.size w5 V → Calls Tryd.prog 45 #[.agg #[.int .u64 (T : Int)]] V fun e w' => e = .returned (.int .i64 (j.val : Int)) ∧ Below V.heap.size V w') := fun V hV => by
              have := low64 T hTk.out.word V ((ht'.out.over hS5.out.old).over hV)
              rw [hnT] at this
              exact this
            have KLt : Hid (∀ V, Tab V → Calls Tryd.prog 45 #[.agg #[.int .u64 (T : Int)]] V fun e w' => e = .returned (.int .i64 (j.val : Int)) ∧ Below V.heap.size V w') := fun V hV => by
              have := low64 T hTk.out.word V hV
              rw [hnT] at this
              exact this
            have KW : Hid (∀ V, Calls Tryd.prog 48 #[.agg #[.int .u64 (T : Int)], .int .i64 (j.val : Int)] V fun e w' => e = .returned (.agg #[.int .u64 (clS T j.val : Int)]) ∧ Below V.heap.size V w') := fun V => withoutM T hTk.out.word j.val j.isLt (2 ^ j.val) _ (shl64 j.val j.isLt) (show 2 ^ j.val < 2 ^ 64 from Nat.pow_lt_pow_right (by decide) j.isLt) rfl V
            have hS6 : Hid (∀ V, Below w5.heap.size w5 V → V.cell? ⟨gc, 0, none⟩ = some (.int .u64 (M : Int)) ∧ V.cell? ⟨gc, 1 + k, none⟩ = some (.int .u64 (v : Int)) ∧ V.cell? ⟨gc, 1 + clS k j.val, none⟩ = some (.int .u64 (wA R M u (clS k j.val) : Int)) ∧ V.cell? ⟨tb, 0, none⟩ = some (.int .u64 (T : Int)) ∧ V.frozen? ⟨gc, 1 + k, none⟩ = false) := fun V hV => by
              have hC := (hS5.out.over hV).cat
              refine ⟨hC.cell0, ?_, ?_, cell_over hT5.out.cell hV, hC.frz _⟩
              · have := hC.cellW (s := k) (by omega)
                rwa [upd_same] at this
              · have := hC.cellW (s := clS k j.val) (by omega)
                rwa [hx] at this
            have hgl := hS5.out.cat.lt
            have hTk3 := hide' hTk2
            have hnT3 := hide' hnT2
            have hmea2 := hide' hmea
            rw [show k &&& (18446744073709551615 - 2 ^ j.val) = clS k j.val from rfl] at hand
            have hsh : IntKind.i64.wrap (2 ^ j.val) = ((2 ^ j.val : Nat) : Int) := by
              have h1 : 2 ^ j.val < 2 ^ 12 := Nat.pow_lt_pow_right (by decide) hj12
              have h2 : ((2 : Int) ^ j.val) = ((2 ^ j.val : Nat) : Int) := by simp
              rw [h2, IntKind.wrap_i64]
              generalize (2 ^ j.val : Nat) = q at h1 ⊢
              omega
            have hadd : IntKind.u64.wrap ((v : Int) + (wA R M u (clS k j.val) : Int)) = ((v + wA R M u (clS k j.val) : Nat) : Int) := by rw [IntKind.wrap_u64]; omega
            clear hmea hTk2 hnT2 hkj hx
            generalize clS k j.val = k2 at *
            generalize clS T j.val = T2 at *
            generalize wA R M u k2 = x at *
            generalize (2 ^ j.val : Nat) = pj at *
            generalize j.val = jn at *
            have hk1 : ¬ (k : Int) < 0 := by omega
            have hk3 : (k : Int) < 4096 := by omega
            have hk4 : (k2 : Int) < 4096 := by omega
            have hk5 : ¬ (k2 : Int) < 0 := by omega
            have hjj : ¬ (jn : Int) < 0 := by omega
            obtain ⟨d1, d2, d3, d4, d5⟩ := hS6.out w5.drew ((Below.refl _ w5).drew)
            have hj64 : jn < 64 := by omega
            have htg : tb ≠ gc := by have := hS5.out.lt; omega
            have hkk2 : k2 < k := hk'
            clear hk' hj12 hxM hvM
            have hst6 : Hid (∀ (V : World) (y : Value), (V.cell? ⟨gc, 0, none⟩ = some (.int .u64 (M : Int)) ∧ V.cell? ⟨gc, 1 + k2, none⟩ = some (.int .u64 (x : Int)) ∧ V.cell? ⟨tb, 0, none⟩ = some (.int .u64 (T : Int))) → ((V.setCell ⟨gc, 1 + k, none⟩ y).cell? ⟨gc, 0, none⟩ = some (.int .u64 (M : Int)) ∧ (V.setCell ⟨gc, 1 + k, none⟩ y).cell? ⟨gc, 1 + k2, none⟩ = some (.int .u64 (x : Int)) ∧ (V.setCell ⟨gc, 1 + k, none⟩ y).cell? ⟨tb, 0, none⟩ = some (.int .u64 (T : Int)))) := fun V y h =>
              ⟨(World.cell?_setCell_other V _ _ y (by intro e; injection e with e1 e2; omega)).trans h.1, (World.cell?_setCell_other V _ _ y (by intro e; injection e with e1 e2; omega)).trans h.2.1, cell_otherB h.2.2 htg⟩
            have hfin : Hid (∀ V, Below w5.heap.size w5 V → OfS w0 (V.setCell ⟨gc, 1 + k, none⟩ (.int .u64 (min ((v : Int) + (x : Int)) (M : Int)))) gc M (upd F k (min (v + x) M)) W.heap.size who ∧ Boxed (V.setCell ⟨gc, 1 + k, none⟩ (.int .u64 (min ((v : Int) + (x : Int)) (M : Int)))) tb 60 (.int .u64 (T : Int))) := fun V hV => by
              have hm : ((min (v + x) M : Nat) : Int) = min ((v : Int) + (x : Int)) (M : Int) := by omega
              rw [← hm]
              refine ⟨((hS5.out.over hV).setW k _).ext fun s => ?_, box_other ((hV.block tb hT5.out.lt).trans hT5.out) htg _⟩
              by_cases e : s = k
              · subst e; rw [upd_same, upd_same]
              · rw [upd_ne _ _ e, upd_ne _ _ e, upd_ne _ _ e]
            go_upto_block 3 with fail
            go_cut [7] from 21 to 54 (fun s wx => s = .pointer (some ⟨tb, 0, none⟩) ∧ Hid (OfS w0 wx gc M (upd F k (min (v + x) M)) W.heap.size who) ∧ Hid (Boxed wx tb 60 (.int .u64 (T : Int))))
            case first =>
              clear hF hst hTk hTk3 hnT3 hmea2 hwl ht' hcast hz' hN0 hn hnew KW KLt hk0 hS5 hT5 hnT
              as_aux_lemma =>
              go_wp2
              refine wp_region_held_drew (S := (fun V => V.cell? ⟨gc, 0, none⟩ = some (.int .u64 (M : Int)) ∧ V.cell? ⟨gc, 1 + k2, none⟩ = some (.int .u64 (x : Int)) ∧ V.cell? ⟨tb, 0, none⟩ = some (.int .u64 (T : Int)))) (by kernel_rfl) ?_ (fun hHeld => ?_)
              · exact ⟨d1, d3, d4⟩
              refine wpAnyH_take (i := 0) (oi := { dst := some 28, op := Op.move (Operand.tmp 0), type := 86, pos := "sets.go:75", after := #[], guard := none }) (v := ?_) rfl (by kernel_rfl) (by kernel_rfl) (by kernel_rfl) (fun _ _ _ h => h) (Or.inl ⟨by rfl, ?_⟩) (by assumption) ?_
              rotate_left
              · intro w hSw; (try dsimp only at hSw); go_simp <;> with_reducible rfl
              simp only [Act.put, List.setIfInBounds_toArray, List.set_cons_zero, List.set_cons_succ]
              refine wpAnyH_take (i := 1) (oi := { dst := some 29, op := Op.move (Operand.tmp 6), type := 3, pos := "sets.go:75", after := #[], guard := none }) (v := ?_) rfl (by kernel_rfl) (by kernel_rfl) (by kernel_rfl) (fun _ _ _ h => h) (Or.inl ⟨by rfl, ?_⟩) (by assumption) ?_
              rotate_left
              · intro w hSw; (try dsimp only at hSw); go_simp <;> with_reducible rfl
              simp only [Act.put, List.setIfInBounds_toArray, List.set_cons_zero, List.set_cons_succ]
              refine wpAnyH_take (i := 2) (oi := { dst := some 30, op := Op.move (Operand.tmp 0), type := 86, pos := "sets.go:75", after := #[], guard := none }) (v := ?_) rfl (by kernel_rfl) (by kernel_rfl) (by kernel_rfl) (fun _ _ _ h => h) (Or.inl ⟨by rfl, ?_⟩) (by assumption) ?_
              rotate_left
              · intro w hSw; (try dsimp only at hSw); go_simp <;> with_reducible rfl
              simp only [Act.put, List.setIfInBounds_toArray, List.set_cons_zero, List.set_cons_succ]
              refine wpAnyH_take (i := 3) (oi := { dst := some 31, op := Op.move (Operand.tmp 6), type := 3, pos := "sets.go:75", after := #[], guard := none }) (v := ?_) rfl (by kernel_rfl) (by kernel_rfl) (by kernel_rfl) (fun _ _ _ h => h) (Or.inl ⟨by rfl, ?_⟩) (by assumption) ?_
              rotate_left
              · intro w hSw; (try dsimp only at hSw); go_simp <;> with_reducible rfl
              simp only [Act.put, List.setIfInBounds_toArray, List.set_cons_zero, List.set_cons_succ]
              refine wpAnyH_take (i := 4) (oi := { dst := some 32, op := Op.nilCheck (Operand.tmp 30), type := 0, pos := "sets.go:75", after := #[{ on := 2, ground := Ground.data }], guard := none }) (v := ?_) rfl (by kernel_rfl) (by kernel_rfl) (by kernel_rfl) (fun _ _ _ h => h) (Or.inl ⟨by rfl, ?_⟩) (by assumption) ?_
              rotate_left
              · intro w hSw; (try dsimp only at hSw); go_simp <;> with_reducible rfl
              simp only [Act.put, List.setIfInBounds_toArray, List.set_cons_zero, List.set_cons_succ]
              refine wpAnyH_take (i := 5) (oi := { dst := some 33, op := Op.fieldAddr 71 (Operand.tmp 32) 1, type := 0, pos := "sets.go:75", after := #[{ on := 4, ground := Ground.data }], guard := none }) (v := ?_) rfl (by kernel_rfl) (by kernel_rfl) (by kernel_rfl) (fun _ _ _ h => h) (Or.inl ⟨by rfl, ?_⟩) (by assumption) ?_
              rotate_left
              · intro w hSw; (try dsimp only at hSw); go_simp <;> with_reducible rfl
              simp only [Act.put, List.setIfInBounds_toArray, List.set_cons_zero, List.set_cons_succ]
              refine wpAnyH_take (i := 6) (oi := { dst := some 34, op := Op.indexAddr 69 (Operand.tmp 33) (Operand.tmp 31), type := 0, pos := "sets.go:75", after := #[{ on := 5, ground := Ground.data }, { on := 3, ground := Ground.data }], guard := none }) (v := ?_) rfl (by kernel_rfl) (by kernel_rfl) (by kernel_rfl) (fun _ _ _ h => h) (Or.inl ⟨by rfl, ?_⟩) (by assumption) ?_
              rotate_left
              · intro w hSw; (try dsimp only at hSw); go_simp <;> with_reducible rfl
              simp only [Act.put, List.setIfInBounds_toArray, List.set_cons_zero, List.set_cons_succ]
              refine wpAnyH_take (i := 8) (oi := { dst := some 36, op := Op.move (Operand.tmp 0), type := 86, pos := "sets.go:75", after := #[], guard := none }) (v := ?_) rfl (by kernel_rfl) (by kernel_rfl) (by kernel_rfl) (fun _ _ _ h => h) (Or.inl ⟨by rfl, ?_⟩) (by assumption) ?_
              rotate_left
              · intro w hSw; (try dsimp only at hSw); go_simp <;> with_reducible rfl
              simp only [Act.put, List.setIfInBounds_toArray, List.set_cons_zero, List.set_cons_succ]
              refine wpAnyH_take (i := 9) (oi := { dst := some 37, op := Op.move (Operand.tmp 6), type := 3, pos := "sets.go:75", after := #[], guard := none }) (v := ?_) rfl (by kernel_rfl) (by kernel_rfl) (by kernel_rfl) (fun _ _ _ h => h) (Or.inl ⟨by rfl, ?_⟩) (by assumption) ?_
              rotate_left
              · intro w hSw; (try dsimp only at hSw); go_simp <;> with_reducible rfl
              simp only [Act.put, List.setIfInBounds_toArray, List.set_cons_zero, List.set_cons_succ]
              refine wpAnyH_take (i := 10) (oi := { dst := some 38, op := Op.load 60 (Operand.tmp 7), type := 60, pos := "sets.go:75", after := #[], guard := none }) (v := ?_) rfl (by kernel_rfl) (by kernel_rfl) (by kernel_rfl) (fun _ _ _ h => h) (Or.inl ⟨by rfl, ?_⟩) (by assumption) ?_
              rotate_left
              · intro w hSw; (try dsimp only at hSw); go_simp <;> with_reducible rfl
              simp only [Act.put, List.setIfInBounds_toArray, List.set_cons_zero, List.set_cons_succ]
              refine wpAnyH_take (i := 14) (oi := { dst := some 42, op := Op.nilCheck (Operand.tmp 36), type := 0, pos := "sets.go:75", after := #[{ on := 8, ground := Ground.data }], guard := none }) (v := ?_) rfl (by kernel_rfl) (by kernel_rfl) (by kernel_rfl) (fun _ _ _ h => h) (Or.inl ⟨by rfl, ?_⟩) (by assumption) ?_
              rotate_left
              · intro w hSw; (try dsimp only at hSw); go_simp <;> with_reducible rfl
              simp only [Act.put, List.setIfInBounds_toArray, List.set_cons_zero, List.set_cons_succ]
              refine wpAnyH_take (i := 15) (oi := { dst := some 43, op := Op.fieldAddr 71 (Operand.tmp 42) 1, type := 0, pos := "sets.go:75", after := #[{ on := 14, ground := Ground.data }], guard := none }) (v := ?_) rfl (by kernel_rfl) (by kernel_rfl) (by kernel_rfl) (fun _ _ _ h => h) (Or.inl ⟨by rfl, ?_⟩) (by assumption) ?_
              rotate_left
              · intro w hSw; (try dsimp only at hSw); go_simp <;> with_reducible rfl
              simp only [Act.put, List.setIfInBounds_toArray, List.set_cons_zero, List.set_cons_succ]
              refine wpAnyH_take (i := 19) (oi := { dst := some 47, op := Op.move (Operand.tmp 0), type := 86, pos := "sets.go:75", after := #[], guard := none }) (v := ?_) rfl (by kernel_rfl) (by kernel_rfl) (by kernel_rfl) (fun _ _ _ h => h) (Or.inl ⟨by rfl, ?_⟩) (by assumption) ?_
              rotate_left
              · intro w hSw; (try dsimp only at hSw); go_simp <;> with_reducible rfl
              simp only [Act.put, List.setIfInBounds_toArray, List.set_cons_zero, List.set_cons_succ]
              refine wpAnyH_take (i := 20) (oi := { dst := some 48, op := Op.nilCheck (Operand.tmp 47), type := 0, pos := "sets.go:75", after := #[{ on := 19, ground := Ground.data }], guard := none }) (v := ?_) rfl (by kernel_rfl) (by kernel_rfl) (by kernel_rfl) (fun _ _ _ h => h) (Or.inl ⟨by rfl, ?_⟩) (by assumption) ?_
              rotate_left
              · intro w hSw; (try dsimp only at hSw); go_simp <;> with_reducible rfl
              simp only [Act.put, List.setIfInBounds_toArray, List.set_cons_zero, List.set_cons_succ]
              refine wpAnyH_take (i := 21) (oi := { dst := some 49, op := Op.fieldAddr 71 (Operand.tmp 48) 0, type := 0, pos := "sets.go:75", after := #[{ on := 20, ground := Ground.data }], guard := none }) (v := ?_) rfl (by kernel_rfl) (by kernel_rfl) (by kernel_rfl) (fun _ _ _ h => h) (Or.inl ⟨by rfl, ?_⟩) (by assumption) ?_
              rotate_left
              · intro w hSw; (try dsimp only at hSw); go_simp <;> with_reducible rfl
              simp only [Act.put, List.setIfInBounds_toArray, List.set_cons_zero, List.set_cons_succ]
              refine wpAnyH_take (i := 22) (oi := { dst := some 50, op := Op.load 40 (Operand.tmp 49), type := 40, pos := "sets.go:75", after := #[{ on := 21, ground := Ground.data }], guard := none }) (v := ?_) rfl (by kernel_rfl) (by kernel_rfl) (by kernel_rfl) (fun _ _ _ h => h) (Or.inl ⟨by rfl, ?_⟩) (by assumption) ?_
              rotate_left
              · intro w hSw; (try dsimp only at hSw); go_simp <;> with_reducible rfl
              simp only [Act.put, List.setIfInBounds_toArray, List.set_cons_zero, List.set_cons_succ]
              refine wpAnyH_take (i := 24) (oi := { dst := some 52, op := Op.nilCheck (Operand.tmp 28), type := 0, pos := "sets.go:75", after := #[{ on := 0, ground := Ground.data }], guard := none }) (v := ?_) rfl (by kernel_rfl) (by kernel_rfl) (by kernel_rfl) (fun _ _ _ h => h) (Or.inl ⟨by rfl, ?_⟩) (by assumption) ?_
              rotate_left
              · intro w hSw; (try dsimp only at hSw); go_simp <;> with_reducible rfl
              simp only [Act.put, List.setIfInBounds_toArray, List.set_cons_zero, List.set_cons_succ]
              refine wpAnyH_take (i := 25) (oi := { dst := some 53, op := Op.fieldAddr 71 (Operand.tmp 52) 1, type := 0, pos := "sets.go:75", after := #[{ on := 24, ground := Ground.data }], guard := none }) (v := ?_) rfl (by kernel_rfl) (by kernel_rfl) (by kernel_rfl) (fun _ _ _ h => h) (Or.inl ⟨by rfl, ?_⟩) (by assumption) ?_
              rotate_left
              · intro w hSw; (try dsimp only at hSw); go_simp <;> with_reducible rfl
              simp only [Act.put, List.setIfInBounds_toArray, List.set_cons_zero, List.set_cons_succ]
              refine wpAnyH_ready (rs := [7, 11]) (by kernel_rfl) (by simp) ?_
              refine AllReadyH.cons (o := { dst := some 35, op := Op.load 40 (Operand.tmp 34), type := 40, pos := "sets.go:75", after := #[{ on := 6, ground := Ground.data }], guard := none }) rfl (fun K hK => ?_) ?_
              · skip
                go_simp
                refine hK.out _ _ ?_ (fun hHeld => ?_)
                · exact ⟨d1, d3, d4⟩
                clear hK K
                try simp only [Act.put, List.setIfInBounds_toArray, List.set_cons_zero, List.set_cons_succ]
                refine wpAnyH_ready (rs := [11]) (by kernel_rfl) (by simp) ?_
                refine AllReadyH.cons (o := { dst := some 39, op := Op.call { callee := Callee.value (Operand.func 45), args := #[Operand.tmp 38], argTypes := #[60] }, type := 3, pos := "sets.go:75", after := #[{ on := 10, ground := Ground.data }], guard := none }) rfl (fun K hK => ?_) AllReadyH.nil
                go_simp
                go_at_call 45; refine (KLw.out _ ((Below.refl _ w5).drew)).mono ?_; rintro e w6 ⟨rfl, hb6⟩; have hb6' : Below w5.heap.size w5 w6 := ((Below.refl _ w5).drew).trans hb6; obtain ⟨e1, e2, e3, e4, e5⟩ := hS6.out w6 hb6'; (try dsimp only)
                refine hK.out _ _ ?_ (fun hHeld => ?_)
                · exact ⟨e1, e3, e4⟩
                clear hK K
                try simp only [Act.put, List.setIfInBounds_toArray, List.set_cons_zero, List.set_cons_succ]
                refine wpAnyH_take (i := 12) (oi := { dst := some 40, op := Op.binOp BinOp.shl 3 (Operand.const (Value.int IntKind.i64 1)) (Operand.tmp 39) 3, type := 3, pos := "sets.go:75", after := #[{ on := 11, ground := Ground.data }], guard := none }) (v := ?_) rfl (by kernel_rfl) (by kernel_rfl) (by kernel_rfl) (fun _ _ _ h => h) (Or.inl ⟨by rfl, ?_⟩) (by assumption) ?_
                rotate_left
                · intro w hSw; (try dsimp only at hSw); go_simp <;> with_reducible rfl
                simp only [Act.put, List.setIfInBounds_toArray, List.set_cons_zero, List.set_cons_succ]
                refine wpAnyH_take (i := 13) (oi := { dst := some 41, op := Op.binOp BinOp.andNot 3 (Operand.tmp 37) (Operand.tmp 40) 3, type := 3, pos := "sets.go:75", after := #[{ on := 9, ground := Ground.data }, { on := 12, ground := Ground.data }], guard := none }) (v := ?_) rfl (by kernel_rfl) (by kernel_rfl) (by kernel_rfl) (fun _ _ _ h => h) (Or.inl ⟨by rfl, ?_⟩) (by assumption) ?_
                rotate_left
                · intro w hSw; (try dsimp only at hSw); go_simp <;> with_reducible rfl
                simp only [Act.put, List.setIfInBounds_toArray, List.set_cons_zero, List.set_cons_succ]
                refine wpAnyH_take (i := 16) (oi := { dst := some 44, op := Op.indexAddr 69 (Operand.tmp 43) (Operand.tmp 41), type := 0, pos := "sets.go:75", after := #[{ on := 15, ground := Ground.data }, { on := 13, ground := Ground.data }], guard := none }) (v := ?_) rfl (by kernel_rfl) (by kernel_rfl) (by kernel_rfl) (fun _ _ _ h => h) (Or.inl ⟨by rfl, ?_⟩) (by assumption) ?_
                rotate_left
                · intro w hSw; (try dsimp only at hSw); go_simp <;> with_reducible rfl
                simp only [Act.put, List.setIfInBounds_toArray, List.set_cons_zero, List.set_cons_succ]
                refine wpAnyH_take (i := 17) (oi := { dst := some 45, op := Op.load 40 (Operand.tmp 44), type := 40, pos := "sets.go:75", after := #[{ on := 16, ground := Ground.data }], guard := none }) (v := ?_) rfl (by kernel_rfl) (by kernel_rfl) (by kernel_rfl) (fun _ _ _ h => h) (Or.inl ⟨by rfl, ?_⟩) (by assumption) ?_
                rotate_left
                · intro w hSw; (try dsimp only at hSw); go_simp <;> with_reducible rfl
                simp only [Act.put, List.setIfInBounds_toArray, List.set_cons_zero, List.set_cons_succ]
                refine wpAnyH_take (i := 18) (oi := { dst := some 46, op := Op.binOp BinOp.add 40 (Operand.tmp 35) (Operand.tmp 45) 40, type := 40, pos := "sets.go:75", after := #[{ on := 7, ground := Ground.data }, { on := 17, ground := Ground.data }], guard := none }) (v := ?_) rfl (by kernel_rfl) (by kernel_rfl) (by kernel_rfl) (fun _ _ _ h => h) (Or.inl ⟨by rfl, ?_⟩) (by assumption) ?_
                rotate_left
                · intro w hSw; (try dsimp only at hSw); go_simp <;> with_reducible rfl
                simp only [Act.put, List.setIfInBounds_toArray, List.set_cons_zero, List.set_cons_succ]
                refine wpAnyH_ready (rs := [23]) (by kernel_rfl) (by simp) ?_
                refine AllReadyH.cons (o := { dst := some 51, op := Op.call { callee := Callee.builtin Builtin.min, args := #[Operand.tmp 46, Operand.tmp 50], argTypes := #[40, 40] }, type := 40, pos := "sets.go:75", after := #[{ on := 18, ground := Ground.data }, { on := 22, ground := Ground.data }], guard := none }) rfl (fun K hK => ?_) AllReadyH.nil
                go_simp
                refine hK.out _ _ ?_ (fun hHeld => ?_)
                · exact ⟨e1, e3, e4⟩
                clear hK K
                try simp only [Act.put, List.setIfInBounds_toArray, List.set_cons_zero, List.set_cons_succ]
                refine wpAnyH_take (i := 26) (oi := { dst := some 54, op := Op.indexAddr 69 (Operand.tmp 53) (Operand.tmp 29), type := 0, pos := "sets.go:75", after := #[{ on := 25, ground := Ground.data }, { on := 1, ground := Ground.data }, { on := 0, ground := Ground.phase }, { on := 1, ground := Ground.phase }, { on := 2, ground := Ground.phase }, { on := 3, ground := Ground.phase }, { on := 4, ground := Ground.phase }, { on := 5, ground := Ground.phase }, { on := 6, ground := Ground.phase }, { on := 7, ground := Ground.phase }, { on := 8, ground := Ground.phase }, { on := 9, ground := Ground.phase }, { on := 10, ground := Ground.phase }, { on := 11, ground := Ground.phase }, { on := 12, ground := Ground.phase }, { on := 13, ground := Ground.phase }, { on := 14, ground := Ground.phase }, { on := 15, ground := Ground.phase }, { on := 16, ground := Ground.phase }, { on := 17, ground := Ground.phase }, { on := 18, ground := Ground.phase }, { on := 19, ground := Ground.phase }, { on := 20, ground := Ground.phase }, { on := 21, ground := Ground.phase }, { on := 22, ground := Ground.phase }, { on := 23, ground := Ground.phase }], guard := none }) (v := ?_) rfl (by kernel_rfl) (by kernel_rfl) (by kernel_rfl) (fun _ _ _ h => h) (Or.inl ⟨by rfl, ?_⟩) (by assumption) ?_
                rotate_left
                · intro w hSw; (try dsimp only at hSw); go_simp <;> with_reducible rfl
                simp only [Act.put, List.setIfInBounds_toArray, List.set_cons_zero, List.set_cons_succ]
                refine wpAnyH_ready (rs := [27]) (by kernel_rfl) (by simp) ?_
                refine AllReadyH.cons (o := { dst := none, op := Op.store 40 (Operand.tmp 54) (Operand.tmp 51), type := 0, pos := "sets.go:75", after := #[{ on := 26, ground := Ground.data }, { on := 23, ground := Ground.data }, { on := 11, ground := Ground.chain }, { on := 0, ground := Ground.phase }, { on := 1, ground := Ground.phase }, { on := 2, ground := Ground.phase }, { on := 3, ground := Ground.phase }, { on := 4, ground := Ground.phase }, { on := 5, ground := Ground.phase }, { on := 6, ground := Ground.phase }, { on := 7, ground := Ground.phase }, { on := 8, ground := Ground.phase }, { on := 9, ground := Ground.phase }, { on := 10, ground := Ground.phase }, { on := 11, ground := Ground.phase }, { on := 12, ground := Ground.phase }, { on := 13, ground := Ground.phase }, { on := 14, ground := Ground.phase }, { on := 15, ground := Ground.phase }, { on := 16, ground := Ground.phase }, { on := 17, ground := Ground.phase }, { on := 18, ground := Ground.phase }, { on := 19, ground := Ground.phase }, { on := 20, ground := Ground.phase }, { on := 21, ground := Ground.phase }, { on := 22, ground := Ground.phase }, { on := 23, ground := Ground.phase }], guard := none }) rfl (fun K hK => ?_) AllReadyH.nil
                go_simp
                refine hK.out _ _ ?_ (fun hHeld => ?_)
                · exact hst6.out _ _ ⟨e1, e3, e4⟩
                clear hK K
                try simp only [Act.put, List.setIfInBounds_toArray, List.set_cons_zero, List.set_cons_succ]
                refine wpAnyH_done (by kernel_rfl) ?_ _
                skip
                go_wp2
                go_meet
                exact ⟨rfl, (hfin.out _ hb6').1, (hfin.out _ hb6').2⟩
              refine AllReadyH.cons (o := { dst := some 39, op := Op.call { callee := Callee.value (Operand.func 45), args := #[Operand.tmp 38], argTypes := #[60] }, type := 3, pos := "sets.go:75", after := #[{ on := 10, ground := Ground.data }], guard := none }) rfl (fun K hK => ?_) AllReadyH.nil
              go_simp
              go_at_call 45; refine (KLw.out _ ((Below.refl _ w5).drew)).mono ?_; rintro e w6 ⟨rfl, hb6⟩; have hb6' : Below w5.heap.size w5 w6 := ((Below.refl _ w5).drew).trans hb6; obtain ⟨e1, e2, e3, e4, e5⟩ := hS6.out w6 hb6'; (try dsimp only)
              refine hK.out _ _ ?_ (fun hHeld => ?_)
              · exact ⟨e1, e3, e4⟩
              clear hK K
              try simp only [Act.put, List.setIfInBounds_toArray, List.set_cons_zero, List.set_cons_succ]
              refine wpAnyH_take (i := 12) (oi := { dst := some 40, op := Op.binOp BinOp.shl 3 (Operand.const (Value.int IntKind.i64 1)) (Operand.tmp 39) 3, type := 3, pos := "sets.go:75", after := #[{ on := 11, ground := Ground.data }], guard := none }) (v := ?_) rfl (by kernel_rfl) (by kernel_rfl) (by kernel_rfl) (fun _ _ _ h => h) (Or.inl ⟨by rfl, ?_⟩) (by assumption) ?_
              rotate_left
              · intro w hSw; (try dsimp only at hSw); go_simp <;> with_reducible rfl
              simp only [Act.put, List.setIfInBounds_toArray, List.set_cons_zero, List.set_cons_succ]
              refine wpAnyH_take (i := 13) (oi := { dst := some 41, op := Op.binOp BinOp.andNot 3 (Operand.tmp 37) (Operand.tmp 40) 3, type := 3, pos := "sets.go:75", after := #[{ on := 9, ground := Ground.data }, { on := 12, ground := Ground.data }], guard := none }) (v := ?_) rfl (by kernel_rfl) (by kernel_rfl) (by kernel_rfl) (fun _ _ _ h => h) (Or.inl ⟨by rfl, ?_⟩) (by assumption) ?_
              rotate_left
              · intro w hSw; (try dsimp only at hSw); go_simp <;> with_reducible rfl
              simp only [Act.put, List.setIfInBounds_toArray, List.set_cons_zero, List.set_cons_succ]
              refine wpAnyH_take (i := 16) (oi := { dst := some 44, op := Op.indexAddr 69 (Operand.tmp 43) (Operand.tmp 41), type := 0, pos := "sets.go:75", after := #[{ on := 15, ground := Ground.data }, { on := 13, ground := Ground.data }], guard := none }) (v := ?_) rfl (by kernel_rfl) (by kernel_rfl) (by kernel_rfl) (fun _ _ _ h => h) (Or.inl ⟨by rfl, ?_⟩) (by assumption) ?_
              rotate_left
              · intro w hSw; (try dsimp only at hSw); go_simp <;> with_reducible rfl
              simp only [Act.put, List.setIfInBounds_toArray, List.set_cons_zero, List.set_cons_succ]
              refine wpAnyH_take (i := 17) (oi := { dst := some 45, op := Op.load 40 (Operand.tmp 44), type := 40, pos := "sets.go:75", after := #[{ on := 16, ground := Ground.data }], guard := none }) (v := ?_) rfl (by kernel_rfl) (by kernel_rfl) (by kernel_rfl) (fun _ _ _ h => h) (Or.inl ⟨by rfl, ?_⟩) (by assumption) ?_
              rotate_left
              · intro w hSw; (try dsimp only at hSw); go_simp <;> with_reducible rfl
              simp only [Act.put, List.setIfInBounds_toArray, List.set_cons_zero, List.set_cons_succ]
              refine wpAnyH_ready (rs := [7]) (by kernel_rfl) (by simp) ?_
              refine AllReadyH.cons (o := { dst := some 35, op := Op.load 40 (Operand.tmp 34), type := 40, pos := "sets.go:75", after := #[{ on := 6, ground := Ground.data }], guard := none }) rfl (fun K hK => ?_) AllReadyH.nil
              go_simp
              refine hK.out _ _ ?_ (fun hHeld => ?_)
              · exact ⟨e1, e3, e4⟩
              clear hK K
              try simp only [Act.put, List.setIfInBounds_toArray, List.set_cons_zero, List.set_cons_succ]
              refine wpAnyH_take (i := 18) (oi := { dst := some 46, op := Op.binOp BinOp.add 40 (Operand.tmp 35) (Operand.tmp 45) 40, type := 40, pos := "sets.go:75", after := #[{ on := 7, ground := Ground.data }, { on := 17, ground := Ground.data }], guard := none }) (v := ?_) rfl (by kernel_rfl) (by kernel_rfl) (by kernel_rfl) (fun _ _ _ h => h) (Or.inl ⟨by rfl, ?_⟩) (by assumption) ?_
              rotate_left
              · intro w hSw; (try dsimp only at hSw); go_simp <;> with_reducible rfl
              simp only [Act.put, List.setIfInBounds_toArray, List.set_cons_zero, List.set_cons_succ]
              refine wpAnyH_ready (rs := [23]) (by kernel_rfl) (by simp) ?_
              refine AllReadyH.cons (o := { dst := some 51, op := Op.call { callee := Callee.builtin Builtin.min, args := #[Operand.tmp 46, Operand.tmp 50], argTypes := #[40, 40] }, type := 40, pos := "sets.go:75", after := #[{ on := 18, ground := Ground.data }, { on := 22, ground := Ground.data }], guard := none }) rfl (fun K hK => ?_) AllReadyH.nil
              go_simp
              refine hK.out _ _ ?_ (fun hHeld => ?_)
              · exact ⟨e1, e3, e4⟩
              clear hK K
              try simp only [Act.put, List.setIfInBounds_toArray, List.set_cons_zero, List.set_cons_succ]
              refine wpAnyH_take (i := 26) (oi := { dst := some 54, op := Op.indexAddr 69 (Operand.tmp 53) (Operand.tmp 29), type := 0, pos := "sets.go:75", after := #[{ on := 25, ground := Ground.data }, { on := 1, ground := Ground.data }, { on := 0, ground := Ground.phase }, { on := 1, ground := Ground.phase }, { on := 2, ground := Ground.phase }, { on := 3, ground := Ground.phase }, { on := 4, ground := Ground.phase }, { on := 5, ground := Ground.phase }, { on := 6, ground := Ground.phase }, { on := 7, ground := Ground.phase }, { on := 8, ground := Ground.phase }, { on := 9, ground := Ground.phase }, { on := 10, ground := Ground.phase }, { on := 11, ground := Ground.phase }, { on := 12, ground := Ground.phase }, { on := 13, ground := Ground.phase }, { on := 14, ground := Ground.phase }, { on := 15, ground := Ground.phase }, { on := 16, ground := Ground.phase }, { on := 17, ground := Ground.phase }, { on := 18, ground := Ground.phase }, { on := 19, ground := Ground.phase }, { on := 20, ground := Ground.phase }, { on := 21, ground := Ground.phase }, { on := 22, ground := Ground.phase }, { on := 23, ground := Ground.phase }], guard := none }) (v := ?_) rfl (by kernel_rfl) (by kernel_rfl) (by kernel_rfl) (fun _ _ _ h => h) (Or.inl ⟨by rfl, ?_⟩) (by assumption) ?_
              rotate_left
              · intro w hSw; (try dsimp only at hSw); go_simp <;> with_reducible rfl
              simp only [Act.put, List.setIfInBounds_toArray, List.set_cons_zero, List.set_cons_succ]
              refine wpAnyH_ready (rs := [27]) (by kernel_rfl) (by simp) ?_
              refine AllReadyH.cons (o := { dst := none, op := Op.store 40 (Operand.tmp 54) (Operand.tmp 51), type := 0, pos := "sets.go:75", after := #[{ on := 26, ground := Ground.data }, { on := 23, ground := Ground.data }, { on := 11, ground := Ground.chain }, { on := 0, ground := Ground.phase }, { on := 1, ground := Ground.phase }, { on := 2, ground := Ground.phase }, { on := 3, ground := Ground.phase }, { on := 4, ground := Ground.phase }, { on := 5, ground := Ground.phase }, { on := 6, ground := Ground.phase }, { on := 7, ground := Ground.phase }, { on := 8, ground := Ground.phase }, { on := 9, ground := Ground.phase }, { on := 10, ground := Ground.phase }, { on := 11, ground := Ground.phase }, { on := 12, ground := Ground.phase }, { on := 13, ground := Ground.phase }, { on := 14, ground := Ground.phase }, { on := 15, ground := Ground.phase }, { on := 16, ground := Ground.phase }, { on := 17, ground := Ground.phase }, { on := 18, ground := Ground.phase }, { on := 19, ground := Ground.phase }, { on := 20, ground := Ground.phase }, { on := 21, ground := Ground.phase }, { on := 22, ground := Ground.phase }, { on := 23, ground := Ground.phase }], guard := none }) rfl (fun K hK => ?_) AllReadyH.nil
              go_simp
              refine hK.out _ _ ?_ (fun hHeld => ?_)
              · exact hst6.out _ _ ⟨e1, e3, e4⟩
              clear hK K
              try simp only [Act.put, List.setIfInBounds_toArray, List.set_cons_zero, List.set_cons_succ]
              refine wpAnyH_done (by kernel_rfl) ?_ _
              skip
              go_wp2
              go_meet
              exact ⟨rfl, (hfin.out _ hb6').1, (hfin.out _ hb6').2⟩
            case rest =>
            obtain ⟨rfl, hS7, hT7⟩ := hcut
            clear hfin hst6 hkk2 hS6 KLw d1 d2 d3 d4 d5 hand hsh hadd hk1 hk3 hk4 hk5 hS5 hT5
            have c7 := hT7.out.cell
            have hlen : Hid ((j :: l).length = boxN wr (.pointer (some ⟨tb, 0, none⟩))) := by show _ = _; rw [hmea2.out, hnT]
            go_wp2
            have hSn : Hid (OfS w0 (wc.alloc (.cells #[.int .u64 (T : Int)] 60)) gc M (upd F k (min (v + x) M)) W.heap.size who) := hS7.out.over ((Below.refl _ wc).alloc (Nat.le_refl _) _)
            have bn : Hid (Boxed (wc.alloc (.cells #[.int .u64 (T : Int)] 60)) wc.heap.size 60 (.int .u64 (T : Int))) := Boxed.new wc _ _
            have htn : W.heap.size < wc.heap.size := hS7.out.box.lt
            clear hS7 hT7 c7 hmea2 htg
            generalize wc.alloc (.cells #[.int .u64 (T : Int)] 60) = wn at *
            generalize wc.heap.size = tn at *
            have t0 : Tab wn.drew := (ht'.out.over hSn.out.old).over ((Below.refl _ wn).drew)
            have c8 := bn.out.cell
            have hcw : Hid (∀ V, Below wn.heap.size wn V → V.cell? ⟨tn, 0, none⟩ = some (.int .u64 (T : Int)) ∧ V.frozen? ⟨tn, 0, none⟩ = false) := fun V hV => by
              have b := (hV.block tn bn.out.lt).trans bn.out
              exact ⟨Boxed.cell b, Boxed.frozen b⟩
            go_region_with (first | (go_at_call 45; refine (KLt.out _ t0).mono ?_; rintro e w8 ⟨rfl, hb8⟩; have hb8' : Below wn.heap.size wn w8 := ((Below.refl _ wn).drew).trans hb8; obtain ⟨e1, e2⟩ := hcw.out w8 hb8') | (go_at_call 48; refine (KW.out _).mono ?_; rintro e w9 ⟨rfl, hb9⟩; have hb9' : Below wn.heap.size wn w9 := hb8'.trans (hb9.mono hb8'.size); obtain ⟨e3, e4⟩ := hcw.out w9 hb9'))
            all_goals
              go_wp2
              have b9 : Boxed w9 tn 60 (.int .u64 (T : Int)) := (hb9'.block tn bn.out.lt).trans bn.out
              have b10 := b9.set (.int .u64 (T2 : Int))
              have m10 := boxN_at b10.cell
              refine ⟨⟨tn, T2, _, rfl, htn, (hSn.out.over hb9').setT htn _, b10, hTk3⟩, ?_⟩
              show boxN _ _ < boxN _ _
              rw [m10, hnT3.out, ← hlen.out]
              simp
end Go.Proofs.YtmoiedlchcceaaaDoor.M

/- ImageBack, walked. -/
import Derived.Test.YtgfnfbbiojnhaaaDoorImY
namespace Go.Proofs.YtgfnfbbiojnhaaaDoor
open Go.RowKit
set_option maxRecDepth 100000 in
set_option maxHeartbeats 1000000 in
theorem imageBack_walk (C : Cl) (R : List Nat) (v : Value) (m : Nat) (W : World) (hn1 : -9223372036854775808 ≤ C.n) (hn2 : C.n < 9223372036854775808) (hR : RowC W v R) (hb : ∀ z ∈ R, z < 256) (hl : R.length ≤ 140737488351232) (hm : m < 256) (hT : Tb W) : Calls Tryd.prog 5 #[.agg (clC C), v, .int .u8 (m : Int)] W fun e w' => e = .returned (.bool true) ∧ Below W.heap.size W w' := by
  have hB1 : Hid (Below W.heap.size W (W.alloc (.cells (clC C) 23))) := (Below.refl _ _).alloc (Nat.le_refl _) _
  have hg1 : Hid ((W.alloc (.cells (clC C) 23)).heap[W.heap.size]? = some (.cells (clC C) 23 (0, 0))) := heap_new _ _
  have KW : Hid (∀ V, Below W.heap.size W V → Calls Tryd.prog 7 #[.agg (clC C)] V (WrP V C)) := fun V hV => writeF C V (hT.up hV (Nat.le_refl _))
  have KW2 : Hid (∀ V, Below W.heap.size W V → Calls Tryd.prog 7 #[.agg (clC (rdC R))] V (WrP V (rdC R))) := fun V hV => writeF _ V (hT.up hV (Nat.le_refl _))
  have KR : Hid (∀ V v L, Below W.heap.size W V → RowC V v L → (∀ z ∈ L, z < 256) → L.length ≤ 140737488355328 → Calls Tryd.prog 10 #[v] V (RdP V L)) := fun V v L hV h h1 h2 => readF L v V h h1 h2 (hT.up hV (Nat.le_refl _))
  have K7 : Hid (∀ V, Below W.heap.size W V → Calls Tryd.prog 9 #[] V fun e w' => e = .returned (.bool true) ∧ Below V.heap.size V w') := fun V hV => wakesF V (hT.up hV (Nat.le_refl _))
  have hwe : Hid (wrE C = 0 → rdOk (wrL C) = true ∧ rdC (wrL C) = C ∧ rdE (wrL C) = 0) := fun h => back_wr h hn1 hn2
  have hwm : Hid (∀ b ∈ wrL C, b < 256) := by
    intro b hb'
    have : wrL C = wr4 C := rfl
    rw [this] at hb'
    unfold wr4 wr3 wr2 wr1 wr0 at hb'
    simp only [List.mem_append] at hb'
    rcases hb' with ((((((((q | q) | q) | q) | q) | q) | q) | q) | q) | q
    all_goals first | exact be_mem b q | exact sB_mem _ b q
  have hwl : Hid (wrE C = 0 → 16 ≤ (wrL C).length ∧ (wrL C).length ≤ 1000000) := fun h => by
    obtain ⟨_, _, ha, hb, hc, ht⟩ := wrE_zero h
    refine ⟨wrL_16, ?_⟩
    rw [wrL_len]
    omega
  have hmr := hide' (back_more (R := wrL C))
  have hls := hide' (back_less (R := wrL C))
  have hrr : Hid (rdOk R = true → wrE (rdC R) = 0 ∧ wrL (rdC R) = R) := back_rd hb
  have hrn : Hid (rdOk R = false → rdE R = 3 ∧ rdC R = noK) := rdE_no
  have hr0 : Hid (rdOk R = true → rdE R = 0) := fun h => by unfold rdE; rw [h]; rfl
  obtain ⟨oa, cap, rfl, q1, q2⟩ := hR
  have hR' : Hid (RowC W (.slice oa R.length cap) R) := ⟨oa, cap, rfl, q1, q2⟩
  have hb' := hide' hb
  have hRl : Hid (([] : List Nat).length + R.length ≤ 140737488355328) := by unfold Hid; simp; omega
  obtain ⟨n, hn⟩ : ∃ n, R.length = n := ⟨_, rfl⟩
  rw [hn] at hR' ⊢
  have hn' := hide' hn
  clear hb q1 q2 hn hT hn1 hn2
  have hcC : ∃ op a b c nn t, clC C = #[.int .i64 op, .string a, .string b, .string c, .int .i64 nn, .string t] := ⟨_, _, _, _, _, _, rfl⟩
  obtain ⟨op, a, b, c, nn, t, hcC⟩ := hcC
  have hcC' := hide' hcC
  rw [hcC] at hB1 hg1 KW ⊢
  clear hcC
  have heq : ∀ V : World, (Op.equalIn 10000 23 (.agg #[.int .i64 op, .string a, .string b, .string c, .int .i64 nn, .string t]) (.agg #[.int .i64 op, .string a, .string b, .string c, .int .i64 nn, .string t])).run Tryd.prog V = .ok true V := fun V => cl_eq op nn a b c t V
  unfold WrP at KW KW2
  unfold RdP at KR
  go_enter Tryd.func5, Tryd.ntmps5
  go_wp2_with fail
  generalize W.alloc (.cells #[.int .i64 op, .string a, .string b, .string c, .int .i64 nn, .string t] 23) = w1 at *
  refine (KW.out w1 hB1.out).mono ?_
  rintro e w2 ⟨ob, nb, cb, rfl, hnb, ho, hb2⟩
  have hB2 : Hid (Below W.heap.size W w2) := hB1.out.trans (hb2.out.mono hB1.out.size)
  have hg2 := hide' ((hb2.out.block _ (blk_lt hg1.out)).trans hg1.out)
  clear hb2 hB1 hg1 KW
  go_upto_if 25 with fail
  go_cut [8, 9, 10, 11, 12, 13, 14] from 19 to 71 (fun _ _ _ _ _ _ _ wx => Hid (Below W.heap.size W wx))
  case first =>
    by_cases hE : wrE C = 0
    case neg =>
      have hz2 : (wrE C == 0) = false := by simpa using hE
      generalize wrE C = E at *
      go_wp2
      go_meet
      exact hB2
    have hw := hwe.out hE
    have hl16 := hwl.out hE
    have hm3 := hide' (hmr.out hw.1 m)
    have hs3 := hide' (hls.out hw.1)
    rw [if_pos hE] at hnb ho
    rw [hE]
    have KL : Hid (∀ V v, Below W.heap.size W V → RowC V v (wrL C) → Calls Tryd.prog 10 #[v] V fun e w' => e = .returned (.tuple #[.agg #[.int .i64 op, .string a, .string b, .string c, .int .i64 nn, .string t], .int .i64 0]) ∧ Hid (Below V.heap.size V w')) := fun V v hV h => by
      have k := KR.out V v (wrL C) hV h hwm.out (by omega)
      rw [hw.2.1, hw.2.2, hcC'.out] at k
      exact k
    have K3 : Hid (∀ V v L, Below W.heap.size W V → RowC V v L → (∀ z ∈ L, z < 256) → L.length ≤ 140737488355328 → rdE L = 3 → Calls Tryd.prog 10 #[v] V fun e w' => e = .returned (.tuple #[.agg #[.int .i64 0, .string ⟨#[]⟩, .string ⟨#[]⟩, .string ⟨#[]⟩, .int .i64 0, .string ⟨#[]⟩], .int .i64 3]) ∧ Hid (Below V.heap.size V w')) := fun V v L hV h h1 h2 h3 => by
      have k := KR.out V v L hV h h1 h2
      rw [h3, rdE_three h3] at k
      exact k
    have hLm : Hid (∀ b ∈ wrL C ++ [m], b < 256) := by
      intro b hb
      rcases List.mem_append.1 hb with q | q
      · exact hwm.out b q
      · simp at q; omega
    have hLl := hide' hl16
    have hwm' := hide' hwm.out
    clear hw hl16 hwe hwl hmr hls KR hE KW2 K7 hrr hrn hr0 hRl hb' hR' hn' hl
    generalize wrL C = L at *
    have hbR : Hid (RowC w2 (.slice ob nb cb) L) := RowC.of_owns ho.out
    have hsn : 16 ≤ nb ∧ nb ≤ 1000000 := by rw [hnb.out]; exact hLl.out
    clear ho
    have hO2 : Hid ((w2.alloc (.cells #[] 5)).ownsRow w2.heap.size 5 1 (.slice (some ⟨w2.heap.size, 0, none⟩) ([] : List Nat).length 0) ([] : List Nat).length (cellsB [])) := owns_zero w2 5
    have hA2 : Hid (Below w2.heap.size w2 (w2.alloc (.cells #[] 5))) := (Below.refl _ _).alloc (Nat.le_refl _) _
    have hbR2 := hide' (hbR.out.below hA2.out (Nat.le_refl _))
    have hlen0 : Hid (([] : List Nat).length + L.length ≤ 140737488355328) := by unfold Hid; have := hLl.out; simp; omega
    go_wp2_with (at_builtin; refine app_bytesN rfl (.tmp 27) (.tmp 28) w2.heap.size _ w2.heap.size 0 0 [] ob nb cb L L rfl rfl rfl rfl hO2.out hbR2.out rfl hA2.out.size hlen0.out ?_; intro g3 m3 c3 w3 hm3x ho3 hb3)
    have hB3 : Hid (Below W.heap.size W w3) := hB2.out.trans ((hA2.out.mono hB2.out.size).trans (hb3.out.mono hB2.out.size))
    have hU3 : Hid (Below w2.heap.size w2 w3) := hA2.out.trans hb3.out
    have hr3 := hide' (ownN_row hm3x.out ho3.out)
    refine (KL.out _ _ hB3.out hr3.out).mono ?_
    rintro e w4 ⟨rfl, hb4⟩
    have hB4 : Hid (Below W.heap.size W w4) := hB3.out.trans (hb4.out.mono hB3.out.size)
    have hU4 : Hid (Below w2.heap.size w2 w4) := hU3.out.trans (hb4.out.mono hU3.out.size)
    clear hO2 hA2 hbR2 hm3x ho3 hb3 hB3 hU3 hr3 hb4
    go_upto_region 4 with fail
    have hg5 : Hid ((w4.alloc (.cells #[.int .i64 op, .string a, .string b, .string c, .int .i64 nn, .string t] 23)).heap[w4.heap.size]? = some (.cells #[.int .i64 op, .string a, .string b, .string c, .int .i64 nn, .string t] 23 (0, 0))) := heap_new _ _
    have hB5 : Hid (Below W.heap.size W (w4.alloc (.cells #[.int .i64 op, .string a, .string b, .string c, .int .i64 nn, .string t] 23))) := hB4.out.alloc hB4.out.size _
    have hU5 : Hid (Below w2.heap.size w2 (w4.alloc (.cells #[.int .i64 op, .string a, .string b, .string c, .int .i64 nn, .string t] 23))) := hU4.out.alloc hU4.out.size _
    generalize w4.alloc (.cells #[.int .i64 op, .string a, .string b, .string c, .int .i64 nn, .string t] 23) = w5 at *
    generalize w4.heap.size = g4 at *
    have hbR5 := hide' (hbR.out.below hU5.out (Nat.le_refl _))
    clear hB4 hU4
    -- with a byte more
    obtain ⟨hO5, hA5⟩ := emp w5
    have hbR6 := hide' (hbR5.out.below hA5.out (Nat.le_refl _))
    have hlm1 : Hid (L.length + [m].length ≤ 140737488355328) := by unfold Hid; have := hLl.out; simp; omega
    have hlm2 : Hid ((L ++ [m]).length ≤ 140737488355328) := by unfold Hid; have := hLl.out; simp; omega
    generalize hLM : L ++ [m] = LM at *
    have hLM' := hide' hLM
    clear hLM
    go_wp2_with (first | (at_builtin; refine app_bytesN rfl (.tmp 34) (.tmp 35) w5.heap.size _ w5.heap.size 0 0 [] ob nb cb L L rfl rfl rfl rfl hO5.out hbR6.out rfl hA5.out.size hlen0.out ?_; intro g6 m6 c6 w6 hm6 ho6 hb6; have hs6 := Nat.le_trans hA5.out.size hb6.out.size; have ho6' := hide' (ho6.out.alloc (.cells #[.int .u8 (m : Int)] 5)); have hs6' : Hid (w5.heap.size ≤ (w6.alloc (.cells #[.int .u8 (m : Int)] 5)).heap.size) := by (unfold Hid; rw [size_alloc]; omega)) | (at_builtin; refine app_bytesN rfl (.tmp 36) (.tmp 38) w5.heap.size _ g6 m6 c6 L (some ⟨w6.heap.size, 0, none⟩) 1 1 [m] LM rfl rfl rfl hm6.out ho6'.out (row_one w6 m) hLM'.out hs6'.out hlm1.out ?_; intro g7 m7 c7 w7 hm7 ho7 hb7))
    have hU7 : Hid (Below w5.heap.size w5 w7) := hA5.out.trans (hb6.out.trans (((Below.refl _ w6).alloc hs6 _).trans hb7.out))
    have hB7 : Hid (Below W.heap.size W w7) := hB5.out.trans (hU7.out.mono hB5.out.size)
    have hr7 := hide' (ownN_row hm7.out ho7.out)
    refine (K3.out w7 _ LM hB7.out hr7.out hLm.out hlm2.out hm3.out).mono ?_
    rintro e w8 ⟨rfl, hb8⟩
    have hU8 : Hid (Below w5.heap.size w5 w8) := hU7.out.trans (hb8.out.mono hU7.out.size)
    have hB8 : Hid (Below W.heap.size W w8) := hB7.out.trans (hb8.out.mono hB7.out.size)
    clear hO5 hA5 hbR6 hm6 ho6 hb6 hs6 ho6' hs6' ho7 hm7 hb7 hU7 hB7 hb8 hlm1 hlm2 hr7
    have hU5' := hide' (hU5.out.trans ((hU8.out.mono hU5.out.size)))
    have hg8 := hide' ((hU8.out.block _ (blk_lt hg5.out)).trans hg5.out)
    have hc8 := hide' ((hU5'.out.block _ (blk_lt hg2.out)).trans hg2.out)
    have hA8 : Hid (Below w8.heap.size w8 (w8.alloc (.cells #[.int .i64 0, .string ⟨#[]⟩, .string ⟨#[]⟩, .string ⟨#[]⟩, .int .i64 0, .string ⟨#[]⟩] 23))) := (Below.refl _ _).alloc (Nat.le_refl _) _
    have hB9 : Hid (Below W.heap.size W (w8.alloc (.cells #[.int .i64 0, .string ⟨#[]⟩, .string ⟨#[]⟩, .string ⟨#[]⟩, .int .i64 0, .string ⟨#[]⟩] 23))) := hB8.out.trans (hA8.out.mono hB8.out.size)
    have hU9 : Hid (Below w2.heap.size w2 (w8.alloc (.cells #[.int .i64 0, .string ⟨#[]⟩, .string ⟨#[]⟩, .string ⟨#[]⟩, .int .i64 0, .string ⟨#[]⟩] 23))) := hU5'.out.trans (hA8.out.mono hU5'.out.size)
    obtain ⟨d0, d1, d2, d3, d4, d5⟩ := cells6 ((hA8.out.block _ (blk_lt hg8.out)).trans hg8.out)
    obtain ⟨e0, e1, e2, e3, e4, e5⟩ := cells6 ((hA8.out.block _ (blk_lt hc8.out)).trans hc8.out)
    have hn16 : ¬ (nb : Int) < 16 := by omega
    clear hg5 hB5 hU5 hU8 hB8 hU5' hg8 hc8 hbR5
    go_upto_region 7 with fail
    generalize w8.alloc (.cells #[.int .i64 0, .string ⟨#[]⟩, .string ⟨#[]⟩, .string ⟨#[]⟩, .int .i64 0, .string ⟨#[]⟩] 23) = w9 at *
    -- with a byte less
    have hbR9 := hide' (hbR.out.below hU9.out (Nat.le_refl _))
    obtain ⟨hO9, hA9⟩ := emp w9
    have hbR10 := hide' ((hbR9.out.below hA9.out (Nat.le_refl _)).head (nb - 1) (by omega))
    have hlc := hbR.out.len
    have hcut9 := cutHi ob nb cb (nb - 1) ((nb : Int) - 1) (by omega) (by omega)
    have hs3' : Hid (rdE (L.take (nb - 1)) = 3) := by rw [hnb.out]; exact hs3.out
    have hlt3 : Hid (([] : List Nat).length + (L.take (nb - 1)).length ≤ 140737488355328) := by unfold Hid; have := hLl.out; rw [List.length_take]; simp; omega
    have hlt4 : Hid ((L.take (nb - 1)).length ≤ 140737488355328) := by unfold Hid; have := hLl.out; rw [List.length_take]; omega
    have hwt : Hid (∀ b ∈ L.take (nb - 1), b < 256) := fun b hb => hwm'.out b (List.mem_of_mem_take hb)
    clear hlc hbR9 hU9 hA8 hg2 hB2 d0 d1 d2 d3 d4 d5 e0 e1 e2 e3 e4 e5 hs3 hlen0 hLm hLM' hm3 KL
    generalize L.take (nb - 1) = LT at *
    go_wp2_with (at_builtin; refine app_bytesN rfl (.tmp 60) (.tmp 65) w9.heap.size _ w9.heap.size 0 0 [] ob (nb - 1) cb LT LT rfl rfl rfl rfl hO9.out hbR10.out rfl hA9.out.size hlt3.out ?_; intro g11 m11 c11 w11 hm11 ho11 hb11)
    have hB11 : Hid (Below W.heap.size W w11) := hB9.out.trans ((hA9.out.mono hB9.out.size).trans (hb11.out.mono hB9.out.size))
    have hr11 := hide' (ownN_row hm11.out ho11.out)
    refine (K3.out w11 _ LT hB11.out hr11.out hwt.out hlt4.out hs3'.out).mono ?_
    rintro e w12 ⟨rfl, hb12⟩
    have hB12 : Hid (Below W.heap.size W w12) := hB11.out.trans (hb12.out.mono hB11.out.size)
    have hB13 : Hid (Below W.heap.size W (w12.alloc (.cells #[.int .i64 0, .string ⟨#[]⟩, .string ⟨#[]⟩, .string ⟨#[]⟩, .int .i64 0, .string ⟨#[]⟩] 23))) := hB12.out.alloc hB12.out.size _
    clear hO9 hA9 hbR10 hm11 ho11 hb11 hr11 hB11 hb12 K3
    go_wp2
    go_meet
    exact hB13
  case rest =>
    have hB3 := hcut
    clear hcut hB2 hg2 ho hnb hwe hwm hwl hmr hls hcC' heq
    obtain ⟨hO3, hA3⟩ := emp wc
    have hA4 : Hid (Below W.heap.size W (wc.alloc (.cells #[] 5))) := hB3.out.trans (hA3.out.mono hB3.out.size)
    have hR4 := hide' (hR'.out.below hA4.out (Nat.le_refl _))
    have hRl2 : Hid (R.length ≤ 140737488355328) := by unfold Hid; omega
    go_wp2_with (at_builtin; refine app_bytesN rfl (.tmp 73) (.tmp 74) wc.heap.size _ wc.heap.size 0 0 [] oa n cap R R rfl rfl rfl rfl hO3.out hR4.out rfl hA3.out.size hRl.out ?_; intro g5 m5 c5 w5 hm5 ho5 hb5)
    have hB5 : Hid (Below W.heap.size W w5) := hB3.out.trans ((hA3.out.mono hB3.out.size).trans (hb5.out.mono hB3.out.size))
    have hr5 := hide' (ownN_row hm5.out ho5.out)
    refine (KR.out w5 _ R hB5.out hr5.out hb'.out hRl2.out).mono ?_
    rintro e w6 ⟨rfl, hb6⟩
    have hB6 : Hid (Below W.heap.size W w6) := hB5.out.trans (hb6.out.mono hB5.out.size)
    clear hO3 hA3 hA4 hR4 hm5 ho5 hb5 hr5 hB5 hb6 KR hB3
    by_cases hok : rdOk R = true
    · have h0 := hr0.out hok
      obtain ⟨h1, h2⟩ := hrr.out hok
      rw [h0]
      rw [h1, if_pos rfl, h2] at KW2
      have hcR : ∃ op a b c nn t, clC (rdC R) = #[.int .i64 op, .string a, .string b, .string c, .int .i64 nn, .string t] := ⟨_, _, _, _, _, _, rfl⟩
      obtain ⟨op', a', b', c', nn', t', hcR⟩ := hcR
      rw [hcR] at KW2 ⊢
      clear h0 h1 h2 hcR hok hr0 hrr hrn
      have hB7 : Hid (Below W.heap.size W (w6.alloc (.cells #[.int .i64 op', .string a', .string b', .string c', .int .i64 nn', .string t'] 23))) := hB6.out.alloc hB6.out.size _
      go_wp2_with fail
      generalize w6.alloc (.cells #[.int .i64 op', .string a', .string b', .string c', .int .i64 nn', .string t'] 23) = w7 at *
      refine (KW2.out w7 hB7.out).mono ?_
      rintro e w8 ⟨ox, nx, cx, rfl, _, hox, hb8⟩
      have hB8 : Hid (Below W.heap.size W w8) := hB7.out.trans (hb8.out.mono hB7.out.size)
      have hc1 := conv_bytes (RowC.of_owns hox.out)
      have hc2 := conv_bytes (hR'.out.below hB8.out (Nat.le_refl _))
      generalize strB R = sR at *
      have K8 := hide' (K7.out w8 hB8.out)
      clear hox KW2 K7 hB7 hb8
      go_wp2_with (go_at_call 9; refine K8.out.mono ?_; rintro e w9 ⟨rfl, hb9⟩)
      go_ret
      exact ⟨rfl, hB8.out.trans (hb9.mono hB8.out.size)⟩
    · have hok' : rdOk R = false := by simpa using hok
      obtain ⟨h0, h1⟩ := hrn.out hok'
      rw [h0, h1]
      have hcn : clC noK = #[.int .i64 0, .string ⟨#[]⟩, .string ⟨#[]⟩, .string ⟨#[]⟩, .int .i64 0, .string ⟨#[]⟩] := rfl
      rw [hcn]
      clear hcn h0 h1 hok hok' hr0 hrr hrn KW2
      have hB7 : Hid (Below W.heap.size W (w6.alloc (.cells #[.int .i64 0, .string ⟨#[]⟩, .string ⟨#[]⟩, .string ⟨#[]⟩, .int .i64 0, .string ⟨#[]⟩] 23))) := hB6.out.alloc hB6.out.size _
      have K8 := hide' (K7.out _ hB7.out)
      have heq0 : ∀ V : World, (Op.equalIn 10000 23 (.agg #[.int .i64 0, .string ⟨#[]⟩, .string ⟨#[]⟩, .string ⟨#[]⟩, .int .i64 0, .string ⟨#[]⟩]) (.agg #[.int .i64 0, .string ⟨#[]⟩, .string ⟨#[]⟩, .string ⟨#[]⟩, .int .i64 0, .string ⟨#[]⟩])).run Tryd.prog V = .ok true V := fun V => cl_eq 0 0 _ _ _ _ V
      clear K7
      go_wp2_with (go_at_call 9; refine K8.out.mono ?_; rintro e w9 ⟨rfl, hb9⟩)
      go_ret
      exact ⟨rfl, hB7.out.trans (hb9.mono hB7.out.size)⟩
end Go.Proofs.YtgfnfbbiojnhaaaDoor

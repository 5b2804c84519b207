/- The law LexBack: walked. -/
import Derived.Test.YtmkiggbpbojiiaaLBackN
import Derived.Test.YtmkiggbpbojiiaaLFew
import Derived.Test.YtmkiggbpbojiiaaLWake
import Derived.Test.YtmkiggbpbojiiaaLSame
namespace Go.Proofs.Ytmkiggbpbojiiaa
open Go.RowKit Go.Shelf
theorem endL_len2 (toks : List Tok) (l c : Int) : (endL toks l c).length ≤ toks.length + 1 := by
  unfold endL
  split
  · omega
  · simp
theorem scan_len : ∀ (m : Nat) (t : List UInt8) (line col : Nat) (toks R : List Tok), t.length ≤ m → scanW t line col toks = .ok R → R.length ≤ toks.length + t.length + 1
  | m, [], line, col, toks, R, _, h => by
    rw [scan_nil] at h
    cases h
    have := endL_len2 toks line col
    simpa using this
  | 0, c :: r, line, col, toks, R, hm, _ => by simp at hm
  | m + 1, c :: r, line, col, toks, R, hm, h => by
    rw [List.length_cons] at hm ⊢
    cases hbl : isBl c
    · cases hrm : isRm c
      · cases hen : isEnd c
        · cases hcut : cutT (c :: r) with
          | error er => rw [scan_err hbl hrm hen hcut] at h; cases h
          | ok x =>
            obtain ⟨kd, n, vl⟩ := x
            rw [scan_cut hbl hrm hen hcut] at h
            obtain ⟨hn0, hnl⟩ := cut_pos hcut
            rw [List.length_cons] at hnl
            have := scan_len m ((c :: r).drop n) line (col + n) _ R (by rw [List.length_drop, List.length_cons]; omega) h
            rw [List.length_drop, List.length_cons, List.length_append] at this
            simp at this
            omega
        · rw [scan_end hbl hrm hen] at h
          have := scan_len m r (line + 1) 1 _ R (by omega) h
          have h2 := endL_len2 toks line col
          omega
      · rw [scan_rm hbl hrm] at h
        have := scan_len m (r.drop (len inLn r)) line _ toks R (by rw [List.length_drop]; omega) h
        rw [List.length_drop] at this
        omega
    · rw [scan_bl hbl] at h
      have := scan_len m r line _ toks R (by omega) h
      omega
theorem scanT_len {T : List UInt8} {L : List Tok} (h : scanT T = .ok L) : L.length ≤ 65537 := by
  unfold scanT at h
  split at h
  · cases h
  · have := scan_len T.length T 1 1 [] L (Nat.le_refl _) h
    simp at this
    omega
theorem as_text {L : List Tok} (h : asT L = true) : ∀ t ∈ L, t.text.length ≤ 9223372036854775807 := fun t ht => by
  unfold asT at h
  rw [Bool.and_eq_true] at h
  obtain ⟨k, hk⟩ := List.mem_iff_getElem?.1 ht
  have := whole_len (asN_whole h.1 k t (List.getElem?_eq_some_iff.1 hk).1 hk)
  omega
theorem as_len {L : List Tok} (h : asT L = true) : (shT L).length ≤ 25 * L.length := by
  unfold asT at h
  rw [Bool.and_eq_true] at h
  exact shN_len h.1 L.length (Nat.le_refl _)
theorem showV_as {L : List Tok} (h : asT L = true) : showV L = .tuple #[.string (bs (shT L)), .int .i64 0] := by unfold showV; rw [h]; rfl
/-- Show of a row of one's own. -/
theorem showO {b : Nat} {v : Value} {L : List Tok} {w : World} (h : w.ownsRow b 35 5 v L.length (cellsT L)) (hL : L.length ≤ 65537) (ha : asT L = true) :
    Calls Try.prog 14 #[v] w fun e w' => e = .returned (.tuple #[.string (bs (shT L)), .int .i64 0]) ∧ Below w.heap.size w w' := by
  have hc : ∃ oa cap, v = .slice oa L.length cap ∧ L.length ≤ cap ∧ cap ≤ 9223372036854775807 := by
    rcases h.2 with ⟨rfl, h0⟩ | ⟨g, cap, cur, rfl, _, _, h3, h4, _⟩
    · exact ⟨none, 0, by rw [h0], by omega, by omega⟩
    · unfold maxLen at h4
      exact ⟨_, cap, rfl, h3, by omega⟩
  obtain ⟨oa, cap, rfl, h1, h2⟩ := hc
  have := showF oa cap L w (TokAt.own h) (by omega) h1 h2 (as_text ha)
  rwa [showV_as ha] at this
theorem fault_ne (w : World) : (Op.equalIn 10000 25 (.agg #[.int .i64 2, .int .i64 0, .int .i64 0]) (.agg #[.int .i64 0, .int .i64 0, .int .i64 0])).run Try.prog w = .ok false w := by
  have u3 := Try.underlying3
  have u23 := Try.underlying23
  have a3 := Try.isAgg3
  have z3 := Try.sizeOf3
  have a23 := Try.isAgg23
  have z23 := Try.sizeOf23
  rw [show (10000 : Nat) = 9999 + 1 from rfl, run_equalIn_struct w 9999 _ _ _ (by simp [Program.fieldsOf, Try.underlying25]) (by kernel_rfl)]
  simp only [Program.fieldsOf, Try.underlying25]
  go_simp
set_option maxRecDepth 100000 in
set_option maxHeartbeats 20000000 in
theorem lexBack_walk (T : List UInt8) (hm : T.length ≤ 9223372036854775807) (w : World) : Calls Try.prog 4 #[.string (bs T)] w fun e w' => e = .returned (.bool true) ∧ Below w.heap.size w w' := by
  have K1 := hide' (scanF T w hm)
  have K5 : Hid (∀ W, Calls Try.prog 13 #[] W fun e w' => e = .returned (.bool true) ∧ Below W.heap.size W w') := fun W => wakesF W
  generalize hst : bs T = st at *
  clear hst
  go_enter Try.func4, Try.ntmps4
  go_wp2_with fail
  refine K1.out.mono ?_
  rintro e1 w1 ⟨hb1, v1, er, ln, cl, L, rfl, hr1, hs1⟩
  have B1 := hide' hb1
  obtain ⟨o1, cp1, rfl⟩ := own_shapeT hr1
  clear hb1 K1
  have A1 : Hid (Below w.heap.size w (w1.alloc (.cells #[.int .i64 er, .int .i64 ln, .int .i64 cl] 25))) := B1.out.alloc B1.out.size _
  rcases hs1 with ⟨hne, -, rfl⟩ | ⟨rfl, rfl, rfl, hs⟩
  · have hne2 : (er != 0) = true := by simpa using hne
    clear hr1 hne
    go_wp2_with fail
    refine (K5.out _).mono ?_
    rintro e w6 ⟨rfl, b6⟩
    have B6 := hide' (A1.out.trans (b6.mono A1.out.size))
    clear b6
    go_wp2_with fail
    go_ret
    exact ⟨rfl, B6.out⟩
  · obtain ⟨hLa, hbig, hsml⟩ := back hs
    have hLl := scanT_len hs
    have hsl := as_len hLa
    obtain ⟨W2, hW2⟩ : ∃ W2, W2 = w1.alloc (.cells #[.int .i64 0, .int .i64 0, .int .i64 0] 25) := ⟨_, rfl⟩
    have b12 : Hid (Below w1.heap.size w1 W2) := by rw [hW2]; exact (Below.refl _ w1).alloc (Nat.le_refl _) _
    have hr2 : Hid (W2.ownsRow w.heap.size 35 5 (.slice o1 L.length cp1) L.length (cellsT L)) := owns_same hr1 fun g hg _ => b12.out.block g hg
    rw [← hW2] at A1
    have KF := hide' (few2F w.heap.size _ L W2 hr2.out (by omega))
    have hbig' := hide' hbig
    have hsml' := hide' hsml
    have hLa' := hide' hLa
    clear hr1 hs hbig hsml hLa B1 b12
    go_wp2_with fail
    rw [← hW2]
    clear hW2
    refine KF.out.mono ?_
    rintro e w2 ⟨v2, rfl, hr3, hb2⟩
    have B2 := hide' hb2
    have KS := hide' (showO hr3 hLl hLa'.out)
    clear hr3 hb2 KF
    go_wp2_with fail
    refine KS.out.mono ?_
    rintro e w3 ⟨rfl, hb3⟩
    have B3 := hide' (B2.out.trans (hb3.mono B2.out.size))
    have K4 := hide' (scanF (shT L) w3 (by omega))
    have hssz := bs_size (shT L)
    clear hb3 KS B2
    generalize hsx : bs (shT L) = sx at *
    have hsx' := hide' hsx
    clear hsx
    go_wp2_with fail
    refine K4.out.mono ?_
    rintro e4 w4 ⟨hb4, v4, er4, ln4, cl4, M, rfl, hr4, hs4⟩
    obtain ⟨o4, cp4, rfl⟩ := own_shapeT hr4
    have B4 := hide' (B3.out.trans (hb4.mono B3.out.size))
    have Bw4 := hide' (A1.out.trans (B4.out.mono A1.out.size))
    clear hb4 K4 B3
    by_cases hb : 65536 < (shT L).length
    · have he := hbig'.out hb
      rcases hs4 with ⟨_, h4, rfl⟩ | ⟨rfl, rfl, rfl, h4⟩
      · rw [he] at h4
        cases h4
        have hfn : ∀ W : World, (Op.equalIn 10000 25 (.agg #[.int .i64 2, .int .i64 0, .int .i64 0]) (.agg #[.int .i64 0, .int .i64 0, .int .i64 0])).run Try.prog W = .ok false W := fun W => fault_ne W
        have A4 : Hid (Below w4.heap.size w4 (w4.alloc (.cells #[.int .i64 2, .int .i64 0, .int .i64 0] 25))) := (Below.refl _ w4).alloc (Nat.le_refl _) _
        have Bw5 : Hid (Below w.heap.size w (w4.alloc (.cells #[.int .i64 2, .int .i64 0, .int .i64 0] 25))) := Bw4.out.trans (A4.out.mono Bw4.out.size)
        have hfb : Hid ((w4.alloc (.cells #[.int .i64 2, .int .i64 0, .int .i64 0] 25)).heap[w4.heap.size]? = some (.cells #[.int .i64 2, .int .i64 0, .int .i64 0] 25)) := heap_alloc_new w4 _
        clear hr4 hr2 he hsml' hbig' B4 A1
        go_wp2_with fail
        refine (K5.out _).mono ?_
        rintro e w6 ⟨rfl, b6⟩
        have f6 : w6.heap[w4.heap.size]? = some (.cells #[.int .i64 2, .int .i64 0, .int .i64 0] 25) := (b6.block _ (by simp)).trans hfb.out
        have c6 : w6.cell? ⟨w4.heap.size, 0, none⟩ = some (.int .i64 2) := by simp [World.cell?, f6]
        have B6 := hide' (Bw5.out.trans (b6.mono Bw5.out.size))
        clear b6 f6
        go_wp2_with fail
        go_ret
        exact ⟨rfl, B6.out⟩
      · rw [he] at h4; cases h4
    · obtain ⟨M', hM, hLk, hMa, hsh⟩ := hsml'.out hb
      rcases hs4 with ⟨_, h4, rfl⟩ | ⟨rfl, rfl, rfl, h4⟩
      · rw [hM] at h4; cases h4
      · rw [hM] at h4
        cases h4
        have hll := like_len hLk
        have hfe : ∀ W : World, (Op.equalIn 10000 25 (.agg #[.int .i64 0, .int .i64 0, .int .i64 0]) (.agg #[.int .i64 0, .int .i64 0, .int .i64 0])).run Try.prog W = .ok true W := fun W => fault_eq 0 0 0 W
        have A4 : Hid (Below w4.heap.size w4 (w4.alloc (.cells #[.int .i64 0, .int .i64 0, .int .i64 0] 25))) := (Below.refl _ w4).alloc (Nat.le_refl _) _
        have Bw5 : Hid (Below w.heap.size w (w4.alloc (.cells #[.int .i64 0, .int .i64 0, .int .i64 0] 25))) := Bw4.out.trans (A4.out.mono Bw4.out.size)
        have B25 : Hid (Below W2.heap.size W2 (w4.alloc (.cells #[.int .i64 0, .int .i64 0, .int .i64 0] 25))) := B4.out.trans (A4.out.mono B4.out.size)
        have hr5 : Hid ((w4.alloc (.cells #[.int .i64 0, .int .i64 0, .int .i64 0] 25)).ownsRow w3.heap.size 35 5 (.slice o4 M.length cp4) M.length (cellsT M)) := owns_same hr4 fun g hg _ => A4.out.block g hg
        have hr25 : Hid ((w4.alloc (.cells #[.int .i64 0, .int .i64 0, .int .i64 0] 25)).ownsRow w.heap.size 35 5 (.slice o1 L.length cp1) L.length (cellsT L)) := owns_same hr2.out fun g hg _ => B25.out.block g hg
        have hLk' := hide' hLk
        have hMl : Hid (M.length ≤ 65537) := by show _ ≤ _; omega
        have hMa' := hide' hMa
        have hsh' := hide' hsh
        have hnn : (((L.length : Nat) : Int) != ((M.length : Nat) : Int)) = false := by simp [hll]
        clear hr4 hr2 hsml' hbig' B4 A1 hLk hMa hsh hM A4 B25
        go_wp2_with fail
        refine (K5.out _).mono ?_
        rintro e w6 ⟨rfl, b6⟩
        have B6 := hide' (Bw5.out.trans (b6.mono Bw5.out.size))
        have hr6 : Hid (w6.ownsRow w3.heap.size 35 5 (.slice o4 M.length cp4) M.length (cellsT M)) := owns_same hr5.out fun g hg _ => b6.block g hg
        have hT6 : Hid (TokAt w6 o1 L) := TokAt.own (owns_same hr25.out fun g hg _ => b6.block g hg)
        have hU6 : Hid (TokAt w6 o4 M) := TokAt.own hr6.out
        clear b6 hr5 hr25 Bw5
        have hgb : decide ((65536 : Int) < ((shT L).length : Int)) = false := by simp; omega
        have hll' := hide' hll
        clear hll
        have hMl2 : M.length ≤ 65537 := hMl.out
        go_wp2_with fail
        go_loopw [9] (fun k wr => ∃ (c q : Nat), c ≤ L.length ∧ k = .int .i64 c ∧ w6.drewN q = wr) (fun k _ => ((L.length : Int) - intOf k).toNat)
        case atStart => exact ⟨0, 0, Nat.zero_le _, rfl, rfl⟩
        case round =>
          obtain ⟨c, q, hc, rfl, rfl⟩ := hrel
          by_cases hlt : c < L.length
          · obtain ⟨t, ht⟩ : ∃ t, L[c]? = some t := ⟨_, List.getElem?_eq_getElem hlt⟩
            obtain ⟨u, hu, e0, e1, e2⟩ := like_at hLk'.out ht
            obtain ⟨g1, rfl, a0, a1, a2, -, -⟩ := hT6.out c t ht
            obtain ⟨g2, rfl, b0, b1, b2, -, -⟩ := hU6.out c u hu
            rw [← e0] at b0
            rw [← e1] at b1
            rw [← e2] at b2
            have hq0 : (t.kind != t.kind) = false := by simp
            have hq2 : (t.num != t.num) = false := by simp
            have hq1 : ((bs t.text).toList != (bs t.text).toList) = false := by simp
            clear ht hu e0 e1 e2 hr6 hT6 hU6 hLk' hMa' hsh' hsx'
            generalize bs t.text = tx at *
            generalize t.kind = x0 at *
            generalize t.num = x2 at *
            have hcM : c < M.length := by have := hll'.out; omega
            have g0 : decide ((c : Int) < (L.length : Int)) = true := by simp; omega
            have g0' : decide (c < L.length) = true := by simp; omega
            go_upto_region 15 with fail
            go_quiet (fail)
            go_wp2_with fail
            exact ⟨⟨c + 1, q + nq, by omega, by go_num, rfl⟩, by simp [intOf]; omega⟩
          · have KS : Hid (Calls Try.prog 14 #[.slice o4 M.length cp4] (w6.drewN q) fun e w' => e = .returned (.tuple #[.string sx, .int .i64 0]) ∧ Below w.heap.size w w') := by
              have hr7 : (w6.drewN q).ownsRow w3.heap.size 35 5 (.slice o4 M.length cp4) M.length (cellsT M) := hr6.out
              have hs := showO hr7 hMl.out hMa'.out
              rw [hsh'.out, hsx'.out] at hs
              exact hs.mono fun e w' h => ⟨h.1, (B6.out.trans ((drew_below w6 q).mono B6.out.size)).trans (h.2.mono B6.out.size)⟩
            have hqs : (sx.toList == sx.toList) = true := by simp
            have g0 : decide ((c : Int) < (L.length : Int)) = false := by simp; omega
            have g0' : decide (c < L.length) = false := by simp; omega
            have hltM : ¬ c < M.length := by have := hll'.out; omega
            clear hr6 hT6 hU6 hLk' hMa' hsh' hsx'
            go_wp2_with fail
            refine KS.out.mono ?_
            rintro e w8 ⟨rfl, b8⟩
            have B8 := hide' b8
            clear b8
            go_wp2_with fail
            go_ret
            exact ⟨rfl, B8.out⟩
end Go.Proofs.Ytmkiggbpbojiiaa

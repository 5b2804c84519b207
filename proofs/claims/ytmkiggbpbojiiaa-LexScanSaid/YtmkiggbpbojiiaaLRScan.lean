/- The document's Scan: what it answers. -/
import Derived.Test.YtmkiggbpbojiiaaLRef3
import Derived.Test.YtmkiggbpbojiiaaLScan
import Derived.Deep.CutBlock
import Derived.Deep.CutRange
namespace Go.Proofs.Ytmkiggbpbojiiaa
open Go.RowKit Go.Shelf
/-- What stands between the rounds. -/
structure RS (w W : World) (v : Value) (toks : List Tok) : Prop where
  row : W.ownsRow (w.heap.size + 1) 35 5 v toks.length (cellsT toks)
  fb : fblk W w.heap.size
  bl : Below w.heap.size w W
theorem RS.lt {w W : World} {v : Value} {toks : List Tok} (h : RS w W v toks) : w.heap.size < W.heap.size := (Array.getElem?_eq_some_iff.1 h.fb).1
theorem RS.below {w W V : World} {v : Value} {toks : List Tok} (h : RS w W v toks) (hb : Below W.heap.size W V) : RS w V v toks :=
  ⟨owns_same h.row (fun g hg _ => hb.block g hg), (hb.block _ h.lt).trans h.fb, h.bl.trans (hb.mono (Nat.le_of_lt h.lt))⟩
theorem RS.push {w W w4 : World} {v v' : Value} {toks : List Tok} {t : Tok} (h : RS w W v toks) (hown : w4.ownsRow (w.heap.size + 1) 35 5 v' (toks.length + 1) (cellsT toks ++ tcells t)) (hgrow : W.grownBy w4 v.ownBlock) : RS w w4 v' (toks ++ [t]) := by
  have hne := own_ne h.row
  refine ⟨?_, (hgrow.block _ h.lt hne).trans h.fb, h.bl.grown hgrow (Nat.le_of_lt h.lt) fun j ej => ?_⟩
  · rw [cellsT_app, List.length_append]
    simpa [cellsT] using hown
  · rcases h.row.2 with ⟨rfl, _⟩ | ⟨g, cap, cur, rfl, hb, _⟩
    · cases ej
    · have : g = j := by simpa [Value.ownBlock] using ej
      omega
/-- What a round leaves of the list, in hiding. -/
structure RI (T : List UInt8) (w W : World) (a s l : Nat) (v : Value) (toks : List Tok) : Prop where
  rs : RS w W v toks
  eq : scanT T = scanW (T.drop a) l (a - s + 1) toks
theorem cell_five_new (w : World) (x0 x1 x2 x3 x4 : Value) : ∀ j u, ([x0, x1, x2, x3, x4] : List Value)[j]? = some u → (w.alloc (.cells #[x0, x1, x2, x3, x4] 35)).cell? ((⟨w.heap.size, 0, none⟩ : Addr).add j) = some u := by
  obtain ⟨n0, n1, n2, n3, n4⟩ := tbox_cells (W := w.alloc (.cells #[x0, x1, x2, x3, x4] 35)) (heap_alloc_new w _)
  intro j u hj
  match j, hj with
  | 0, hj => cases hj; exact n0
  | 1, hj => cases hj; exact n1
  | 2, hj => cases hj; exact n2
  | 3, hj => cases hj; exact n3
  | 4, hj => cases hj; exact n4
  | j + 5, hj => simp at hj
theorem drop_next {T : List UInt8} {a : Nat} {c : UInt8} {r : List UInt8} (h : T.drop a = c :: r) : T.drop (a + 1) = r := by rw [← List.drop_drop, h]; rfl
theorem len_split (p : UInt8 → Bool) (T : List UInt8) : len p T = len p T + len p (T.drop (len p T)) := by
  induction T with
  | nil => rfl
  | cons c T ih =>
    cases h : p c
    · rw [len_cons_false h, List.drop_zero, len_cons_false h]
    · rw [len_cons_true h, List.drop_succ_cons]; omega
theorem len_none (p : UInt8 → Bool) : len p [] = 0 := rfl
theorem at_drop {T : List UInt8} {a : Nat} {c : UInt8} {r : List UInt8} (h : T.drop a = c :: r) : T[a]? = some c := by
  have := congrArg (fun l : List UInt8 => l[0]?) h
  simpa using this
theorem endd_snoc (toks : List Tok) (t : Tok) : endd (toks ++ [t]) = decide (t.kind = 4) := by simp [endd]
set_option maxRecDepth 100000 in
set_option maxHeartbeats 40000000 in
theorem scanR (T : List UInt8) (w : World) (hm : T.length ≤ 9223372036854775807) : Calls Try.prog 9 #[.string (bs T)] w (ScanPost T w) := by
  have hsz := bs_size T
  obtain ⟨i0, hi, hz0, hz1, hz2⟩ := info_partsL infoT
  have KF : Hid (∀ (a b c : Int) (W : World), Calls Try.prog 25 #[.int .i64 a, .int .i64 b, .int .i64 c] W fun e w' => e = .returned (.agg #[.int .i64 a, .int .i64 b, .int .i64 c]) ∧ Below W.heap.size W w') := fun a b c W => rFault a b c W
  have hErr : Hid (∀ (W : World) (v : Value) (toks : List Tok) (er ln cl : Int), RS w W v toks → er ≠ 0 → scanT T = .error (er, ln, cl) → ∀ W2, Below W.heap.size W W2 → fblk W2 w.heap.size ∧ ScanPost T w (.returned (.tuple #[.slice none 0 0, .agg #[.int .i64 er, .int .i64 ln, .int .i64 cl]])) (((W2.setCell ⟨w.heap.size, 0, none⟩ (.int .i64 er)).setCell ⟨w.heap.size, 1, none⟩ (.int .i64 ln)).setCell ⟨w.heap.size, 2, none⟩ (.int .i64 cl))) := fun W v toks er ln cl h h0 he W2 hb => by
    have h2 := h.below hb
    exact ⟨h2.fb, below_set3 h2.bl (Nat.le_refl _) _ _ _, _, er, ln, cl, [], rfl, World.ownsRow_nil _ _ _ _, .inl ⟨h0, he, rfl⟩⟩
  by_cases hbig : 65536 < T.length
  · have hP : Hid (∀ W : World, Below w.heap.size w W → ScanPost T w (.returned (.tuple #[.slice none 0 0, .agg #[.int .i64 2, .int .i64 0, .int .i64 0]])) W) := fun W hb => by
      refine ⟨hb, _, 2, 0, 0, [], rfl, World.ownsRow_nil _ _ _ _, .inl ⟨by decide, ?_, rfl⟩⟩
      unfold scanT
      rw [if_pos hbig]
    generalize bs T = st at *
    clear hErr hi hz0 hz1 hz2
    go_enter Try.func9, Try.ntmps9
    go_wp2_with fail
    refine (KF.out 2 0 0 _).mono ?_
    rintro e w1 ⟨rfl, hb1⟩
    have B1 : Hid (Below w.heap.size w w1) := ((Below.refl _ w).alloc (Nat.le_refl _) _).trans (hb1.mono (by simp))
    have F1 : fblk w1 w.heap.size := (hb1.block _ (by simp)).trans (heap_alloc_new w _)
    obtain ⟨c0, c1, c2, f0, f1, f2⟩ := fblk_cells F1
    clear hb1 F1
    go_wp2_with fail
    exact bodyPost_ret (v := .tuple #[.slice none 0 0, .agg #[.int .i64 2, .int .i64 0, .int .i64 0]]) (by simp [results, Try.results9, go_sem, c0, c1, c2]) rfl (hP.out _ (below_set3 B1.out (Nat.le_refl _) _ _ _))
  · have hsc : Hid (scanT T = scanW (T.drop 0) 1 (0 - 0 + 1) []) := by show _ = _; unfold scanT; rw [if_neg hbig]; rfl
    have hat : Hid (∀ c x, T[c]? = some x → ∃ h : c < (bs T).size, (bs T)[c]'h = x) := fun c x h => bs_at h
    have hext : Hid (∀ a b, (bs T).extract a b = bs ((T.drop a).take (b - a))) := bs_ext T
    generalize hst : bs T = st at *
    clear hst
    have H0 : Hid (RS w (w.alloc (.cells #[.int .i64 0, .int .i64 0, .int .i64 0] 25)) (.slice none 0 0) []) := ⟨World.ownsRow_nil _ _ _ _, heap_alloc_new w _, (Below.refl _ w).alloc (Nat.le_refl _) _⟩
    go_enter Try.func9, Try.ntmps9
    go_wp2_with fail
    go_loopw [4, 5, 6, 7, 8] (fun v ln fr sm i wr => ∃ (a s l : Nat) (toks : List Tok), i = .int .i64 a ∧ ln = .int .i64 l ∧ fr = .int .i64 s ∧ sm = .bool (!endd toks) ∧ a ≤ T.length ∧ s ≤ a ∧ l ≤ a + 1 ∧ toks.length + 1 ≤ a + l ∧ Hid (RI T w wr a s l v toks)) (fun _ _ _ _ i _ => ((T.length : Int) - intOf i).toNat)
    case atStart => exact ⟨0, 0, 1, [], rfl, rfl, rfl, rfl, Nat.zero_le _, Nat.le_refl _, Nat.le_refl _, by simp, ⟨H0.out, hsc.out⟩⟩
    case round =>
      obtain ⟨a, s, l, toks, rfl, rfl, rfl, rfl, haT, hsa, hla, htk, HI⟩ := hrel
      obtain ⟨W1, rfl⟩ : ∃ x, x = wr := ⟨_, rfl⟩
      clear hsc H0
      obtain ⟨oa, cap, rfl⟩ := own_shapeT HI.out.rs.row
      by_cases hlt : a < T.length
      · obtain ⟨c, r, hT⟩ : ∃ c r, T.drop a = c :: r := by
          cases h : T.drop a with
          | nil => have := congrArg List.length h; simp at this; omega
          | cons c r => exact ⟨c, r, rfl⟩
        have hca := at_drop hT
        obtain ⟨q1, e1⟩ := hat.out a c hca
        have hlr : r.length = T.length - a - 1 := by have := congrArg List.length hT; simp at this; omega
        have hdn := hide' (drop_next hT)
        have p1 : (a : Int) - (s : Int) = ((a - s : Nat) : Int) := by omega
        have p2 : ((a - s : Nat) : Int) + 1 = ((a - s + 1 : Nat) : Int) := by omega
        have p3 : a - s + 1 ≤ 65537 := by omega
        clear hca
        cases hbl : isBl c
        · cases hrm : isRm c
          · cases hen : isEnd c
            · have q32 : ((c.toNat : Int) == 32) = false := (u8_eq c 32).symm.trans (by simp [isBl] at hbl; simpa using hbl.1)
              have q9 : ((c.toNat : Int) == 9) = false := (u8_eq c 9).symm.trans (by simp [isBl] at hbl; simpa using hbl.2)
              have q35 : ((c.toNat : Int) == 35) = false := (u8_eq c 35).symm.trans (by simpa [isRm] using hrm)
              have q10 : ((c.toNat : Int) == 10) = false := (u8_eq c 10).symm.trans (by simpa [isEnd] using hen)
              have K4 := hide' (rLetter c W1)
              cases hle : isLet c
              · rw [hle] at K4
                have K5 := hide' (rDigit c W1)
                cases hdi : isDig c
                · rw [hdi] at K5
                  have K7 := hide' (rMark c W1)
                  cases hmk : isMk c
                  · rw [hmk] at K7
                    have hcut : cutT (c :: r) = .error 3 := by unfold cutT; simp [hle, hdi, hmk]
                    have hE := hide' (hErr.out W1 _ toks 3 l (a - s + 1 : Nat) HI.out.rs (by decide) (by rw [HI.out.eq, hT, scan_err hbl hrm hen hcut]))
                    clear hErr hat hext hbl hrm hen hT HI hdn hi hz0 hz1 hz2 hm hle hdi hmk hcut
                    generalize a - s + 1 = d at *
                    generalize a - s = d' at *
                    generalize toks.length = m at *
                    go_wp2_with (first | (go_at_call 26; refine K4.out.mono ?_; rintro e w1 ⟨rfl, hw⟩; obtain rfl : W1 = w1 := hw.symm) | (go_at_call 28; refine K5.out.mono ?_; rintro e w1 ⟨rfl, hw⟩; obtain rfl : W1 = w1 := hw.symm) | (go_at_call 31; refine K7.out.mono ?_; rintro e w1 ⟨rfl, hw⟩; obtain rfl : W1 = w1 := hw.symm) | (go_at_call 25; refine (KF.out _ _ _ _).mono ?_; rintro e w2 ⟨rfl, hb2⟩; obtain ⟨hF2, hP2⟩ := hE.out w2 hb2; have hP2' := hide' hP2; obtain ⟨c0, c1, c2, f0, f1, f2⟩ := fblk_cells hF2; clear hP2 hF2 hb2))
                    exact bodyPost_ret (v := .tuple #[.slice none 0 0, .agg #[.int .i64 3, .int .i64 (l : Int), .int .i64 (d : Int)]]) (by simp [results, Try.results9, go_sem, c0, c1, c2]) rfl hP2'.out
                  · rw [hmk] at K7
                    have hcut : cutT (c :: r) = .ok (3, 1, 0) := by unfold cutT; simp [hle, hdi, hmk]
                    have hx1 : st.extract a (a + 1) = bs [c] := by rw [hext.out, hT]; simp
                    have hsc2 : Hid (scanT T = scanW (T.drop (a + 1)) l (a + 1 - s + 1) (toks ++ [⟨3, [c], 0, l, (a - s + 1 : Nat)⟩])) := by
                      show _ = _
                      rw [HI.out.eq, hT, scan_cut hbl hrm hen hcut, ← List.drop_drop, hT]
                      congr 1
                      omega
                    have hpush : Hid (∀ (W V w4 : World) g4 cap4, W = V → Below W1.heap.size W1 W → w4.ownsRow (w.heap.size + 1) 35 5 (.slice (some ⟨g4, 0, none⟩) (toks.length + 1) cap4) (toks.length + 1) (cellsT toks ++ [.int .i64 3, .string (bs [c]), .int .i64 0, .int .i64 (l : Int), .int .i64 ((a - s + 1 : Nat) : Int)]) → W.grownBy w4 (Value.slice oa toks.length cap).ownBlock → RI T w w4 (a + 1) s l (.slice (some ⟨g4, 0, none⟩) (toks.length + 1) cap4) (toks ++ [⟨3, [c], 0, l, (a - s + 1 : Nat)⟩])) := fun W V w4 g4 cap4 _ hb h1 h2 => ⟨(HI.out.rs.below hb).push h1 h2, hsc2.out⟩
                    have hrow := hide' HI.out.rs.row
                    have hend : Hid (endd (toks ++ [⟨3, [c], 0, l, (a - s + 1 : Nat)⟩]) = false) := by show _ = _; rw [endd_snoc]; rfl
                    have hlen : Hid ((toks ++ [(⟨3, [c], 0, l, (a - s + 1 : Nat)⟩ : Tok)]).length = toks.length + 1) := by show _ = _; simp
                    have hwl := hide' HI.out.rs.lt
                    generalize bs [c] = sx at *
                    generalize toks ++ [(⟨3, [c], 0, l, (a - s + 1 : Nat)⟩ : Tok)] = toks' at *
                    clear hErr hat hext hbl hrm hen hT HI hdn hm hle hdi hmk hcut KF hsc2
                    generalize a - s + 1 = d at *
                    generalize a - s = d' at *
                    generalize toks.length = m at *
                    go_wp2_with (first | (go_at_call 26; refine K4.out.mono ?_; rintro e w1 ⟨rfl, hw⟩; obtain rfl : W1 = w1 := hw.symm) | (go_at_call 28; refine K5.out.mono ?_; rintro e w1 ⟨rfl, hw⟩; obtain rfl : W1 = w1 := hw.symm) | (go_at_call 31; refine K7.out.mono ?_; rintro e w1 ⟨rfl, hw⟩; obtain rfl : W1 = w1 := hw.symm) | (at_builtin; go_loud (refine wpList_append_lies _ rfl _ _ 22 rfl (w.heap.size + 1) 35 i0 (.agg #[.int .i64 0, .string ⟨#[]⟩, .int .i64 0, .int .i64 0, .int .i64 0]) 5 48 Try.underlying22 hi hz0 hz1 hz2 rfl (by decide) (.slice oa m cap) m (cellsT toks) rfl (hrow.out.alloc _) ⟨W1.heap.size, 0, none⟩ 1 1 [.int .i64 3, .string sx, .int .i64 0, .int .i64 (l : Int), .int .i64 (d : Int)] rfl rfl (cell_five_new _ _ _ _ _ _) (by simp [Value.oneCell']) (by decide) (by unfold maxLen; omega) (by omega) (by have := hwl.out; simp; omega) _ rfl ?_); intro g4 cap4 w4 hown4 hgrow4 hat4 hlt4; have HO := hide' (And.intro hown4 hgrow4); clear hown4 hgrow4 hat4 hlt4))
                    have hI := hpush.out _ _ w4 g4 cap4 rfl ((Below.refl _ W1).alloc (Nat.le_refl _) _) HO.out.1 HO.out.2
                    exact ⟨⟨a + 1, s, l, toks', by go_num, rfl, rfl, by rw [hend.out]; rfl, by omega, by omega, by omega, by rw [hlen.out]; omega, hI⟩, by simp [intOf]; omega⟩
                · rw [hdi] at K5
                  have hnl : len isDig r ≤ r.length := len_le _ _
                  have hdl : Hid (∀ k, T.drop (a + 1 + k) = r.drop k) := fun k => by rw [← hdn.out, List.drop_drop]
                  have hN1 : len isDig (c :: r) = len isDig r + 1 := len_cons_true hdi
                  obtain ⟨N, hN⟩ : ∃ N, len isDig r = N := ⟨_, rfl⟩
                  rw [hN] at hnl hN1
                  have hN' := hide' hN
                  have hrow3 : Hid (∀ o, ((W1.alloc o).drew).ownsRow (w.heap.size + 1) 35 5 (.slice oa toks.length cap) toks.length (cellsT toks)) := fun o => (HI.out.rs.below (((Below.refl _ W1).alloc (Nat.le_refl _) o).drew)).row
                  have hwl := hide' HI.out.rs.lt
                  have hx1 : st.extract a (a + 1 + N) = bs ((c :: r).take (N + 1)) := by rw [hext.out, hT]; congr 2; omega
                  have htl : ((c :: r).take (N + 1)).length = N + 1 := by rw [List.length_take, List.length_cons]; omega
                  have hall : ∀ x ∈ (c :: r).take (N + 1), isDig x = true := by rw [← hN1, len_take]; exact takeWhile_all
                  have hRT : rightT ((c :: r).take (N + 1)) = (decide (N + 1 ≤ 9) && !(decide (1 < N + 1) && decide (c = 48))) := by
                    rw [List.take_succ_cons]
                    rw [List.take_succ_cons] at htl hall
                    unfold rightT
                    have : (c :: r.take N).all isDig = true := List.all_eq_true.2 hall
                    simp only [this, htl, Bool.and_true]
                  have hcd : Hid (cutT (c :: r) = if 9 < N + 1 ∨ (1 < N + 1 ∧ c = 48) then .error 3 else if ((r.drop N).head?.any isIn) then .error 3 else .ok (2, N + 1, (valu ((c :: r).take (N + 1)) : Nat))) := by
                    show _ = _
                    unfold cutT
                    simp only [hle, hdi, Bool.false_eq_true, if_true, if_false, hN1, List.drop_succ_cons]
                  have hE : Hid (cutT (c :: r) = .error 3 → ∀ W2, Below W1.heap.size W1 W2 → fblk W2 w.heap.size ∧ ScanPost T w (.returned (.tuple #[.slice none 0 0, .agg #[.int .i64 3, .int .i64 (l : Int), .int .i64 ((a - s + 1 : Nat) : Int)]])) (((W2.setCell ⟨w.heap.size, 0, none⟩ (.int .i64 3)).setCell ⟨w.heap.size, 1, none⟩ (.int .i64 (l : Int))).setCell ⟨w.heap.size, 2, none⟩ (.int .i64 ((a - s + 1 : Nat) : Int)))) := fun hcut =>
                    hErr.out W1 _ toks 3 l (a - s + 1 : Nat) HI.out.rs (by decide) (by rw [HI.out.eq, hT, scan_err hbl hrm hen hcut])
                  obtain ⟨okc, hok⟩ : ∃ okc : Prop, okc = (cutT (c :: r) = .ok (2, N + 1, (valu ((c :: r).take (N + 1)) : Nat))) := ⟨_, rfl⟩
                  have hsc2 : Hid (okc → scanT T = scanW (T.drop (a + 1 + N)) l (a + 1 + N - s + 1) (toks ++ [(⟨2, (c :: r).take (N + 1), (valu ((c :: r).take (N + 1)) : Nat), l, (a - s + 1 : Nat)⟩ : Tok)])) := fun h => by
                    rw [hok] at h
                    have hdd : T.drop (a + 1 + N) = (c :: r).drop (N + 1) := by rw [show a + 1 + N = a + (N + 1) by omega, ← List.drop_drop, hT]
                    rw [HI.out.eq, hT, scan_cut hbl hrm hen h, hdd]
                    congr 1
                    omega
                  have hpush : Hid (okc → ∀ (W w4 : World) v4, Below W1.heap.size W1 W → w4.ownsRow (w.heap.size + 1) 35 5 v4 (toks.length + 1) (cellsT toks ++ [.int .i64 2, .string (bs ((c :: r).take (N + 1))), .int .i64 (valu ((c :: r).take (N + 1)) : Nat), .int .i64 (l : Int), .int .i64 ((a - s + 1 : Nat) : Int)]) → W.grownBy w4 (Value.slice oa toks.length cap).ownBlock → RI T w w4 (a + 1 + N) s l v4 (toks ++ [(⟨2, (c :: r).take (N + 1), (valu ((c :: r).take (N + 1)) : Nat), l, (a - s + 1 : Nat)⟩ : Tok)])) := fun hc W w4 v4 hb h1 h2 => ⟨(HI.out.rs.below hb).push h1 h2, hsc2.out hc⟩
                  have hend : Hid (endd (toks ++ [(⟨2, (c :: r).take (N + 1), (valu ((c :: r).take (N + 1)) : Nat), l, (a - s + 1 : Nat)⟩ : Tok)]) = false) := by show _ = _; rw [endd_snoc]; rfl
                  have hlen : Hid ((toks ++ [(⟨2, (c :: r).take (N + 1), (valu ((c :: r).take (N + 1)) : Nat), l, (a - s + 1 : Nat)⟩ : Tok)]).length = toks.length + 1) := by show _ = _; simp
                  have KR : Hid (Calls Try.prog 29 #[.string (bs ((c :: r).take (N + 1)))] W1 fun e w' => e = .returned (.bool (rightT ((c :: r).take (N + 1)))) ∧ w' = W1) := rRight _ W1 (by rw [htl]; omega)
                  have KV : Hid (N + 1 ≤ 9 → ∀ W, Calls Try.prog 30 #[.string (bs ((c :: r).take (N + 1)))] W fun e w' => e = .returned (.int .i64 (valu ((c :: r).take (N + 1)) : Nat)) ∧ w' = W) := fun h W => rValue _ W (by rw [htl]; exact h) hall
                  have hyd : Hid (∀ y, (r.drop N).head? = some y → isDig y = false) := fun y hy => by
                    cases hd : isDig y with
                    | false => rfl
                    | true =>
                      exfalso
                      obtain ⟨r', hr'⟩ : ∃ r', r.drop N = y :: r' := by
                        cases h : r.drop N with
                        | nil => rw [h] at hy; cases hy
                        | cons b r' => rw [h] at hy; cases hy; exact ⟨r', rfl⟩
                      have h1 := len_split isDig r
                      rw [hN, hr', len_cons_true hd] at h1
                      omega
                  have hheq : Hid (∀ y, T[a + 1 + N]? = some y → (r.drop N).head? = some y) := fun y hy => by rw [← hdl.out N, drop_at hy]; rfl
                  have hhno : Hid (¬ a + 1 + N < T.length → (r.drop N).head? = none) := fun h => by rw [← hdl.out N, List.drop_eq_nil_of_le (by omega)]; rfl
                  rw [hRT] at KR
                  clear hRT
                  generalize toks ++ [(⟨2, (c :: r).take (N + 1), (valu ((c :: r).take (N + 1)) : Nat), l, (a - s + 1 : Nat)⟩ : Tok)] = toks' at *
                  generalize valu ((c :: r).take (N + 1)) = vv at *
                  generalize bs ((c :: r).take (N + 1)) = sx at *
                  have hcd' := hcd
                  clear hN hN1 hext hle hdi hErr hbl hrm hen hT HI hm hsc2 htl hall hcd
                  generalize a - s + 1 = d at *
                  generalize a - s = d' at *
                  go_wp2_with fail
                  refine K4.out.mono ?_
                  rintro e w1 ⟨rfl, hw⟩
                  obtain rfl : W1 = w1 := hw.symm
                  go_wp2_with fail
                  refine K5.out.mono ?_
                  rintro e w1 ⟨rfl, hw⟩
                  obtain rfl : W1 = w1 := hw.symm
                  go_upto_block 7 with fail
                  go_cut [11] from 102 to 113 (fun k wx => k = .int .i64 ((a + 1 + N : Nat) : Int) ∧ W1 = wx)
                  case first =>
                    as_aux_lemma =>
                    go_wp2_with fail
                    go_loopw [11] (fun k wx => ∃ n : Nat, k = .int .i64 ((a + 1 + n : Nat) : Int) ∧ n ≤ N ∧ W1 = wx ∧ Hid (N = n + len isDig (r.drop n))) (fun k _ => ((T.length : Int) - intOf k).toNat)
                    case atStart => exact ⟨0, by go_num, Nat.zero_le _, rfl, by show _ = _; rw [← hN'.out]; simp⟩
                    case round =>
                      obtain ⟨n, rfl, hnN, rfl, hl⟩ := hrel
                      by_cases hk : a + 1 + n < T.length
                      · obtain ⟨x, hx⟩ : ∃ x, T[a + 1 + n]? = some x := ⟨_, List.getElem?_eq_getElem hk⟩
                        obtain ⟨q2, e2⟩ := hat.out _ x hx
                        have hdx : Hid (r.drop n = x :: r.drop (n + 1)) := by
                          show _ = _
                          rw [← hdl.out n, drop_at hx, ← hdl.out (n + 1)]
                          rfl
                        have KX := hide' (rDigit x W1)
                        cases hp : isDig x
                        · have hr : n = N := by rw [hl.out, hdx.out, len_cons_false hp]; rfl
                          rw [hp] at KX
                          subst hr
                          clear hx hdx hp hl hat hdl e1 hlr hdn hN' hnN
                          generalize hkk : a + 1 + n = k at *
                          go_wp2_with (go_at_call 28; refine KX.out.mono ?_; rintro e w1 ⟨rfl, hw⟩; obtain rfl : W1 = w1 := hw.symm)
                          go_meet
                          exact ⟨rfl, rfl⟩
                        · have hr : Hid (N = n + 1 + len isDig (r.drop (n + 1))) := by show _ = _; rw [hl.out, hdx.out, len_cons_true hp]; omega
                          rw [hp] at KX
                          clear hx hdx hp hl hat hdl e1 hlr hdn hN'
                          generalize hkk : a + 1 + n = k at *
                          have hkk' := hide' hkk
                          clear hkk
                          go_wp2_with (go_at_call 28; refine KX.out.mono ?_; rintro e w1 ⟨rfl, hw⟩; obtain rfl : W1 = w1 := hw.symm)
                          exact ⟨⟨n + 1, by rw [show a + 1 + (n + 1) = k + 1 by have := hkk'.out; omega]; go_num, by have := hr.out; omega, trivial, hr.out⟩, by simp [intOf]; omega⟩
                      · have hr : n = N := by omega
                        subst hr
                        clear hl hat hdl e1 hlr hdn hN' hnN
                        generalize hkk : a + 1 + n = k at *
                        go_wp2_with fail
                        go_meet
                        exact ⟨rfl, rfl⟩
                  case rest =>
                    obtain ⟨rfl, rfl⟩ := hcut
                    clear hdl hN' K4 K5 e1 hdn
                    have hcd := hcd'.out
                    by_cases hbad : 9 < N + 1 ∨ (1 < N + 1 ∧ c = 48)
                    · rw [if_pos hbad] at hcd
                      have hE' := hide' (hE.out hcd)
                      have hrf : (decide (N + 1 ≤ 9) && !(decide (1 < N + 1) && decide (c = 48))) = false := by
                        rcases hbad with h | ⟨h1, h2⟩
                        · rw [show decide (N + 1 ≤ 9) = false from decide_eq_false (by omega)]; rfl
                        · rw [show decide (1 < N + 1) = true from decide_eq_true h1, show decide (c = 48) = true from decide_eq_true h2]; simp
                      rw [hrf] at KR
                      clear hi hz0 hz1 hz2 hrow3 hpush hE hcd hcd' hbad hrf hat KV hyd hheq hhno hok
                      have hka : a ≤ a + 1 + N := by omega
                      have hkT : a + 1 + N ≤ T.length := by omega
                      generalize toks.length = m at *
                      generalize a + 1 + N = k at *
                      go_wp2_with (first | (go_at_call 29; refine KR.out.mono ?_; rintro e w1 ⟨rfl, hw⟩; obtain rfl : W1 = w1 := hw.symm) | (go_at_call 25; refine (KF.out _ _ _ _).mono ?_; rintro e w2 ⟨rfl, hb2⟩; obtain ⟨hF2, hP2⟩ := hE'.out w2 hb2; have hP2' := hide' hP2; obtain ⟨c0, c1, c2, f0, f1, f2⟩ := fblk_cells hF2; clear hP2 hF2 hb2))
                      exact bodyPost_ret (v := .tuple #[.slice none 0 0, .agg #[.int .i64 3, .int .i64 (l : Int), .int .i64 (d : Int)]]) (by simp [results, Try.results9, go_sem, c0, c1, c2]) rfl hP2'.out
                    · rw [if_neg hbad] at hcd
                      have h9 : N + 1 ≤ 9 := by omega
                      have hrt : (decide (N + 1 ≤ 9) && !(decide (1 < N + 1) && decide (c = 48))) = true := by
                        have : (decide (1 < N + 1) && decide (c = 48)) = false := by
                          rw [Bool.and_eq_false_iff]
                          by_cases h : 1 < N + 1
                          · right; exact decide_eq_false fun h' => hbad (.inr ⟨h, h'⟩)
                          · left; exact decide_eq_false h
                        rw [this, decide_eq_true h9]; rfl
                      rw [hrt] at KR
                      have KV := hide' (KV.out h9)
                      clear hbad hrt
                      by_cases hk : a + 1 + N < T.length
                      · obtain ⟨y, hy⟩ : ∃ y, T[a + 1 + N]? = some y := ⟨_, List.getElem?_eq_getElem hk⟩
                        obtain ⟨q2, e2⟩ := hat.out _ y hy
                        have hh := hheq.out y hy
                        have hyn := hyd.out y hh
                        have KY := hide' (rLetter y W1)
                        rw [hh] at hcd
                        simp only [Option.any_some] at hcd
                        have hin : isIn y = (isLet y || decide (y = 45)) := by unfold isIn; rw [hyn]; simp
                        have hka : a ≤ a + 1 + N := by omega
                        generalize hkk : a + 1 + N = k at *
                        have hkk' := hide' hkk
                        have q45 := u8_eq y 45
                        cases hly : isLet y
                        · rw [hly] at KY
                          cases hy45 : decide (y = 45)
                          · have q : ((y.toNat : Int) == 45) = false := q45.symm.trans hy45
                            rw [if_neg (by rw [hin, hly, hy45]; decide)] at hcd
                            have hpush' := hide' (hpush.out (by rw [hok]; exact hcd))
                            have hkT : k ≤ T.length := by omega
                            clear hpush hE hcd hcd' hat hyd hheq hhno hok hy hh hyn hin q45 hly hy45 KF hkk
                            generalize toks.length = m at *
                            have hr3 : Hid (((W1.alloc (.cells #[.int .i64 2, .string sx, .int .i64 (vv : Int), .int .i64 (l : Int), .int .i64 (d : Int)] 35)).drew).ownsRow (w.heap.size + 1) 35 5 (.slice oa m cap) m (cellsT toks)) := hrow3.out _
                            have cn3 : Hid (∀ j u, ([Value.int .i64 2, .string sx, .int .i64 (vv : Int), .int .i64 (l : Int), .int .i64 (d : Int)] : List Value)[j]? = some u → ((W1.alloc (.cells #[.int .i64 2, .string sx, .int .i64 (vv : Int), .int .i64 (l : Int), .int .i64 (d : Int)] 35)).drew).cell? ((⟨W1.heap.size, 0, none⟩ : Addr).add j) = some u) := cell_five_new W1 _ _ _ _ _
                            go_upto_region 35 with (first | (go_at_call 29; refine KR.out.mono ?_; rintro e w1 ⟨rfl, hw⟩; obtain rfl : W1 = w1 := hw.symm) | (go_at_call 26; refine KY.out.mono ?_; rintro e w1 ⟨rfl, hw⟩; obtain rfl : W1 = w1 := hw.symm))
                            go_region_held3 (fun _ => True) (trivial) (first | (go_at_call 30; refine (KV.out _).mono ?_; rintro e w3 ⟨rfl, rfl⟩) | (rw [if_pos (by rfl)]; refine wp_append_own _ (.tmp 141) (.tmp 154) 22 rfl (w.heap.size + 1) 35 i0 (.agg #[.int .i64 0, .string ⟨#[]⟩, .int .i64 0, .int .i64 0, .int .i64 0]) 5 48 Try.underlying22 hi hz0 hz1 hz2 rfl (by decide) (.slice oa m cap) m (cellsT toks) rfl hr3.out ⟨W1.heap.size, 0, none⟩ 1 1 [.int .i64 2, .string sx, .int .i64 (vv : Int), .int .i64 (l : Int), .int .i64 (d : Int)] rfl rfl cn3.out (by simp [Value.oneCell']) (by unfold maxLen; omega) (by omega) (by have := hwl.out; simp; omega) ?_; intro v4 w4 hown4 hgrow4 _; have HO := hide' (And.intro hown4 hgrow4); clear hown4 hgrow4))
                            go_wp2_with fail
                            have hI := hpush'.out _ w4 v4 (((Below.refl _ W1).alloc (Nat.le_refl _) _).drew) HO.out.1 HO.out.2
                            have hk2 := hkk'.out
                            exact ⟨⟨k, s, l, toks', rfl, rfl, rfl, by rw [hend.out]; rfl, by omega, by omega, by omega, by rw [hlen.out]; omega, hI⟩, by simp [intOf]; omega⟩
                          · have q : ((y.toNat : Int) == 45) = true := q45.symm.trans hy45
                            rw [if_pos (by rw [hin, hy45]; simp)] at hcd
                            have hE' := hide' (hE.out hcd)
                            clear hi hz0 hz1 hz2 hrow3 hpush hE hcd hcd' hat KV hyd hheq hhno hok hy hh hyn hin q45 hly hy45 hkk
                            generalize toks.length = m at *
                            go_wp2_with (first | (go_at_call 29; refine KR.out.mono ?_; rintro e w1 ⟨rfl, hw⟩; obtain rfl : W1 = w1 := hw.symm) | (go_at_call 26; refine KY.out.mono ?_; rintro e w1 ⟨rfl, hw⟩; obtain rfl : W1 = w1 := hw.symm) | (go_at_call 25; refine (KF.out _ _ _ _).mono ?_; rintro e w2 ⟨rfl, hb2⟩; obtain ⟨hF2, hP2⟩ := hE'.out w2 hb2; have hP2' := hide' hP2; obtain ⟨c0, c1, c2, f0, f1, f2⟩ := fblk_cells hF2; clear hP2 hF2 hb2))
                            exact bodyPost_ret (v := .tuple #[.slice none 0 0, .agg #[.int .i64 3, .int .i64 (l : Int), .int .i64 (d : Int)]]) (by simp [results, Try.results9, go_sem, c0, c1, c2]) rfl hP2'.out
                        · rw [hly] at KY
                          rw [if_pos (by rw [hin, hly]; rfl)] at hcd
                          have hE' := hide' (hE.out hcd)
                          clear hi hz0 hz1 hz2 hrow3 hpush hE hcd hcd' hat KV hyd hheq hhno hok hy hh hyn hin q45 hly hkk
                          generalize toks.length = m at *
                          go_wp2_with (first | (go_at_call 29; refine KR.out.mono ?_; rintro e w1 ⟨rfl, hw⟩; obtain rfl : W1 = w1 := hw.symm) | (go_at_call 26; refine KY.out.mono ?_; rintro e w1 ⟨rfl, hw⟩; obtain rfl : W1 = w1 := hw.symm) | (go_at_call 25; refine (KF.out _ _ _ _).mono ?_; rintro e w2 ⟨rfl, hb2⟩; obtain ⟨hF2, hP2⟩ := hE'.out w2 hb2; have hP2' := hide' hP2; obtain ⟨c0, c1, c2, f0, f1, f2⟩ := fblk_cells hF2; clear hP2 hF2 hb2))
                          exact bodyPost_ret (v := .tuple #[.slice none 0 0, .agg #[.int .i64 3, .int .i64 (l : Int), .int .i64 (d : Int)]]) (by simp [results, Try.results9, go_sem, c0, c1, c2]) rfl hP2'.out
                      · have hh := hhno.out hk
                        rw [hh] at hcd
                        simp only [Option.any_none, Bool.false_eq_true, if_false] at hcd
                        have hka : a ≤ a + 1 + N := by omega
                        have hkT : a + 1 + N ≤ T.length := by omega
                        generalize hkk : a + 1 + N = k at *
                        have hkk' := hide' hkk
                        have hpush' := hide' (hpush.out (by rw [hok]; exact hcd))
                        clear hpush hE hcd hcd' hat hyd hheq hhno hok hh KF hkk
                        generalize toks.length = m at *
                        have hr3 : Hid (((W1.alloc (.cells #[.int .i64 2, .string sx, .int .i64 (vv : Int), .int .i64 (l : Int), .int .i64 (d : Int)] 35)).drew).ownsRow (w.heap.size + 1) 35 5 (.slice oa m cap) m (cellsT toks)) := hrow3.out _
                        have cn3 : Hid (∀ j u, ([Value.int .i64 2, .string sx, .int .i64 (vv : Int), .int .i64 (l : Int), .int .i64 (d : Int)] : List Value)[j]? = some u → ((W1.alloc (.cells #[.int .i64 2, .string sx, .int .i64 (vv : Int), .int .i64 (l : Int), .int .i64 (d : Int)] 35)).drew).cell? ((⟨W1.heap.size, 0, none⟩ : Addr).add j) = some u) := cell_five_new W1 _ _ _ _ _
                        go_upto_region 35 with (first | (go_at_call 29; refine KR.out.mono ?_; rintro e w1 ⟨rfl, hw⟩; obtain rfl : W1 = w1 := hw.symm))
                        go_region_held3 (fun _ => True) (trivial) (first | (go_at_call 30; refine (KV.out _).mono ?_; rintro e w3 ⟨rfl, rfl⟩) | (rw [if_pos (by rfl)]; refine wp_append_own _ (.tmp 141) (.tmp 154) 22 rfl (w.heap.size + 1) 35 i0 (.agg #[.int .i64 0, .string ⟨#[]⟩, .int .i64 0, .int .i64 0, .int .i64 0]) 5 48 Try.underlying22 hi hz0 hz1 hz2 rfl (by decide) (.slice oa m cap) m (cellsT toks) rfl hr3.out ⟨W1.heap.size, 0, none⟩ 1 1 [.int .i64 2, .string sx, .int .i64 (vv : Int), .int .i64 (l : Int), .int .i64 (d : Int)] rfl rfl cn3.out (by simp [Value.oneCell']) (by unfold maxLen; omega) (by omega) (by have := hwl.out; simp; omega) ?_; intro v4 w4 hown4 hgrow4 _; have HO := hide' (And.intro hown4 hgrow4); clear hown4 hgrow4))
                        go_wp2_with fail
                        have hI := hpush'.out _ w4 v4 (((Below.refl _ W1).alloc (Nat.le_refl _) _).drew) HO.out.1 HO.out.2
                        have hk2 := hkk'.out
                        exact ⟨⟨k, s, l, toks', rfl, rfl, rfl, by rw [hend.out]; rfl, by omega, by omega, by omega, by rw [hlen.out]; omega, hI⟩, by simp [intOf]; omega⟩
              · rw [hle] at K4
                have hnl : len isIn r ≤ r.length := len_le _ _
                have hdl : Hid (∀ k, T.drop (a + 1 + k) = r.drop k) := fun k => by rw [← hdn.out, List.drop_drop]
                have hN1 : len isIn (c :: r) = len isIn r + 1 := len_cons_true (isIn_let hle)
                obtain ⟨N, hN⟩ : ∃ N, len isIn r = N := ⟨_, rfl⟩
                rw [hN] at hnl hN1
                have hN' := hide' hN
                have hrow := hide' HI.out.rs.row
                have hwl := hide' HI.out.rs.lt
                have hcd : Hid (cutT (c :: r) = if 24 < N + 1 then .error 4 else .ok (1, N + 1, 0)) := by show _ = _; unfold cutT; simp only [hle, if_true, hN1]
                have hx1 : st.extract a (a + 1 + N) = bs ((c :: r).take (N + 1)) := by rw [hext.out, hT]; congr 2; omega
                have hE : Hid (24 < N + 1 → ∀ W2, Below W1.heap.size W1 W2 → fblk W2 w.heap.size ∧ ScanPost T w (.returned (.tuple #[.slice none 0 0, .agg #[.int .i64 4, .int .i64 (l : Int), .int .i64 ((a - s + 1 : Nat) : Int)]])) (((W2.setCell ⟨w.heap.size, 0, none⟩ (.int .i64 4)).setCell ⟨w.heap.size, 1, none⟩ (.int .i64 (l : Int))).setCell ⟨w.heap.size, 2, none⟩ (.int .i64 ((a - s + 1 : Nat) : Int)))) := fun h => by
                  have hcut := hcd.out
                  rw [if_pos h] at hcut
                  exact hErr.out W1 _ toks 4 l (a - s + 1 : Nat) HI.out.rs (by decide) (by rw [HI.out.eq, hT, scan_err hbl hrm hen hcut])
                have hsc2 : Hid (¬ 24 < N + 1 → scanT T = scanW (T.drop (a + 1 + N)) l (a + 1 + N - s + 1) (toks ++ [⟨1, (c :: r).take (N + 1), 0, l, (a - s + 1 : Nat)⟩])) := fun h => by
                  have hcut := hcd.out
                  rw [if_neg h] at hcut
                  have hdd : T.drop (a + 1 + N) = (c :: r).drop (N + 1) := by rw [show a + 1 + N = a + (N + 1) by omega, ← List.drop_drop, hT]
                  rw [HI.out.eq, hT, scan_cut hbl hrm hen hcut, hdd]
                  congr 1
                  omega
                have hpush : Hid (¬ 24 < N + 1 → ∀ (W w4 : World) g4 cap4, Below W1.heap.size W1 W → w4.ownsRow (w.heap.size + 1) 35 5 (.slice (some ⟨g4, 0, none⟩) (toks.length + 1) cap4) (toks.length + 1) (cellsT toks ++ [.int .i64 1, .string (bs ((c :: r).take (N + 1))), .int .i64 0, .int .i64 (l : Int), .int .i64 ((a - s + 1 : Nat) : Int)]) → W.grownBy w4 (Value.slice oa toks.length cap).ownBlock → RI T w w4 (a + 1 + N) s l (.slice (some ⟨g4, 0, none⟩) (toks.length + 1) cap4) (toks ++ [(⟨1, (c :: r).take (N + 1), 0, l, (a - s + 1 : Nat)⟩ : Tok)])) := fun hc W w4 g4 cap4 hb h1 h2 => ⟨(HI.out.rs.below hb).push h1 h2, hsc2.out hc⟩
                have hend : Hid (endd (toks ++ [(⟨1, (c :: r).take (N + 1), 0, l, (a - s + 1 : Nat)⟩ : Tok)]) = false) := by show _ = _; rw [endd_snoc]; rfl
                have hlen : Hid ((toks ++ [(⟨1, (c :: r).take (N + 1), 0, l, (a - s + 1 : Nat)⟩ : Tok)]).length = toks.length + 1) := by show _ = _; simp
                generalize toks ++ [(⟨1, (c :: r).take (N + 1), 0, l, (a - s + 1 : Nat)⟩ : Tok)] = toks' at *
                generalize bs ((c :: r).take (N + 1)) = sx at *
                clear hN hN1 hext hle hErr hbl hrm hen hT HI hm hcd hsc2
                generalize a - s + 1 = d at *
                generalize a - s = d' at *
                go_wp2_with fail
                refine K4.out.mono ?_
                rintro e w1 ⟨rfl, hw⟩
                obtain rfl : W1 = w1 := hw.symm
                go_upto_block 5 with fail
                go_cut [11] from 70 to 81 (fun k wx => k = .int .i64 ((a + 1 + N : Nat) : Int) ∧ W1 = wx)
                case first =>
                  as_aux_lemma =>
                  go_wp2_with fail
                  go_loopw [11] (fun k wx => ∃ n : Nat, k = .int .i64 ((a + 1 + n : Nat) : Int) ∧ n ≤ N ∧ W1 = wx ∧ Hid (N = n + len isIn (r.drop n))) (fun k _ => ((T.length : Int) - intOf k).toNat)
                  case atStart => exact ⟨0, by go_num, Nat.zero_le _, rfl, by show _ = _; rw [← hN'.out]; simp⟩
                  case round =>
                    obtain ⟨n, rfl, hnN, rfl, hl⟩ := hrel
                    by_cases hk : a + 1 + n < T.length
                    · obtain ⟨x, hx⟩ : ∃ x, T[a + 1 + n]? = some x := ⟨_, List.getElem?_eq_getElem hk⟩
                      obtain ⟨q2, e2⟩ := hat.out _ x hx
                      have hdx : Hid (r.drop n = x :: r.drop (n + 1)) := by
                        show _ = _
                        rw [← hdl.out n, drop_at hx, ← hdl.out (n + 1)]
                        rfl
                      have KX := hide' (rInner x W1)
                      cases hp : isIn x
                      · have hr : n = N := by rw [hl.out, hdx.out, len_cons_false hp]; rfl
                        rw [hp] at KX
                        subst hr
                        clear hx hdx hp hl hat hdl e1 hlr hdn hN' hnN
                        generalize hkk : a + 1 + n = k at *
                        go_wp2_with (go_at_call 27; refine KX.out.mono ?_; rintro e w1 ⟨rfl, hw⟩; obtain rfl : W1 = w1 := hw.symm)
                        go_meet
                        exact ⟨rfl, rfl⟩
                      · have hr : Hid (N = n + 1 + len isIn (r.drop (n + 1))) := by show _ = _; rw [hl.out, hdx.out, len_cons_true hp]; omega
                        rw [hp] at KX
                        clear hx hdx hp hl hat hdl e1 hlr hdn hN'
                        generalize hkk : a + 1 + n = k at *
                        have hkk' := hide' hkk
                        clear hkk
                        go_wp2_with (go_at_call 27; refine KX.out.mono ?_; rintro e w1 ⟨rfl, hw⟩; obtain rfl : W1 = w1 := hw.symm)
                        exact ⟨⟨n + 1, by rw [show a + 1 + (n + 1) = k + 1 by have := hkk'.out; omega]; go_num, by have := hr.out; omega, trivial, hr.out⟩, by simp [intOf]; omega⟩
                    · have hr : n = N := by omega
                      subst hr
                      clear hl hat hdl e1 hlr hdn hN' hnN
                      generalize hkk : a + 1 + n = k at *
                      go_wp2_with fail
                      go_meet
                      exact ⟨rfl, rfl⟩
                case rest =>
                  obtain ⟨rfl, rfl⟩ := hcut
                  clear hat hdl hN' K4 e1 hdn
                  have p4 : ((a + 1 + N : Nat) : Int) - (a : Int) = ((N + 1 : Nat) : Int) := by omega
                  by_cases h24 : 24 < N + 1
                  · have hE' := hide' (hE.out h24)
                    clear hi hz0 hz1 hz2 hrow hx1 hpush hE
                    generalize toks.length = m at *
                    generalize a + 1 + N = k at *
                    go_wp2_with (go_at_call 25; refine (KF.out _ _ _ _).mono ?_; rintro e w2 ⟨rfl, hb2⟩; obtain ⟨hF2, hP2⟩ := hE'.out w2 hb2; have hP2' := hide' hP2; obtain ⟨c0, c1, c2, f0, f1, f2⟩ := fblk_cells hF2; clear hP2 hF2 hb2)
                    exact bodyPost_ret (v := .tuple #[.slice none 0 0, .agg #[.int .i64 4, .int .i64 (l : Int), .int .i64 (d : Int)]]) (by simp [results, Try.results9, go_sem, c0, c1, c2]) rfl hP2'.out
                  · have hpush' := hide' (hpush.out h24)
                    clear KF hE hpush
                    generalize toks.length = m at *
                    generalize hkk : a + 1 + N = k at *
                    have hkk' := hide' hkk
                    have hka : a ≤ k := by omega
                    have hkT : k ≤ T.length := by omega
                    clear hkk
                    go_wp2_with (at_builtin; go_loud (refine wpList_append_lies _ rfl _ _ 22 rfl (w.heap.size + 1) 35 i0 (.agg #[.int .i64 0, .string ⟨#[]⟩, .int .i64 0, .int .i64 0, .int .i64 0]) 5 48 Try.underlying22 hi hz0 hz1 hz2 rfl (by decide) (.slice oa m cap) m (cellsT toks) rfl (hrow.out.alloc _) ⟨W1.heap.size, 0, none⟩ 1 1 [.int .i64 1, .string sx, .int .i64 0, .int .i64 (l : Int), .int .i64 (d : Int)] rfl rfl (cell_five_new _ _ _ _ _ _) (by simp [Value.oneCell']) (by decide) (by unfold maxLen; omega) (by omega) (by have := hwl.out; simp; omega) _ rfl ?_); intro g4 cap4 w4 hown4 hgrow4 hat4 hlt4; have HO := hide' (And.intro hown4 hgrow4); clear hown4 hgrow4 hat4 hlt4)
                    have hI := hpush'.out _ w4 g4 cap4 ((Below.refl _ W1).alloc (Nat.le_refl _) _) HO.out.1 HO.out.2
                    have hk2 := hkk'.out
                    exact ⟨⟨k, s, l, toks', rfl, rfl, rfl, by rw [hend.out]; rfl, by omega, by omega, by omega, by rw [hlen.out]; omega, hI⟩, by simp [intOf]; omega⟩
            · -- the end of a line
              have hc10 : c = 10 := by simpa [isEnd] using hen
              have hI : Hid (∀ W v, RS w W v (endL toks l (a - s + 1 : Nat)) → RI T w W (a + 1) (a + 1) (l + 1) v (endL toks l (a - s + 1 : Nat))) := fun W v h => ⟨h, by rw [HI.out.eq, hT, scan_end hbl hrm hen, hdn.out]; congr 1; omega⟩
              have e10 : (10 : UInt8).toNat = 10 := rfl
              have hrs := hide' HI.out.rs
              have hrow := hide' HI.out.rs.row
              have hwl := hide' HI.out.rs.lt
              subst hc10
              cases he : endd toks
              · have hel : endL toks l (a - s + 1 : Nat) = toks ++ [⟨4, [], 0, l, (a - s + 1 : Nat)⟩] := by unfold endL; rw [he]; rfl
                rw [hel] at hI
                have hpush : Hid (∀ (W w4 : World) g4 cap4, Below W1.heap.size W1 W → w4.ownsRow (w.heap.size + 1) 35 5 (.slice (some ⟨g4, 0, none⟩) (toks.length + 1) cap4) (toks.length + 1) (cellsT toks ++ [.int .i64 4, .string ⟨#[]⟩, .int .i64 0, .int .i64 (l : Int), .int .i64 ((a - s + 1 : Nat) : Int)]) → W.grownBy w4 (Value.slice oa toks.length cap).ownBlock → RS w w4 (.slice (some ⟨g4, 0, none⟩) (toks.length + 1) cap4) (toks ++ [⟨4, [], 0, l, (a - s + 1 : Nat)⟩])) := fun W w4 g4 cap4 hb h1 h2 => (hrs.out.below hb).push h1 h2
                have hend : Hid (endd (toks ++ [⟨4, [], 0, l, (a - s + 1 : Nat)⟩]) = true) := by show _ = _; rw [endd_snoc]; rfl
                have hlen : Hid ((toks ++ [(⟨4, [], 0, l, (a - s + 1 : Nat)⟩ : Tok)]).length = toks.length + 1) := by show _ = _; simp
                generalize toks ++ [(⟨4, [], 0, l, (a - s + 1 : Nat)⟩ : Tok)] = toks' at *
                clear hErr hat hext hbl hrm hen hT HI hdn hm KF he hel hrs
                generalize a - s + 1 = d at *
                generalize a - s = d' at *
                generalize toks.length = m at *
                go_wp2_with (at_builtin; go_loud (refine wpList_append_lies _ rfl _ _ 22 rfl (w.heap.size + 1) 35 i0 (.agg #[.int .i64 0, .string ⟨#[]⟩, .int .i64 0, .int .i64 0, .int .i64 0]) 5 48 Try.underlying22 hi hz0 hz1 hz2 rfl (by decide) (.slice oa m cap) m (cellsT toks) rfl (hrow.out.alloc _) ⟨W1.heap.size, 0, none⟩ 1 1 [.int .i64 4, .string ⟨#[]⟩, .int .i64 0, .int .i64 (l : Int), .int .i64 (d : Int)] rfl rfl (cell_five_new _ _ _ _ _ _) (by simp [Value.oneCell']) (by decide) (by unfold maxLen; omega) (by omega) (by have := hwl.out; simp; omega) _ rfl ?_); intro g4 cap4 w4 hown4 hgrow4 hat4 hlt4; have HO := hide' (And.intro hown4 hgrow4); clear hown4 hgrow4 hat4 hlt4)
                have hR := hI.out _ _ (hpush.out _ w4 g4 cap4 ((Below.refl _ W1).alloc (Nat.le_refl _) _) HO.out.1 HO.out.2)
                exact ⟨⟨a + 1, a + 1, l + 1, toks', by go_num, by go_num, by go_num, by rw [hend.out]; rfl, by omega, by omega, by omega, by rw [hlen.out]; omega, hR⟩, by simp [intOf]; omega⟩
              · have hel : endL toks l (a - s + 1 : Nat) = toks := by unfold endL; rw [he]; rfl
                rw [hel] at hI
                have hR := hide' (hI.out _ _ hrs.out)
                have he' := hide' he
                clear hErr hat hext hbl hrm hen hT HI hdn hm KF hel hrs hI hrow he
                generalize a - s + 1 = d at *
                generalize a - s = d' at *
                go_wp2_with fail
                exact ⟨⟨a + 1, a + 1, l + 1, toks, by go_num, by go_num, by go_num, by rw [he'.out]; rfl, by omega, by omega, by omega, by omega, hR.out⟩, by simp [intOf]; omega⟩
          · have hc35 : c = 35 := by simpa [isRm] using hrm
            have hI : Hid (RI T w W1 (a + 1 + len inLn r) s l (.slice oa toks.length cap) toks) := ⟨HI.out.rs, by rw [HI.out.eq, hT, scan_rm hbl hrm, ← hdn.out, List.drop_drop]; congr 1; omega⟩
            have hnl : len inLn r ≤ r.length := len_le _ _
            have hnn : Hid (len inLn r = len inLn r) := rfl
            have hdl : Hid (∀ k, T.drop (a + 1 + k) = r.drop k) := fun k => by rw [← hdn.out, List.drop_drop]
            have e35 : (35 : UInt8).toNat = 35 := rfl
            clear hErr KF hext hbl hrm hT HI hi hz0 hz1 hz2 hm
            subst hc35
            generalize a - s + 1 = d at *
            generalize a - s = d' at *
            obtain ⟨N, hN⟩ : ∃ N, len inLn r = N := ⟨_, rfl⟩
            rw [hN] at hI hnl
            have hN' := hide' hN
            clear hN hnn
            go_wp2_with fail
            go_loopw [11] (fun k wx => ∃ n : Nat, k = .int .i64 ((a + 1 + n : Nat) : Int) ∧ n ≤ N ∧ W1 = wx ∧ Hid (N = n + len inLn (r.drop n))) (fun k _ => ((T.length : Int) - intOf k).toNat)
            case atStart => exact ⟨0, by go_num, Nat.zero_le _, rfl, by show _ = _; rw [← hN'.out]; simp⟩
            case round =>
              obtain ⟨n, rfl, hnN, rfl, hl⟩ := hrel
              by_cases hk : a + 1 + n < T.length
              · obtain ⟨x, hx⟩ : ∃ x, T[a + 1 + n]? = some x := ⟨_, List.getElem?_eq_getElem hk⟩
                obtain ⟨q2, e2⟩ := hat.out _ x hx
                have hdx : Hid (r.drop n = x :: r.drop (n + 1)) := by
                  show _ = _
                  rw [← hdl.out n, drop_at hx, ← hdl.out (n + 1)]
                  rfl
                cases hp : inLn x
                · have hr : n = N := by rw [hl.out, hdx.out, len_cons_false hp]; rfl
                  have q10 : ((x.toNat : Int) != 10) = false := by
                    have h10 : x = 10 := by simpa [inLn, isEnd] using hp
                    subst h10; rfl
                  subst hr
                  clear hx hdx hp hl hat hdl e1 hlr hdn hN' hnN
                  generalize hkk : a + 1 + n = k at *
                  go_wp2_with fail
                  exact ⟨⟨k, s, l, toks, rfl, rfl, rfl, rfl, by omega, by omega, by omega, by omega, hI.out⟩, by simp [intOf]; omega⟩
                · have hr : Hid (N = n + 1 + len inLn (r.drop (n + 1))) := by show _ = _; rw [hl.out, hdx.out, len_cons_true hp]; omega
                  have q10 : ((x.toNat : Int) != 10) = true := by
                    have h10 : ¬ x = 10 := by simpa [inLn, isEnd] using hp
                    rw [bne_iff_ne]
                    intro h
                    exact h10 (UInt8.toNat_inj.1 (by show x.toNat = 10; omega))
                  clear hx hdx hp hl hat hdl e1 hlr hdn hN' hI
                  generalize hkk : a + 1 + n = k at *
                  have hkk' := hide' hkk
                  clear hkk
                  go_wp2_with fail
                  exact ⟨⟨n + 1, by rw [show a + 1 + (n + 1) = k + 1 by have := hkk'.out; omega]; go_num, by have := hr.out; omega, trivial, hr.out⟩, by simp [intOf]; omega⟩
              · have hr : n = N := by omega
                subst hr
                clear hl hat hdl e1 hdn hN' hnN
                generalize hkk : a + 1 + n = k at *
                go_wp2_with fail
                exact ⟨⟨k, s, l, toks, rfl, rfl, rfl, rfl, by omega, by omega, by omega, by omega, hI.out⟩, by simp [intOf]; omega⟩
        · have hc32 : c = 32 ∨ c = 9 := by simpa [isBl] using hbl
          have hI : Hid (RI T w W1 (a + 1) s l (.slice oa toks.length cap) toks) := ⟨HI.out.rs, by rw [HI.out.eq, hT, scan_bl hbl, hdn.out]; congr 1; omega⟩
          clear hErr KF hat hext hbl hT HI hdn hi hz0 hz1 hz2 hm
          have e32 : (32 : UInt8).toNat = 32 := rfl
          have e9 : (9 : UInt8).toNat = 9 := rfl
          generalize a - s + 1 = d at *
          generalize a - s = d' at *
          rcases hc32 with rfl | rfl
          · go_wp2_with fail
            exact ⟨⟨a + 1, s, l, toks, by go_num, rfl, rfl, rfl, by omega, by omega, by omega, by omega, hI.out⟩, by simp [intOf]; omega⟩
          · go_wp2_with fail
            exact ⟨⟨a + 1, s, l, toks, by go_num, rfl, rfl, rfl, by omega, by omega, by omega, by omega, hI.out⟩, by simp [intOf]; omega⟩
      · obtain rfl : a = T.length := by omega
        have hE := hide' HI.out.eq
        have hrs := hide' HI.out.rs
        have hwl := hide' HI.out.rs.lt
        obtain ⟨c0, c1, c2, f0, f1, f2⟩ := fblk_cells HI.out.rs.fb
        have hP : Hid (∀ (W : World) (v : Value) (tk : List Tok), RS w W v tk → scanT T = .ok tk → ScanPost T w (.returned (.tuple #[v, .agg #[.int .i64 0, .int .i64 0, .int .i64 0]])) (((W.setCell ⟨w.heap.size, 0, none⟩ (.int .i64 0)).setCell ⟨w.heap.size, 1, none⟩ (.int .i64 0)).setCell ⟨w.heap.size, 2, none⟩ (.int .i64 0))) := fun W v tk h he => ⟨below_set3 h.bl (Nat.le_refl _) _ _ _, v, 0, 0, 0, tk, rfl, owns_low (owns_set3 h.row (by omega) _ _ _) (by omega), .inr ⟨rfl, rfl, rfl, he⟩⟩
        have p1 : (T.length : Int) - (s : Int) = ((T.length - s : Nat) : Int) := by omega
        have p2 : ((T.length - s : Nat) : Int) + 1 = ((T.length - s + 1 : Nat) : Int) := by omega
        have p3 : T.length - s + 1 ≤ 65537 := by omega
        have hrow := hide' HI.out.rs.row
        cases he : endd toks
        · have hfin : Hid (scanT T = .ok (toks ++ [⟨4, [], 0, l, (T.length - s + 1 : Nat)⟩])) := by show _ = _; rw [hE.out, List.drop_eq_nil_of_le (Nat.le_refl _), scan_nil]; unfold endL; rw [he]; rfl
          have hpush : Hid (∀ (W w4 : World) g4 cap4, Below W1.heap.size W1 W → w4.ownsRow (w.heap.size + 1) 35 5 (.slice (some ⟨g4, 0, none⟩) (toks.length + 1) cap4) (toks.length + 1) (cellsT toks ++ [.int .i64 4, .string ⟨#[]⟩, .int .i64 0, .int .i64 (l : Int), .int .i64 ((T.length - s + 1 : Nat) : Int)]) → W.grownBy w4 (Value.slice oa toks.length cap).ownBlock → RS w w4 (.slice (some ⟨g4, 0, none⟩) (toks.length + 1) cap4) (toks ++ [⟨4, [], 0, l, (T.length - s + 1 : Nat)⟩])) := fun W w4 g4 cap4 hb h1 h2 => (hrs.out.below hb).push h1 h2
          generalize toks ++ [(⟨4, [], 0, l, (T.length - s + 1 : Nat)⟩ : Tok)] = toks' at *
          clear hErr hat hext hE hrs HI KF hm c0 c1 c2 f0 f1 f2 he
          generalize T.length - s + 1 = d at *
          generalize T.length - s = d' at *
          generalize toks.length = m at *
          go_wp2_with (at_builtin; go_loud (refine wpList_append_lies _ rfl _ _ 22 rfl (w.heap.size + 1) 35 i0 (.agg #[.int .i64 0, .string ⟨#[]⟩, .int .i64 0, .int .i64 0, .int .i64 0]) 5 48 Try.underlying22 hi hz0 hz1 hz2 rfl (by decide) (.slice oa m cap) m (cellsT toks) rfl (hrow.out.alloc _) ⟨W1.heap.size, 0, none⟩ 1 1 [.int .i64 4, .string ⟨#[]⟩, .int .i64 0, .int .i64 (l : Int), .int .i64 (d : Int)] rfl rfl (cell_five_new _ _ _ _ _ _) (by simp [Value.oneCell']) (by decide) (by unfold maxLen; omega) (by omega) (by have := hwl.out; simp; omega) _ rfl ?_); intro g4 cap4 w4 hown4 hgrow4 hat4 hlt4; have hR := hide' (hpush.out _ w4 g4 cap4 ((Below.refl _ W1).alloc (Nat.le_refl _) _) hown4 hgrow4); obtain ⟨c0, c1, c2, f0, f1, f2⟩ := fblk_cells hR.out.fb; have HO := hide' (And.intro hown4 hgrow4); clear hown4 hgrow4 hat4 hlt4)
          exact bodyPost_ret (v := .tuple #[.slice (some ⟨g4, 0, none⟩) (m + 1) cap4, .agg #[.int .i64 0, .int .i64 0, .int .i64 0]]) (by simp [results, Try.results9, go_sem, c0, c1, c2]) rfl (hP.out _ _ _ hR.out hfin.out)
        · have hfin : Hid (scanT T = .ok toks) := by show _ = _; rw [hE.out, List.drop_eq_nil_of_le (Nat.le_refl _), scan_nil]; unfold endL; rw [he]; rfl
          clear hErr hat hext hE HI KF hm he hrow
          generalize T.length - s + 1 = d at *
          generalize T.length - s = d' at *
          generalize toks.length = m at *
          go_wp2_with fail
          exact bodyPost_ret (v := .tuple #[.slice oa m cap, .agg #[.int .i64 0, .int .i64 0, .int .i64 0]]) (by simp [results, Try.results9, go_sem, c0, c1, c2]) rfl (hP.out _ _ _ hrs.out hfin.out)
end Go.Proofs.Ytmkiggbpbojiiaa

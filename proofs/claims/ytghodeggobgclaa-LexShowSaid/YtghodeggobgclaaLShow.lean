/- Show: what it answers. -/
import Derived.Test.YtghodeggobgclaaLAsSc
import Derived.Test.YtghodeggobgclaaLBldS
namespace Go.Proofs.Ytghodeggobgclaa
open Go.RowKit Go.Shelf
/-- What is written of a token behind others. -/
def shOne (pre : List Tok) (t : Tok) : List UInt8 := (if t.kind = 4 then [10] else if !endd pre && (decide (t.text ≠ [44]) && decide (t.text ≠ [58])) then [32] else []) ++ t.text
/-- The text of the first n tokens. -/
def shN (L : List Tok) : Nat → List UInt8
  | 0 => []
  | n + 1 => shN L n ++ (match L[n]? with | none => [] | some t => shOne (L.take n) t)
def shT (L : List Tok) : List UInt8 := shN L L.length
theorem shN_step {L : List Tok} {n : Nat} {t : Tok} (ht : L[n]? = some t) : shN L (n + 1) = shN L n ++ shOne (L.take n) t := by simp only [shN, ht]
theorem whole_len {t : Tok} (h : wholeT t = true) : t.text.length ≤ 24 := by
  unfold wholeT at h
  split at h
  · simp only [Bool.and_eq_true, decide_eq_true_eq] at h
    rw [h.1]; simp
  · split at h
    · cases h
    · rename_i c r htx
      split at h
      · cases h
      · rename_i k n v hcut
        simp only [Bool.and_eq_true, decide_eq_true_eq] at h
        have hl := congrArg List.length h.2.1
        rw [List.length_take] at hl
        rw [htx]
        have hn : n ≤ 24 := by
          unfold cutT at hcut
          simp only at hcut
          split at hcut
          · split at hcut
            · cases hcut
            · cases hcut; omega
          · split at hcut
            · split at hcut
              · cases hcut
              · split at hcut
                · cases hcut
                · cases hcut; omega
            · split at hcut
              · cases hcut; omega
              · cases hcut
        omega
theorem asN_whole {L : List Tok} : ∀ {n : Nat}, asN L n = true → ∀ k t, k < n → L[k]? = some t → wholeT t = true
  | 0, _, k, t, hk, _ => by omega
  | n + 1, h, k, t, hk, ht => by
    simp only [asN, Bool.and_eq_true] at h
    by_cases e : k = n
    · subst e
      rw [ht] at h
      simp only [Bool.and_eq_true] at h
      exact h.2.2
    · exact asN_whole h.1 k t (by omega) ht
theorem shN_len {L : List Tok} (h : asN L L.length = true) : ∀ n, n ≤ L.length → (shN L n).length ≤ 25 * n
  | 0, _ => by simp [shN]
  | n + 1, hn => by
    have ih := shN_len h n (by omega)
    obtain ⟨t, ht⟩ : ∃ t, L[n]? = some t := ⟨_, List.getElem?_eq_getElem (by omega)⟩
    have hw := whole_len (asN_whole h n t (by omega) ht)
    rw [shN_step ht, List.length_append]
    have : (shOne (L.take n) t).length ≤ 25 := by
      unfold shOne
      rw [List.length_append]
      split
      · simp; omega
      · split <;> simp <;> omega
    omega
theorem shOne_ne {pre : List Tok} {t : Tok} (h : wholeT t = true) : shOne pre t ≠ [] := by
  unfold shOne
  by_cases h4 : t.kind = 4
  · rw [if_pos h4]; simp
  · intro e
    have htx : t.text = [] := (List.append_eq_nil_iff.1 e).2
    unfold wholeT at h
    rw [if_neg h4, htx] at h
    cases h
theorem shT_ne {L : List Tok} (h : asN L L.length = true) (hL : L.length ≠ 0) : shT L ≠ [] := by
  unfold shT
  obtain ⟨n, hn⟩ : ∃ n, L.length = n + 1 := ⟨L.length - 1, by omega⟩
  obtain ⟨t, ht⟩ : ∃ t, L[n]? = some t := ⟨_, List.getElem?_eq_getElem (by omega)⟩
  rw [hn, shN_step ht]
  intro e
  exact shOne_ne (asN_whole h n t (by omega) ht) (List.append_eq_nil_iff.1 e).2
def showV (L : List Tok) : Value := if asT L then .tuple #[.string (bs (shT L)), .int .i64 0] else .tuple #[.string ⟨#[]⟩, .int .i64 3]
theorem Bd.below {B b : Nat} {l : List UInt8} {W V : World} (h : Bd B b l W) (hb : Below W.heap.size W V) : Bd B b l V := by
  obtain ⟨hB, p, v, hp, hk, hr, hne⟩ := h
  exact ⟨hB, p, v, hp, (hb.block _ (Array.getElem?_eq_some_iff.1 hk).1).trans hk, owns_same hr (fun g hg _ => hb.block g hg), hne⟩
set_option maxRecDepth 100000 in
set_option maxHeartbeats 8000000 in
theorem showF (oa : Option Addr) (cap : Nat) (L : List Tok) (w : World) (H : TokAt w oa L) (hm : L.length ≤ 1000000) (hcap : L.length ≤ cap) (hcm : cap ≤ 9223372036854775807) (htx : ∀ t ∈ L, t.text.length ≤ 9223372036854775807) :
    Calls Try.prog 7 #[.slice oa L.length cap] w fun e w' => e = .returned (showV L) ∧ Below w.heap.size w w' := by
  have KA := hide' (asScannedF oa cap L w H (by omega) hcap hcm htx)
  have H' := hide' H
  clear H htx
  cases has : asT L
  · have hv : Hid (showV L = .tuple #[.string ⟨#[]⟩, .int .i64 3]) := by show _ = _; unfold showV; rw [has]; rfl
    rw [has] at KA
    rw [hv.out]
    clear H' has hv
    go_enter Try.func7, Try.ntmps7
    go_wp2_with fail
    refine KA.out.mono ?_
    rintro e w1 ⟨rfl, hb1⟩
    have B1 := hide' hb1
    clear hb1 KA
    go_wp2_with fail
    go_ret2
    exact ⟨rfl, B1.out⟩
  · have hv : Hid (showV L = .tuple #[.string (bs (shT L)), .int .i64 0]) := by show _ = _; unfold showV; rw [has]; rfl
    rw [has] at KA
    rw [hv.out]
    have hasN : Hid (asN L L.length = true) := by
      have := has
      unfold asT at this
      rw [Bool.and_eq_true] at this
      exact this.1
    clear has hv
    go_enter Try.func7, Try.ntmps7
    go_wp2_with fail
    refine KA.out.mono ?_
    rintro e w1 ⟨rfl, hb1⟩
    have B1 := hide' hb1
    have D0 : Hid (Bd w1.heap.size w1.heap.size [] (w1.alloc (.cells #[.pointer none, .slice none 0 0] 75))) := ⟨Nat.le_refl _, _, _, .inl rfl, heap_alloc_new w1 _, World.ownsRow_nil _ _ _ _, by simp [Value.ownBlock]⟩
    have a1 : Hid (Below w1.heap.size w1 (w1.alloc (.cells #[.pointer none, .slice none 0 0] 75))) := (Below.refl _ w1).alloc (Nat.le_refl _) _
    have HT1 := hide' (H'.out.keep hb1)
    clear hb1 KA H'
    go_wp2_with fail
    go_loopw [12] (fun k wr => ∃ c : Nat, k = .int .i64 c ∧ c ≤ L.length ∧ Hid (Bd w1.heap.size w1.heap.size (shN L c) wr) ∧ Hid (Below w1.heap.size w1 wr) ∧ Hid (c = 0 → wr.heap[w1.heap.size]? = some (.cells #[.pointer none, .slice none 0 0] 75 (0, 0)))) (fun k _ => ((L.length : Int) - intOf k).toNat)
    case atStart => exact ⟨0, rfl, Nat.zero_le _, D0.out, a1.out, fun _ => heap_alloc_new w1 _⟩
    case round =>
      obtain ⟨c, rfl, hc, hD, hB, hz⟩ := hrel
      obtain ⟨W3, rfl⟩ : ∃ x, x = wr := ⟨_, rfl⟩
      clear D0 a1
      by_cases hlt : c < L.length
      · obtain ⟨t, ht⟩ : ∃ t, L[c]? = some t := ⟨_, List.getElem?_eq_getElem hlt⟩
        have HT3 := hide' (HT1.out.keep hB.out)
        obtain ⟨g, rfl, t0, t1', t2, t3, t4⟩ := HT3.out c t ht
        have hsh := hide' (shN_step ht)
        have hlen := shN_len hasN.out c hc
        have hwl := whole_len (asN_whole hasN.out c t hlt ht)
        have A4 : Hid (Below W3.heap.size W3 (W3.alloc (.cells #[.int .i64 t.kind, .string (bs t.text), .int .i64 t.num, .int .i64 t.line, .int .i64 t.col] 35))) := (Below.refl _ W3).alloc (Nat.le_refl _) _
        have hB4 : Hid (Below w1.heap.size w1 (W3.alloc (.cells #[.int .i64 t.kind, .string (bs t.text), .int .i64 t.num, .int .i64 t.line, .int .i64 t.col] 35))) := hB.out.trans (A4.out.mono hB.out.size)
        have D4 : Hid (Bd w1.heap.size w1.heap.size (shN L c) (W3.alloc (.cells #[.int .i64 t.kind, .string (bs t.text), .int .i64 t.num, .int .i64 t.line, .int .i64 t.col] 35))) := hD.out.below A4.out
        have TB4 : Hid (tbox (W3.alloc (.cells #[.int .i64 t.kind, .string (bs t.text), .int .i64 t.num, .int .i64 t.line, .int .i64 t.col] 35)) W3.heap.size (.int .i64 t.kind) (.string (bs t.text)) (.int .i64 t.num) (.int .i64 t.line) (.int .i64 t.col)) := heap_alloc_new W3 _
        have hs4 : Hid (w1.heap.size ≤ (W3.alloc (.cells #[.int .i64 t.kind, .string (bs t.text), .int .i64 t.num, .int .i64 t.line, .int .i64 t.col] 35)).heap.size) := hB4.out.size
        have hbd : w1.heap.size < W3.heap.size := by
          obtain ⟨_, p, v, _, hk, _⟩ := hD.out
          exact (Array.getElem?_eq_some_iff.1 hk).1
        have htb : Hid (W3.heap.size ≠ w1.heap.size) := Nat.ne_of_gt hbd
        have hln : Hid ((shN L c).length ≤ 1000000000) := by show _ ≤ _; omega
        have K10 : Hid (∀ W l, Bd w1.heap.size w1.heap.size l W → l.length ≤ 1000000000 → w1.heap.size ≤ W.heap.size → Calls Try.prog 29 #[.pointer (some ⟨w1.heap.size, 0, none⟩), .int .u8 10] W fun e w' => e = .returned .nilIface ∧ Bd w1.heap.size w1.heap.size (l ++ [10]) w' ∧ Below w1.heap.size W w' ∧ Fb w1.heap.size W w') := fun W l h1 h2 h3 => writeByteF _ _ l 10 W h1 h2 h3
        have K32 : Hid (∀ W l, Bd w1.heap.size w1.heap.size l W → l.length ≤ 1000000000 → w1.heap.size ≤ W.heap.size → Calls Try.prog 29 #[.pointer (some ⟨w1.heap.size, 0, none⟩), .int .u8 32] W fun e w' => e = .returned .nilIface ∧ Bd w1.heap.size w1.heap.size (l ++ [32]) w' ∧ Below w1.heap.size W w' ∧ Fb w1.heap.size W w') := fun W l h1 h2 h3 => writeByteF _ _ l 32 W h1 h2 h3
        have KS : Hid (∀ W l, Bd w1.heap.size w1.heap.size l W → l.length ≤ 1000000000 → w1.heap.size ≤ W.heap.size → Calls Try.prog 31 #[.pointer (some ⟨w1.heap.size, 0, none⟩), .string (bs t.text)] W fun e w' => (∃ n, e = .returned (.tuple #[.int .i64 n, .nilIface])) ∧ Bd w1.heap.size w1.heap.size (l ++ t.text) w' ∧ Below w1.heap.size W w' ∧ Fb w1.heap.size W w') := fun W l h1 h2 h3 => writeStringF _ _ l t.text W h1 h2 (by omega) h3
        have KE : Hid (Calls Try.prog 30 #[.slice (some ⟨g, 0, none⟩) c cap] (W3.alloc (.cells #[.int .i64 t.kind, .string (bs t.text), .int .i64 t.num, .int .i64 t.line, .int .i64 t.col] 35)) fun e w' => e = .returned (.bool (endd (L.take c))) ∧ w' = (W3.alloc (.cells #[.int .i64 t.kind, .string (bs t.text), .int .i64 t.num, .int .i64 t.line, .int .i64 t.col] 35))) := by
          have := endedF (some ⟨g, 0, none⟩) cap (L.take c) (W3.alloc (.cells #[.int .i64 t.kind, .string (bs t.text), .int .i64 t.num, .int .i64 t.line, .int .i64 t.col] 35)) ((HT3.out.keep A4.out).take c) (by rw [List.length_take]; omega)
          rwa [List.length_take, Nat.min_eq_left hc] at this
        have m44 : ((bs t.text).toList == [44]) = decide (t.text = [44]) := by have := bs_beq t.text [44]; rwa [show (bs [44]).toList = [44] by rw [ByteArray.toList_eq, bs_list]] at this
        have m58 : ((bs t.text).toList == [58]) = decide (t.text = [58]) := by have := bs_beq t.text [58]; rwa [show (bs [58]).toList = [58] by rw [ByteArray.toList_eq, bs_list]] at this
        unfold shOne at hsh
        clear ht HT3 A4 hwl hz hD hB
        generalize endd (L.take c) = ee at *
        by_cases h4 : t.kind = 4
        · have q4 : (t.kind == 4) = true := by simpa using h4
          rw [if_pos h4] at hsh
          clear h4 KE m44 m58
          generalize bs t.text = sx at *
          generalize t.kind = kd at *
          generalize t.num = x2 at *
          generalize t.line = x3 at *
          generalize t.col = x4 at *
          go_wp2_with fail
          refine (K10.out _ _ D4.out hln.out hs4.out).mono ?_
          rintro e w5 ⟨rfl, d5, b5, f5⟩
          have D5 := hide' d5
          have B5 := hide' (hB4.out.trans b5)
          have hs5 := hide' (Nat.le_trans hs4.out b5.size)
          have TB5 : tbox w5 W3.heap.size (.int .i64 kd) (.string sx) (.int .i64 x2) (.int .i64 x3) (.int .i64 x4) := (f5 _ _ _ _ htb.out (by decide) TB4.out).trans TB4.out
          obtain ⟨-, t1, -⟩ := tbox_cells TB5
          clear d5 b5 f5 TB5
          go_wp2_with fail
          refine (KS.out _ _ D5.out (by rw [List.length_append]; simp; omega) hs5.out).mono ?_
          rintro e w6 ⟨⟨n6, rfl⟩, d6, b6, -⟩
          have D6 := hide' d6
          have B6 := hide' (B5.out.trans b6)
          clear d6 b6
          go_wp2_with fail
          exact ⟨⟨c + 1, by go_num, by omega, by rw [hsh.out]; exact (by have := D6.out; rwa [List.append_assoc] at this : Bd _ _ _ _), B6.out, fun h => by omega⟩, by simp [intOf]; omega⟩
        · have q4 : (t.kind == 4) = false := by simpa using h4
          rw [if_neg h4] at hsh
          clear h4
          cases ee
          · by_cases h44 : t.text = [44]
            · rw [show decide (t.text = [44]) = true from decide_eq_true h44] at m44
              have n44 : ((bs t.text).toList != [44]) = false := by rw [bne, m44]; rfl
              rw [if_neg (by simp [h44])] at hsh
              clear m58 h44
              generalize bs t.text = sx at *
              generalize t.kind = kd at *
              generalize t.num = x2 at *
              generalize t.line = x3 at *
              generalize t.col = x4 at *
              go_wp2_with fail
              refine KE.out.mono ?_
              rintro e w5 ⟨rfl, hw⟩
              obtain rfl := hw
              go_wp2_with fail
              refine (KS.out _ _ D4.out hln.out hs4.out).mono ?_
              rintro e w6 ⟨⟨n6, rfl⟩, d6, b6, -⟩
              have D6 := hide' d6
              have B6 := hide' (hB4.out.trans b6)
              clear d6 b6
              go_wp2_with fail
              exact ⟨⟨c + 1, by go_num, by omega, by rw [hsh.out]; exact (by have := D6.out; simpa using this : Bd _ _ _ _), B6.out, fun h => by omega⟩, by simp [intOf]; omega⟩
            · rw [show decide (t.text = [44]) = false from decide_eq_false h44] at m44
              have n44 : ((bs t.text).toList != [44]) = true := by rw [bne, m44]; rfl
              by_cases h58 : t.text = [58]
              · rw [show decide (t.text = [58]) = true from decide_eq_true h58] at m58
                have n58 : ((bs t.text).toList != [58]) = false := by rw [bne, m58]; rfl
                rw [if_neg (by simp [h58])] at hsh
                clear h44 h58
                generalize bs t.text = sx at *
                generalize t.kind = kd at *
                generalize t.num = x2 at *
                generalize t.line = x3 at *
                generalize t.col = x4 at *
                go_wp2_with fail
                refine KE.out.mono ?_
                rintro e w5 ⟨rfl, hw⟩
                obtain rfl := hw
                go_wp2_with fail
                refine (KS.out _ _ D4.out hln.out hs4.out).mono ?_
                rintro e w6 ⟨⟨n6, rfl⟩, d6, b6, -⟩
                have D6 := hide' d6
                have B6 := hide' (hB4.out.trans b6)
                clear d6 b6
                go_wp2_with fail
                exact ⟨⟨c + 1, by go_num, by omega, by rw [hsh.out]; exact (by have := D6.out; simpa using this : Bd _ _ _ _), B6.out, fun h => by omega⟩, by simp [intOf]; omega⟩
              · rw [show decide (t.text = [58]) = false from decide_eq_false h58] at m58
                have n58 : ((bs t.text).toList != [58]) = true := by rw [bne, m58]; rfl
                rw [if_pos (by simp [h44, h58])] at hsh
                clear h44 h58
                generalize bs t.text = sx at *
                generalize t.kind = kd at *
                generalize t.num = x2 at *
                generalize t.line = x3 at *
                generalize t.col = x4 at *
                go_wp2_with fail
                refine KE.out.mono ?_
                rintro e w5 ⟨rfl, hw⟩
                obtain rfl := hw
                go_wp2_with fail
                refine (K32.out _ _ D4.out hln.out hs4.out).mono ?_
                rintro e w7 ⟨rfl, d5, b5, f5⟩
                have D5 := hide' d5
                have B5 := hide' (hB4.out.trans b5)
                have hs5 := hide' (Nat.le_trans hs4.out b5.size)
                have TB5 : tbox w7 W3.heap.size (.int .i64 kd) (.string sx) (.int .i64 x2) (.int .i64 x3) (.int .i64 x4) := (f5 _ _ _ _ htb.out (by decide) TB4.out).trans TB4.out
                obtain ⟨-, t1, -⟩ := tbox_cells TB5
                clear d5 b5 f5 TB5
                go_wp2_with fail
                refine (KS.out _ _ D5.out (by rw [List.length_append]; simp; omega) hs5.out).mono ?_
                rintro e w6 ⟨⟨n6, rfl⟩, d6, b6, -⟩
                have D6 := hide' d6
                have B6 := hide' (B5.out.trans b6)
                clear d6 b6
                go_wp2_with fail
                exact ⟨⟨c + 1, by go_num, by omega, by rw [hsh.out]; exact (by have := D6.out; rwa [List.append_assoc] at this : Bd _ _ _ _), B6.out, fun h => by omega⟩, by simp [intOf]; omega⟩
          · rw [if_neg (by simp)] at hsh
            clear m44 m58
            generalize bs t.text = sx at *
            generalize t.kind = kd at *
            generalize t.num = x2 at *
            generalize t.line = x3 at *
            generalize t.col = x4 at *
            go_wp2_with fail
            refine KE.out.mono ?_
            rintro e w5 ⟨rfl, hw⟩
            obtain rfl := hw
            go_wp2_with fail
            refine (KS.out _ _ D4.out hln.out hs4.out).mono ?_
            rintro e w6 ⟨⟨n6, rfl⟩, d6, b6, -⟩
            have D6 := hide' d6
            have B6 := hide' (hB4.out.trans b6)
            clear d6 b6
            go_wp2_with fail
            exact ⟨⟨c + 1, by go_num, by omega, by rw [hsh.out]; exact (by have := D6.out; simpa using this : Bd _ _ _ _), B6.out, fun h => by omega⟩, by simp [intOf]; omega⟩
      · obtain rfl : c = L.length := by omega
        have B5 := hide' (B1.out.trans (hB.out.mono B1.out.size))
        by_cases hL : L.length = 0
        · have KS := hide' (string0 w1.heap.size (.pointer none) W3 (hz.out hL))
          have hsh : Hid (bs (shT L) = ⟨#[]⟩) := by show _ = _; unfold shT; rw [hL]; rfl
          clear hD hz HT1 hasN
          go_wp2_with fail
          refine KS.out.mono ?_
          rintro e w5 ⟨rfl, b5⟩
          have B6 := hide' (B5.out.trans (b5.mono B5.out.size))
          clear b5
          go_wp2_with fail
          go_ret2
          exact ⟨by rw [hsh.out]; rfl, B6.out⟩
        · have hlen := shN_len hasN.out L.length (Nat.le_refl _)
          have KS := hide' (stringF w1.heap.size w1.heap.size (shT L) W3 hD.out (shT_ne hasN.out hL) (by unfold shT; omega))
          clear hD hz HT1 hasN
          go_wp2_with fail
          refine KS.out.mono ?_
          rintro e w5 ⟨rfl, b5⟩
          have B6 : Hid (Below w.heap.size w w5) := B1.out.trans ((hB.out.trans b5).mono B1.out.size)
          clear b5
          go_wp2_with fail
          go_ret2
          exact ⟨rfl, B6.out⟩
end Go.Proofs.Ytghodeggobgclaa

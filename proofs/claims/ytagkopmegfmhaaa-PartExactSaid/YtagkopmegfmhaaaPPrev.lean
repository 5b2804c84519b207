/- spread and lower: the pattern ahead. -/
import Derived.Test.YtagkopmegfmhaaaPSet
namespace Go.Proofs.Ytagkopmegfmhaaa
open Go.RowKit
theorem ups_snoc (b n : Nat) : ups b (n + 1) = ups b n ++ [b + n] := by simp [ups, List.range_succ]
theorem ups_len (b n : Nat) : (ups b n).length = n := by simp [ups]
set_option maxRecDepth 100000 in
set_option maxHeartbeats 1000000 in
theorem spreadP (base g o cap b m n cap0 : Nat) (p t : List Nat) (w : World) (hrow : w.ownsRow base 3 1 (.slice (some ⟨g, 0, none⟩) n cap0) n (cellsI (ints (p ++ t)))) (hp : p.length = o) (ht : t.length = m) (hnl : n ≤ 25) (hb : b ≤ 25) (hm : 0 < m) :
    Calls Try.prog 41 #[.slice (some ⟨g, o, none⟩) m cap, .int .i64 b] w fun e w' => e = .returned (.tuple #[]) ∧ w'.ownsRow base 3 1 (.slice (some ⟨g, 0, none⟩) n cap0) n (cellsI (ints (p ++ ups b m))) ∧ Below g w w' := by
  have hn : n = o + m := by have := hrow.1; simp [cellsI, ints] at this; omega
  go_enter Try.func41, Try.ntmps41
  go_wp2
  go_loopw [7] (fun k wr => ∃ c : Nat, c ≤ m ∧ k = .int .i64 c ∧ wr.ownsRow base 3 1 (.slice (some ⟨g, 0, none⟩) n cap0) n (cellsI (ints ((p ++ ups b c) ++ t.drop c))) ∧ Below g w wr) (fun k _ => ((m : Int) - intOf k).toNat)
  case atStart => exact ⟨0, Nat.zero_le _, rfl, by simpa [ups] using hrow, Below.refl _ _⟩
  case round =>
    clear hrow
    obtain ⟨c, hc, rfl, hrow, hB⟩ := hrel
    by_cases hlt : c < m
    · obtain ⟨x, hx⟩ : ∃ x, t[c]? = some x := ⟨_, List.getElem?_eq_getElem (by omega)⟩
      have hD := drop_at hx
      have hpl : (p ++ ups b c).length = o + c := by rw [List.length_append, ups_len]; omega
      have hx2 : ((p ++ ups b c) ++ t.drop c)[o + c]? = some x := by
        rw [List.getElem?_append_right (by omega), hpl, Nat.sub_self, hD]; rfl
      have hs := (hrow.stored (o + c) (.int .i64 ((b + c : Nat) : Int))).1
      rw [set_at (b + c) hx2] at hs
      have e1 : ((p ++ ups b c) ++ t.drop c).take (o + c) = p ++ ups b c := by rw [← hpl, List.take_left']; rfl
      have e2 : ((p ++ ups b c) ++ t.drop c).drop (o + c + 1) = t.drop (c + 1) := by
        rw [List.drop_append, List.drop_of_length_le (by omega), List.nil_append, List.drop_drop, hpl]
        congr 1; omega
      rw [e1, e2, show (p ++ ups b c) ++ (b + c) :: t.drop (c + 1) = (p ++ ups b (c + 1)) ++ t.drop (c + 1) by rw [ups_snoc]; simp] at hs
      have cx : wr.cell? ⟨g, o + c, none⟩ = some (.int .i64 (x : Int)) := by
        rw [hrow.cellAt (o + c) (by omega)]
        simp only [cellsI, ints, List.map_map, List.getElem?_map, hx2]; rfl
      have fx := hrow.frozenAt (o + c)
      have hs' := hide' hs
      have hcast : ((b + c : Nat) : Int) = (b : Int) + (c : Int) := by omega
      rw [hcast] at hs'
      clear hs hcast hx hx2 e1 e2 hD hpl
      go_wp2
      exact ⟨⟨c + 1, by omega, by go_num, hs'.out, hB.setCell (Nat.le_refl _) _⟩, by simp [intOf]; omega⟩
    · obtain rfl : c = m := by omega
      rw [← ht, List.drop_length, List.append_nil] at hrow
      go_wp2
      exact bodyPost_end (v := .tuple #[]) (by simp [results, Try.results41, go_sem]) rfl ⟨rfl, by rw [← ht]; exact hrow, hB⟩
set_option maxRecDepth 100000 in
set_option maxHeartbeats 1000000 in
theorem spread0 (a : Option Addr) (cap b : Nat) (w : World) :
    Calls Try.prog 41 #[.slice a 0 cap, .int .i64 b] w fun e w' => e = .returned (.tuple #[]) ∧ w' = w := by
  go_enter Try.func41, Try.ntmps41
  go_wp2
  refine wp_loop_rounds 1 ?_
  rw [rounds_succ]
  go_wp2
  exact bodyPost_end (v := .tuple #[]) (by simp [results, Try.results41, go_sem]) rfl ⟨rfl, rfl⟩
set_option maxRecDepth 100000 in
set_option maxHeartbeats 4000000 in
theorem lowerP (base g cap : Nat) (l : List Nat) (w : World) (hrow : w.ownsRow base 3 1 (.slice (some ⟨g, 0, none⟩) l.length cap) l.length (cellsI (ints l))) (hn : l.length ≤ 25) (hl : Leg 0 l) :
    Calls Try.prog 45 #[.slice (some ⟨g, 0, none⟩) l.length cap] w fun e w' =>
      (e = .returned (.bool true) ∧ (∃ p y m, l = p ++ (y + 1) :: List.replicate m 0 ∧ w'.ownsRow base 3 1 (.slice (some ⟨g, 0, none⟩) l.length cap) l.length (cellsI (ints (p ++ y :: ups (blks 0 (p ++ [y])) m)))) ∧ Below g w w') ∨
      (e = .returned (.bool false) ∧ l = List.replicate l.length 0 ∧ Below g w w') := by
  have hl' := hide' hl
  have hrow' := hide' hrow
  have hgl : g < w.heap.size := by
    rcases hrow.2 with ⟨h, _⟩ | ⟨g', cap', cur, e1, e2, e3, e4⟩
    · cases h
    · cases e1; exact (Array.getElem?_eq_some_iff.1 e3).1
  have hcapl : l.length ≤ cap := by
    rcases hrow.2 with ⟨h, _⟩ | ⟨g', cap', cur, e1, e2, e3, e4, _⟩
    · cases h
    · cases e1; exact e4
  clear hrow hl
  go_enter Try.func45, Try.ntmps45
  go_wp2
  go_loopw [3] (fun k wr => ∃ c : Nat, c ≤ l.length ∧ k = .int .i64 ((c : Int) - 1) ∧ Hid (l.drop c = List.replicate (l.length - c) 0) ∧ Below w.heap.size w wr) (fun k _ => (intOf k + 1).toNat)
  case atStart => exact ⟨l.length, Nat.le_refl _, rfl, by show _ = _; simp, Below.refl _ _⟩
  case round =>
    obtain ⟨c, hc, rfl, hF, hB⟩ := hrel
    by_cases h0 : c = 0
    · subst h0
      have hf0 : Hid (l = List.replicate l.length 0) := by have := hF.out; exact this
      clear hF
      go_wp2
      go_ret
      exact .inr ⟨rfl, hf0.out, hB.mono (Nat.le_of_lt hgl)⟩
    · obtain ⟨d, rfl⟩ : ∃ d, c = d + 1 := ⟨c - 1, by omega⟩
      obtain ⟨x, hx⟩ : ∃ x, l[d]? = some x := ⟨_, List.getElem?_eq_getElem (by omega)⟩
      have hrw := own_belowP hrow'.out hB (Nat.le_refl _)
      have cx : wr.cell? ⟨g, d, none⟩ = some (.int .i64 (x : Int)) := by
        rw [hrw.cellAt d (by omega)]
        simp [cellsI, ints, hx]
      have fx := hrw.frozenAt d
      have hi : ((d + 1 : Nat) : Int) - 1 = (d : Int) := by omega
      have hD := drop_at hx
      have hsp : l = l.take d ++ x :: l.drop (d + 1) := by rw [← hD, List.take_append_drop]
      rw [hi]
      by_cases hx0 : x = 0
      · subst hx0
        have hF2 : Hid (l.drop d = List.replicate (l.length - d) 0) := by
          show _ = _
          rw [hD, hF.out, show l.length - d = l.length - (d + 1) + 1 by omega, List.replicate_succ]
        clear hF hD hx hrw hsp
        generalize hn' : l.length = n at *
        go_wp2
        exact ⟨⟨d, by omega, rfl, hF2, hB⟩, by simp [intOf]⟩
      · obtain ⟨y, rfl⟩ : ∃ y, x = y + 1 := ⟨x - 1, by omega⟩
        have hrs : (wr.setCell ⟨g, d, none⟩ (.int .i64 (y : Int))).ownsRow base 3 1 (.slice (some ⟨g, 0, none⟩) l.length cap) l.length (cellsI (ints (l.take d ++ y :: l.drop (d + 1)))) := by
          have := (hrw.stored d (.int .i64 (y : Int))).1
          rwa [set_at y hx] at this
        have hd : (l.take d).length = d := by rw [List.length_take]; omega
        have hle := leg_at hl'.out hx
        have hbl := blks_leg ((Leg.app (p := l.take d) (t := l.drop d)).1 (by rw [List.take_append_drop]; exact hl'.out)).1
        have hbs : blks 0 (l.take d ++ [y]) = max (blks 0 (l.take d)) (y + 1) := by rw [blks_app]; rfl
        have hb25 : blks 0 (l.take d ++ [y]) ≤ 25 := by rw [hbs]; omega
        have hrd : ((wr.setCell ⟨g, d, none⟩ (.int .i64 (y : Int))).drew).ownsRow base 3 1 (.slice (some ⟨g, 0, none⟩) l.length cap) l.length (cellsI (ints (l.take d ++ y :: l.drop (d + 1)))) := hrs
        have hRI := RowI.take hrd (c := d + 1) (by omega)
        have htk : (ints (l.take d ++ y :: l.drop (d + 1))).take (d + 1) = ints (l.take d ++ [y]) := by
          unfold ints
          rw [← List.map_take, List.take_append, List.take_of_length_le (by omega), hd, show d + 1 - d = 1 by omega]; rfl
        rw [htk] at hRI
        have KB := hide' (blocksIn (l.take d ++ [y]) _ _ hRI (by simp; omega) (fun z hz => by have := lt_blks (b := 0) hz; omega))
        have hzs := hF.out
        have hsp' : Hid (l = l.take d ++ (y + 1) :: List.replicate (l.length - (d + 1)) 0) := by show _ = _; rw [← hzs]; exact hsp
        have hy25 : y ≤ 25 := by rw [hd] at hbl; omega
        have hyc : ((y + 1 : Nat) : Int) = (y : Int) + 1 := by omega
        have hB1 : Below g w ((wr.setCell ⟨g, d, none⟩ (.int .i64 (y : Int))).drew) := ((hB.mono (Nat.le_of_lt hgl)).setCell (p := ⟨g, d, none⟩) (Nat.le_refl _) _).drew
        rw [hyc] at cx
        by_cases hz : l.length - (d + 1) = 0
        · have KZ := hide' spread0
          have hfz : Hid (((wr.setCell ⟨g, d, none⟩ (.int .i64 (y : Int))).drew).ownsRow base 3 1 (.slice (some ⟨g, 0, none⟩) l.length cap) l.length (cellsI (ints (l.take d ++ y :: ups (blks 0 (l.take d ++ [y])) (l.length - (d + 1)))))) := by
            rw [hz]
            have hnil : l.drop (d + 1) = [] := List.drop_of_length_le (by omega)
            rw [hnil] at hrd
            exact hrd
          have hB1' := hide' hB1
          have hz' : Hid (l.length - (d + 1) = 0) := hz
          clear hF hD hx hrw hsp hrs hRI htk hzs hbs hbl hle hd hB1 hrd
          generalize hbb : blks 0 (l.take d ++ [y]) = b at *
          have hbb' := hide' hbb
          clear hbb
          generalize hn' : l.length = n at *
          by_cases hcp : cap = d + 1
          · subst hcp
            have hI0 : (0 : Int) ≤ (d : Int) + 1 := by omega
            have hI1 : (d : Int) + 1 ≤ (n : Int) := by omega
            have hI2 : (d : Int) + 1 ≤ ((d + 1 : Nat) : Int) := by omega
            have hI3 : IntKind.i64.wrap ((d : Int) + 1) = (d : Int) + 1 := by
              simp only [IntKind.wrap, IntKind.bits, IntKind.signed]; simp; omega
            have hI4 : ((d : Int) + 1).toNat = d + 1 := by omega
            go_wp2
            go_region_with (first | (go_at_call 46; refine KB.out.mono ?_; rintro e w1 ⟨rfl, rfl⟩) | (go_at_call 41; refine (KZ.out _ _ _ _).mono ?_; rintro e w2 ⟨rfl, rfl⟩))
            all_goals go_wp2
            all_goals go_ret
            all_goals exact .inl ⟨rfl, ⟨_, y, _, hsp'.out, by rw [hbb'.out, hn']; exact hfz.out⟩, hB1'.out⟩
          · have hcp' := eq_false hcp
            have hI0 : (0 : Int) ≤ (d : Int) + 1 := by omega
            have hI1 : (d : Int) + 1 ≤ (n : Int) := by omega
            have hI2 : (d : Int) + 1 ≤ (cap : Int) := by omega
            have hI3 : IntKind.i64.wrap ((d : Int) + 1) = (d : Int) + 1 := by
              simp only [IntKind.wrap, IntKind.bits, IntKind.signed]; simp; omega
            have hI4 : ((d : Int) + 1).toNat = d + 1 := by omega
            go_wp2
            go_region_with (first | (go_at_call 46; refine KB.out.mono ?_; rintro e w1 ⟨rfl, rfl⟩) | (go_at_call 41; refine (KZ.out _ _ _ _).mono ?_; rintro e w2 ⟨rfl, rfl⟩))
            all_goals go_wp2
            all_goals go_ret
            all_goals exact .inl ⟨rfl, ⟨_, y, _, hsp'.out, by rw [hbb'.out, hn']; exact hfz.out⟩, hB1'.out⟩
        · have KS := hide' (spreadP base g (d + 1) (cap - (d + 1)) (blks 0 (l.take d ++ [y])) (l.length - (d + 1)) l.length cap (l.take d ++ [y]) (l.drop (d + 1)) ((wr.setCell ⟨g, d, none⟩ (.int .i64 (y : Int))).drew) (by rw [List.append_assoc]; exact hrd) (by simp; omega) List.length_drop hn hb25 (by omega))
          have hB1' := hide' hB1
          clear hF hD hx hrw hsp hrs hRI htk hzs hbs hbl hle hd hB1 hrd
          generalize hbb : blks 0 (l.take d ++ [y]) = b at *
          have hbb' := hide' hbb
          clear hbb
          generalize hn' : l.length = n at *
          have hcp' := eq_false (show ¬ cap = d + 1 by omega)
          have hI0 : (0 : Int) ≤ (d : Int) + 1 := by omega
          have hI1 : (d : Int) + 1 ≤ (n : Int) := by omega
          have hI2 : (d : Int) + 1 ≤ (cap : Int) := by omega
          have hI3 : IntKind.i64.wrap ((d : Int) + 1) = (d : Int) + 1 := by
            simp only [IntKind.wrap, IntKind.bits, IntKind.signed]; simp; omega
          have hI4 : ((d : Int) + 1).toNat = d + 1 := by omega
          go_wp2
          go_region_with (first | (go_at_call 46; refine KB.out.mono ?_; rintro e w1 ⟨rfl, rfl⟩) | (go_at_call 41; refine KS.out.mono ?_; rintro e w2 ⟨rfl, hro, hbo⟩))
          all_goals go_wp2
          all_goals go_ret
          all_goals exact .inl ⟨rfl, ⟨_, y, _, hsp'.out, by rw [hbb'.out, hn']; rw [List.append_assoc] at hro; exact hro⟩, hB1'.out.trans hbo⟩
end Go.Proofs.Ytagkopmegfmhaaa

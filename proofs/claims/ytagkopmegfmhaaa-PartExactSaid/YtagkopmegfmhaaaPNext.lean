/- Next: the pattern behind. -/
import Derived.Test.YtagkopmegfmhaaaPSet
import Derived.Maps.AppendAt
namespace Go.Proofs.Ytagkopmegfmhaaa
open Go.RowKit
theorem grown_any {w w' : World} (h : Below w.heap.size w w') (row : Option Nat) : w.grownBy w' row := ⟨h.os, h.tape, h.output, h.size, fun k hk _ => h.block k hk⟩
theorem grown_drew (w : World) (row : Option Nat) : w.grownBy w.drew row := ⟨rfl, rfl, rfl, Nat.le_refl _, fun _ _ _ => rfl⟩
theorem grown_cell (w : World) (b i : Nat) (v : Value) : w.grownBy (w.setCell ⟨b, i, none⟩ v) (some b) :=
  ⟨((Below.refl 0 w).setCell (p := ⟨b, i, none⟩) (Nat.zero_le _) v).os, ((Below.refl 0 w).setCell (p := ⟨b, i, none⟩) (Nat.zero_le _) v).tape, ((Below.refl 0 w).setCell (p := ⟨b, i, none⟩) (Nat.zero_le _) v).output, ((Below.refl 0 w).setCell (p := ⟨b, i, none⟩) (Nat.zero_le _) v).size, fun k _ hne => Below.heap_setCell _ _ _ _ (fun e => hne (by rw [e]))⟩
theorem setCells_grown (g : Nat) : ∀ (vs : List Value) (o : Nat) (w : World), w.grownBy (w.setCells g o vs) (some g)
  | [], _, w => World.grownBy.refl w _
  | v :: r, o, w => (grown_cell w g o v).trans (setCells_grown g r (o + 1) _)
set_option maxRecDepth 100000 in
set_option maxHeartbeats 4000000 in
theorem raiseG (base g cap : Nat) (l : List Nat) (w : World) (hrow : w.ownsRow base 3 1 (.slice (some ⟨g, 0, none⟩) l.length cap) l.length (cellsI (ints l))) (hn : l.length ≤ 25) (hl : Leg 0 l) :
    Calls Try.prog 44 #[.slice (some ⟨g, 0, none⟩) l.length cap] w fun e w' =>
      (e = .returned (.bool true) ∧ (∃ p x t, l = p ++ x :: t ∧ x < blks 0 p ∧ Full (blks 0 p) t ∧ w'.ownsRow base 3 1 (.slice (some ⟨g, 0, none⟩) l.length cap) l.length (cellsI (ints (p ++ (x + 1) :: List.replicate t.length 0)))) ∧ Below g w w' ∧ w.grownBy w' (some g)) ∨
      (e = .returned (.bool false) ∧ Full 0 l ∧ Below g w w' ∧ w.grownBy w' (some g)) := by
  have hl' := hide' hl
  have hrow' := hide' hrow
  have hgl : g < w.heap.size := by
    rcases hrow.2 with ⟨h, _⟩ | ⟨g', cap', cur, e1, e2, e3, e4⟩
    · cases h
    · cases e1; exact (Array.getElem?_eq_some_iff.1 e3).1
  have hcapl : l.length ≤ cap := by
    rcases hrow.2 with ⟨h, _⟩ | ⟨g', cap', cur, e1, e2, e3, e4, _⟩
    · cases h
    · cases e1; exact e4
  clear hrow hl
  go_enter Try.func44, Try.ntmps44
  go_wp2
  go_loopw [3] (fun k wr => ∃ c : Nat, c ≤ l.length ∧ k = .int .i64 ((c : Int) - 1) ∧ Hid (Full (blks 0 (l.take c)) (l.drop c)) ∧ Below w.heap.size w wr) (fun k _ => (intOf k + 1).toNat)
  case atStart => exact ⟨l.length, Nat.le_refl _, rfl, by rw [List.drop_length]; trivial, Below.refl _ _⟩
  case round =>
    obtain ⟨c, hc, rfl, hF, hB⟩ := hrel
    by_cases h0 : c = 0
    · subst h0
      have hf0 : Hid (Full 0 l) := by
        show Full 0 l
        have := hF.out
        simpa [blks] using this
      clear hF
      go_wp2
      go_ret
      exact .inr ⟨rfl, hf0.out, hB.mono (Nat.le_of_lt hgl), grown_any hB _⟩
    · obtain ⟨d, rfl⟩ : ∃ d, c = d + 1 := ⟨c - 1, by omega⟩
      obtain ⟨x, hx⟩ : ∃ x, l[d]? = some x := ⟨_, List.getElem?_eq_getElem (by omega)⟩
      have hrw := own_belowP hrow'.out hB (Nat.le_refl _)
      have hrd : wr.drew.ownsRow base 3 1 (.slice (some ⟨g, 0, none⟩) l.length cap) l.length (cellsI (ints l)) := hrw
      have hRI := RowI.take hrd (c := d) (by omega)
      rw [show (ints l).take d = ints (l.take d) by simp [ints]] at hRI
      have hbl := blks_leg ((Leg.app (p := l.take d) (t := l.drop d)).1 (by rw [List.take_append_drop]; exact hl'.out)).1
      rw [List.length_take] at hbl
      have KB := hide' (blocksIn (l.take d) _ _ hRI (by rw [List.length_take]; omega) (fun y hy => by have := lt_blks (b := 0) hy; omega))
      have hxl := leg_at hl'.out hx
      have cx : wr.cell? ⟨g, d, none⟩ = some (.int .i64 (x : Int)) := by
        rw [hrw.cellAt d (by omega)]
        simp [cellsI, ints, hx]
      have fx := hrw.frozenAt d
      have hi : ((d + 1 : Nat) : Int) - 1 = (d : Int) := by omega
      have hI2 : (d : Int) ≤ (cap : Int) := by omega
      have hI1 : (d : Int) < (l.length : Int) := by omega
      have hbt := blks_take hx
      have hD := drop_at hx
      rw [hi]
      clear hRI
      generalize hb : blks 0 (l.take d) = b at *
      by_cases hlt : x < b
      · have hrs : ((wr.setCell ⟨g, d, none⟩ (.int .i64 ((x : Int) + 1))).drew).ownsRow base 3 1 (.slice (some ⟨g, 0, none⟩) l.length cap) l.length ((cellsI (ints l)).set d (.int .i64 ((x : Int) + 1))) := (hrw.stored d (.int .i64 ((x : Int) + 1))).1
        have hsp : l = l.take d ++ x :: l.drop (d + 1) := by rw [← hD, List.take_append_drop]
        have htl : (l.drop (d + 1)).length = l.length - (d + 1) := List.length_drop
        have hfu : Hid (Full b (l.drop (d + 1))) := by
          have := hF.out
          rwa [hbt, Nat.max_eq_left (by omega)] at this
        have hset : (cellsI (ints l)).set d (.int .i64 ((x : Int) + 1)) = cellsI (ints (l.take d ++ (x + 1) :: l.drop (d + 1))) := set_at (x + 1) hx
        rw [hset] at hrs
        obtain ⟨hfin, hbel⟩ := owns_setCells (List.replicate (l.length - (d + 1)) (.int .i64 0)) (d + 1) _ _ hrs (by simp [cellsI, ints]; omega)
        have hcl : ∀ ty, (Builtin.clear_ #[22] ty #[.slice (some ⟨g, d + 1, none⟩) (l.length - (d + 1)) (cap - (d + 1))]).run Try.prog ((wr.setCell ⟨g, d, none⟩ (.int .i64 ((x : Int) + 1))).drew) = .ok (.tuple #[]) (((wr.setCell ⟨g, d, none⟩ (.int .i64 ((x : Int) + 1))).drew).setCells g (d + 1) (List.replicate (l.length - (d + 1)) (.int .i64 0))) := fun ty => by
          by_cases he : l.length - (d + 1) = 0
          · rw [he]; exact clear0 _ _ _ _
          · exact Lib.run_clear_slice _ _ _ ty (.int .i64 0) Try.underlying22 (fun w => by kernel_rfl) rfl rfl g (d + 1) _ _ (by omega) (fun j hj => by rw [hrs.cellAt _ (by omega)]; simp [cellsI, ints]; omega) (fun j hj => hrs.frozenAt _)
        have hfin' : Hid ((((wr.setCell ⟨g, d, none⟩ (.int .i64 ((x : Int) + 1))).drew).setCells g (d + 1) (List.replicate (l.length - (d + 1)) (.int .i64 0))).ownsRow base 3 1 (.slice (some ⟨g, 0, none⟩) l.length cap) l.length (cellsI (ints (l.take d ++ (x + 1) :: List.replicate (l.drop (d + 1)).length 0)))) := by
          have e : (cellsI (ints (l.take d ++ (x + 1) :: l.drop (d + 1)))).take (d + 1) ++ List.replicate (l.length - (d + 1)) (Value.int .i64 0) ++ (cellsI (ints (l.take d ++ (x + 1) :: l.drop (d + 1)))).drop (d + 1 + (List.replicate (l.length - (d + 1)) (Value.int .i64 0)).length) = cellsI (ints (l.take d ++ (x + 1) :: List.replicate (l.drop (d + 1)).length 0)) := by
            have hz : (cellsI (ints (l.take d ++ (x + 1) :: l.drop (d + 1)))).drop (d + 1 + (List.replicate (l.length - (d + 1)) (Value.int .i64 0)).length) = [] := List.drop_of_length_le (by simp [cellsI, ints]; omega)
            rw [hz, htl, List.append_nil]
            have hd : (l.take d).length = d := by rw [List.length_take]; omega
            unfold cellsI ints
            rw [List.map_map, List.map_map, ← List.map_take, List.take_append, List.take_of_length_le (by omega), hd, show d + 1 - d = 1 by omega]
            simp
          rw [e] at hfin; exact hfin
        have hbel' : Hid (Below g w (((wr.setCell ⟨g, d, none⟩ (.int .i64 ((x : Int) + 1))).drew).setCells g (d + 1) (List.replicate (l.length - (d + 1)) (.int .i64 0)))) := ((hB.mono (Nat.le_of_lt hgl)).setCell (p := ⟨g, d, none⟩) (Nat.le_refl _) _).drew.trans (hbel g (Nat.le_refl _))
        have hgr' : Hid (w.grownBy (((wr.setCell ⟨g, d, none⟩ (.int .i64 ((x : Int) + 1))).drew).setCells g (d + 1) (List.replicate (l.length - (d + 1)) (.int .i64 0))) (some g)) := ((((grown_any hB _).trans (grown_cell wr g d _)).trans (grown_drew _ _)).trans (setCells_grown _ _ _ _))
        have hsp' := hide' hsp
        have hb' := hide' hb
        have hdn : d + 1 ≤ l.length := hc
        clear hF hD hx hbt hb hrw hrd hrs hset hfin hbel htl hsp
        by_cases hcp : cap = d + 1
        · have hz : l.length - (d + 1) = 0 := by omega
          have hf0 := hfin'.out
          have hb0 := hbel'.out
          have hg0 := hgr'.out
          rw [hz, List.replicate_zero] at hf0 hb0 hg0
          have hf1 := hide' hf0
          have hb1 := hide' hb0
          have hg1 := hide' hg0
          have hcl0 := fun (a : Option Addr) (c ty : Nat) (W : World) => clear0 a c ty W
          clear hcl hfin' hbel' hf0 hb0 hgr' hg0
          generalize hn' : l.length = n at *
          have hI3 : (0 : Int) ≤ (d : Int) + 1 := by omega
          have hI4 : (d : Int) + 1 ≤ (n : Int) := by omega
          have hI5 : ((d : Int) + 1).toNat = d + 1 := by omega
          have hI6 : (0 : Int) ≤ (d : Int) := by omega
          subst hcp
          go_wp2
          go_region_with (go_at_call 46; refine KB.out.mono ?_; rintro e w1 ⟨rfl, rfl⟩)
          all_goals go_wp2
          all_goals go_ret
          all_goals exact .inl ⟨rfl, ⟨_, _, _, hsp'.out, by rw [hb'.out]; exact hlt, by rw [hb'.out]; exact hfu.out, by rw [hn']; exact hf1.out⟩, hb1.out, hg1.out⟩
        · have hcp' := eq_false hcp
          generalize hn' : l.length = n at *
          have hI3 : (0 : Int) ≤ (d : Int) + 1 := by omega
          have hI4 : (d : Int) + 1 ≤ (n : Int) := by omega
          have hI5 : ((d : Int) + 1).toNat = d + 1 := by omega
          have hI6 : (0 : Int) ≤ (d : Int) := by omega
          go_wp2
          go_region_with (go_at_call 46; refine KB.out.mono ?_; rintro e w1 ⟨rfl, rfl⟩)
          all_goals go_wp2
          all_goals go_ret
          all_goals exact .inl ⟨rfl, ⟨_, _, _, hsp'.out, by rw [hb'.out]; exact hlt, by rw [hb'.out]; exact hfu.out, by rw [hn']; exact hfin'.out⟩, hbel'.out, hgr'.out⟩
      · have hxb : x = b := by omega
        have hF2 : Hid (Full b (l.drop d)) := by
          show Full _ _
          rw [hD]
          refine ⟨hxb, ?_⟩
          have := hF.out
          rw [hbt, Nat.max_eq_right (by omega), hxb] at this
          exact this
        subst hxb
        generalize hn' : l.length = n at *
        have hb' := hide' hb
        clear hF hD hx hbt hb hrw hrd
        have hI6 : (0 : Int) ≤ (d : Int) := by omega
        go_wp2
        go_region_with (go_at_call 46; refine KB.out.mono ?_; rintro e w1 ⟨rfl, rfl⟩)
        all_goals go_wp2
        all_goals exact ⟨⟨d, by omega, rfl, by rw [hb'.out]; exact hF2, hB.drew⟩, by simp [intOf]⟩
theorem raiseP (base g cap : Nat) (l : List Nat) (w : World) (hrow : w.ownsRow base 3 1 (.slice (some ⟨g, 0, none⟩) l.length cap) l.length (cellsI (ints l))) (hn : l.length ≤ 25) (hl : Leg 0 l) :
    Calls Try.prog 44 #[.slice (some ⟨g, 0, none⟩) l.length cap] w fun e w' =>
      (e = .returned (.bool true) ∧ (∃ p x t, l = p ++ x :: t ∧ x < blks 0 p ∧ Full (blks 0 p) t ∧ w'.ownsRow base 3 1 (.slice (some ⟨g, 0, none⟩) l.length cap) l.length (cellsI (ints (p ++ (x + 1) :: List.replicate t.length 0)))) ∧ Below g w w') ∨
      (e = .returned (.bool false) ∧ Full 0 l ∧ Below g w w') :=
  (raiseG base g cap l w hrow hn hl).mono fun _ _ h => h.imp (fun h => ⟨h.1, h.2.1, h.2.2.1⟩) (fun h => ⟨h.1, h.2.1, h.2.2.1⟩)
end Go.Proofs.Ytagkopmegfmhaaa

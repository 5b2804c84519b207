/- What changes the document's hierarchy, and its links. -/
import Derived.Test.YtegpgjiccpglbaaDoorYRef1
import Derived.Test.YtegpgjiccpglbaaDoorYPairs
namespace Go.Proofs.YtegpgjiccpglbaaDoor
open Go.RowKit
/-- What lay there is as it was, but for S. -/
structure Fr (S : Nat → Prop) (w w' : World) : Prop where
  os : w'.os = w.os
  tape : w'.tape = w.tape
  output : w'.output = w.output
  size : w.heap.size ≤ w'.heap.size
  block : ∀ k, k < w.heap.size → ¬ S k → w'.heap[k]? = w.heap[k]?
theorem Fr.of_below {S : Nat → Prop} {w w' : World} (h : Below w.heap.size w w') : Fr S w w' := ⟨h.os, h.tape, h.output, h.size, fun k hk _ => h.block k hk⟩
theorem Fr.of_grown {S : Nat → Prop} {w w' : World} {row : Option Nat} (h : w.grownBy w' row) (hr : ∀ g, row = some g → S g) : Fr S w w' :=
  ⟨h.os, h.tape, h.output, h.size, fun k hk hn => h.block k hk fun e => hn (hr k e.symm)⟩
theorem Fr.trans {S T : Nat → Prop} {a b c : World} (h : Fr S a b) (k : Fr T b c) (hT : ∀ x, x < a.heap.size → T x → S x) : Fr S a c :=
  ⟨k.os.trans h.os, k.tape.trans h.tape, k.output.trans h.output, Nat.le_trans h.size k.size, fun i hi hn => (k.block i (Nat.lt_of_lt_of_le hi h.size) fun ht => hn (hT i hi ht)).trans (h.block i hi hn)⟩
theorem Fr.mono {S T : Nat → Prop} {a b : World} (h : Fr S a b) (hT : ∀ x, x < a.heap.size → S x → T x) : Fr T a b := ⟨h.os, h.tape, h.output, h.size, fun k hk hn => h.block k hk fun hs => hn (hT k hk hs)⟩
theorem Fr.cell {S : Nat → Prop} {w w' : World} (h : Fr S w w') {b i : Nat} {v : Value} (hc : w.cell? ⟨b, i, none⟩ = some v) (hn : ¬ S b) : w'.cell? ⟨b, i, none⟩ = some v := by
  rw [World.cell?_of_block (w := w) (h.block b (cell_lt hc) hn)]; exact hc
theorem Fr.below {S : Nat → Prop} {w w' : World} {n : Nat} (h : Fr S w w') (hn : n ≤ w.heap.size) (hS : ∀ k, S k → n ≤ k) : Below n w w' :=
  ⟨h.os, h.tape, h.output, h.size, fun k hk => h.block k (by omega) fun hs => by have := hS k hs; omega⟩
theorem owns_base {W : World} {B B' : Nat} {e : TypeId} {size : Nat} {v : Value} {n : Nat} {xs : List Value} (h : W.ownsRow B e size v n xs) (hB : B' ≤ B) : W.ownsRow B' e size v n xs := by
  refine ⟨h.1, ?_⟩
  rcases h.2 with h' | ⟨g, cap, cur, e1, hb, rest⟩
  · exact .inl h'
  · exact .inr ⟨g, cap, cur, e1, Nat.le_trans hB hb, rest⟩
theorem owns_lt {W : World} {B : Nat} {e : TypeId} {size : Nat} {v : Value} {n : Nat} {xs : List Value} (h : W.ownsRow B e size v n xs) : ∀ g, v.ownBlock = some g → g < W.heap.size := fun g eg => by
  rcases h.2 with ⟨rfl, _⟩ | ⟨g', cap, cur, rfl, hb, hg, _⟩
  · cases eg
  · cases eg; exact (Array.getElem?_eq_some_iff.1 hg).1
/-- The row is no box, and no hierarchy of the program's. -/
theorem owns_ne {W : World} {B : Nat} {v : Value} {n : Nat} {xs : List Value} {r : Nat} {c : Array Value} {t : TypeId} (h : W.ownsRow B 42 2 v n xs) (hb : W.heap[r]? = some (.cells c t)) (ht : t ≠ 42) : v.ownBlock ≠ some r := fun e => by
  rcases h.2 with ⟨rfl, _⟩ | ⟨g', cap, cur, rfl, _, hg, _⟩
  · cases e
  · have : g' = r := by simpa [Value.ownBlock] using e
    subst this
    rw [hb] at hg
    cases hg
    exact ht rfl
theorem RfAt.ne {W : World} {r B : Nat} {v : Value} {D : List (Int × Int)} (h : RfAt W r v B D) : v.ownBlock ≠ some r := owns_ne h.row h.bx (by decide)
/-- What a change of the document's hierarchy leaves. -/
def Nx (r : Nat) (v v' : Value) (W W' : World) : Prop := Fr (fun k => k = r ∨ v.ownBlock = some k) W W' ∧ ∀ g, v'.ownBlock = some g → v.ownBlock = some g ∨ W.heap.size ≤ g
theorem Nx.refl (r : Nat) (v : Value) (W : World) : Nx r v v W W := ⟨⟨rfl, rfl, rfl, Nat.le_refl _, fun _ _ _ => rfl⟩, fun _ h => .inl h⟩
theorem store_box {W : World} {r : Nat} {v v' : Value} {t : TypeId} (h : W.heap[r]? = some (.cells #[v] t)) : (W.setCell ⟨r, 0, none⟩ v').heap[r]? = some (.cells #[v'] t) := by
  simp [World.setCell, Array.getElem?_modify, h]
theorem RfAt.store {W : World} {r B : Nat} {v v' : Value} {D : List (Int × Int)} (hb : W.heap[r]? = some (.cells #[v] 31)) (hrow : W.ownsRow B 42 2 v' D.length (cellsP D)) : RfAt (W.setCell ⟨r, 0, none⟩ v') r v' B D := by
  have hne := owns_ne hrow hb (by decide)
  exact ⟨store_box hb, hrow.kept (grown_set W r 0 v') (.inr hne)⟩
section
variable {w : World} {r : Nat} {v : Value} {D : List (Int × Int)} {J : Nat → Nat}
set_option maxRecDepth 100000 in
set_option maxHeartbeats 1000000 in
theorem linksRR (h : RfAt w r v 0 D) (hw : Wf J) (hs : Sm J D) :
    Calls Tryd.prog 28 #[.pointer (some ⟨r, 0, none⟩)] w fun e w' => ∃ v', e = .returned v' ∧ w'.ownsRow w.heap.size 42 2 v' (lks J).length (cellsP (lks J)) ∧ Below w.heap.size w w' := by
  obtain ⟨i0, hi, hz0, hz1, hz2⟩ := info_q infoP
  have KH : Hid (∀ V (a b : Nat), Below w.heap.size w V → a < 64 → b < 64 → Calls Tryd.prog 27 #[.pointer (some ⟨r, 0, none⟩), .int .i64 (a : Int), .int .i64 (b : Int)] V fun e w' => e = .returned (.bool ((J a).testBit b)) ∧ w' = V) := fun V a b hV ha hb => by
    have := hasR (h.over hV) hs.len (a : Int) (b : Int)
    rwa [hs.has hw, hasJ_nat ha hb] at this
  clear h hs hw
  go_enter Tryd.func28, Tryd.ntmps28
  go_wp2
  go_loopw [3, 4, 5] (fun v k s5 wr => ∃ n : Nat, n ≤ 64 ∧ k = .int .i64 n ∧ Hid (wr.ownsRow w.heap.size 42 2 v (lksN J n).length (cellsP (lksN J n))) ∧ Below w.heap.size w wr) (fun _ k _ _ => (64 - intOf k).toNat)
  case atStart => exact ⟨0, by omega, rfl, World.ownsRow_nil _ _ _ _, Below.refl _ _⟩
  case round =>
    obtain ⟨n, hn, rfl, hrow, hB⟩ := hrel
    by_cases hlt : n < 64
    · have hd : decide ((n : Int) < 64) = true := by simp; omega
      go_wp2
      go_loopw [3, 5] (fun v s wv => ∃ k : Nat, k ≤ 64 ∧ s = .int .i64 k ∧ Hid (wv.ownsRow w.heap.size 42 2 v (lksN J n ++ rowTo J n k).length (cellsP (lksN J n ++ rowTo J n k))) ∧ Below w.heap.size w wv) (fun _ s _ => (64 - intOf s).toNat)
      case atStart => exact ⟨0, by omega, rfl, by rw [rowTo_zero, List.append_nil]; exact hrow, hB⟩
      case round =>
        clear hrow hB
        obtain ⟨k, hk, rfl, hrow, hB⟩ := hrel
        obtain ⟨oa, cap, hv⟩ := owns_shape hrow.out
        subst hv
        by_cases hlk : k < 64
        · have KH1 := hide' (KH.out wr n k hB hlt hlk)
          have hnx := hide' (rowTo_next J n hlk)
          have hlen : (lksN J n ++ rowTo J n k).length ≤ 8192 := by
            have h1 := lksN_len J n
            have h2 := rowTo_len J n k
            rw [List.length_append]
            omega
          have hsz := hB.size
          clear KH
          cases ht : (J n).testBit k with
          | false =>
            rw [ht, if_neg (by simp), List.append_nil] at hnx
            rw [ht] at KH1
            have hrow2 : Hid (wr.ownsRow w.heap.size 42 2 (.slice oa (lksN J n ++ rowTo J n k).length cap) (lksN J n ++ rowTo J n (k + 1)).length (cellsP (lksN J n ++ rowTo J n (k + 1)))) := by
              show World.ownsRow _ _ _ _ _ _ _
              rw [hnx.out]; exact hrow.out
            clear ht hnx hrow
            generalize (lksN J n ++ rowTo J n k).length = ml at *
            go_wp2_with (go_at_call 27; refine KH1.out.mono ?_; rintro e w1 ⟨rfl, hw1⟩; have hw2 := hw1.symm; subst hw2; clear hw1)
            exact ⟨⟨k + 1, by omega, by go_num, hrow2, hB⟩, by simp [intOf]; omega⟩
          | true =>
            rw [ht, if_pos rfl] at hnx
            rw [ht] at KH1
            have hsn : Hid (lksN J n ++ rowTo J n (k + 1) = (lksN J n ++ rowTo J n k) ++ [((n : Int), (k : Int))]) := by show _ = _; rw [hnx.out, List.append_assoc]
            clear ht hnx
            generalize hM : lksN J n ++ rowTo J n k = M at *
            clear hM
            generalize hm : M.length = m at *
            have hm' := hide' hm
            clear hm
            go_wp2_with (first | (go_at_call 27; refine KH1.out.mono ?_; rintro e w1 ⟨rfl, hw1⟩; have hw2 := hw1.symm; subst hw2; clear hw1) | (at_builtin; go_loud (refine wpList_append_lies _ rfl _ _ 29 rfl w.heap.size 42 i0 (.agg #[.int .i64 0, .int .i64 0]) 2 16 Tryd.underlying29 hi hz0 hz1 hz2 rfl (by decide) (.slice oa m cap) m (cellsP M) rfl (hrow.out.alloc _) ⟨wr.heap.size, 0, none⟩ 1 1 [.int .i64 (n : Int), .int .i64 (k : Int)] rfl rfl (cell_two_new _ _ _ _) (by simp [Value.oneCell']) (by decide) (by unfold maxLen; omega) (by omega) (by simp; omega) _ rfl ?_); intro g4 cap4 w4 hown4 hgrow4 hat4 hlt4))
            have hge := owns_ge hrow.out
            have hB4 : Below w.heap.size w w4 := (hB.alloc hsz _).grown hgrow4 (by simp; omega) hge
            have hown5 : Hid (w4.ownsRow w.heap.size 42 2 (.slice (some ⟨g4, 0, none⟩) (m + 1) cap4) (lksN J n ++ rowTo J n (k + 1)).length (cellsP (lksN J n ++ rowTo J n (k + 1)))) := by
              show World.ownsRow _ _ _ _ _ _ _
              rw [hsn.out, cellsP_snoc, List.length_append, hm'.out]; exact hown4
            clear hown4 hgrow4 hat4 hrow
            exact ⟨⟨k + 1, by omega, by go_num, hown5, hB4⟩, by simp [intOf]; omega⟩
        · obtain rfl : k = 64 := by omega
          have hrow2 : Hid (wr.ownsRow w.heap.size 42 2 (.slice oa (lksN J n ++ rowTo J n 64).length cap) (lksN J (n + 1)).length (cellsP (lksN J (n + 1)))) := by
            show World.ownsRow _ _ _ _ _ _ _
            rw [lksN_snoc, ← rowTo_all]; exact hrow.out
          clear hrow
          go_wp2
          exact ⟨⟨n + 1, by omega, by go_num, hrow2, hB⟩, by simp [intOf]; omega⟩
    · obtain rfl : n = 64 := by omega
      obtain ⟨oa, cap, hv⟩ := owns_shape hrow.out
      subst hv
      go_wp2
      go_ret
      exact ⟨_, rfl, hrow.out, hB⟩
/-- The row behind Over. -/
def ovD (J : Nat → Nat) (D : List (Int × Int)) (x y : Int) : List (Int × Int) := if ovC J x y = 0 then D ++ [(x, y)] else D
theorem ovD_sm (hw : Wf J) (hs : Sm J D) (x y : Int) : Sm (ovJ J x y) (ovD J D x y) := by
  unfold ovJ ovD
  by_cases h : ovC J x y = 0
  · rw [if_pos h, if_pos h]
    have hp : okA x = true ∧ okA y = true ∧ hasJ J x y = false := by
      unfold ovC at h
      cases hx : okA x <;> cases hy : okA y <;> cases hh : hasJ J x y <;> simp [hx, hy, hh] at h ⊢
    obtain ⟨i, hi, rfl⟩ := okA_nat hp.1
    obtain ⟨j, hj, rfl⟩ := okA_nat hp.2.1
    have := hp.2.2
    rw [hasJ_nat hi hj] at this
    exact hs.lay hw hi hj this
  · rw [if_neg h, if_neg h]; exact hs
set_option maxRecDepth 100000 in
set_option maxHeartbeats 1000000 in
theorem overRR (h : RfAt w r v 0 D) (hw : Wf J) (hy : Acy J) (hs : Sm J D) (x y : Int) :
    Calls Tryd.prog 20 #[.pointer (some ⟨r, 0, none⟩), .int .i64 x, .int .i64 y] w fun e w' => e = .returned (.int .i64 (ovC J x y)) ∧ ∃ v', RfAt w' r v' 0 (ovD J D x y) ∧ Nx r v v' w w' := by
  have hsame : ∀ c, c ≠ 0 → ovC J x y = c → ovD J D x y = D := fun c hc e => by unfold ovD; rw [e, if_neg hc]
  cases hx : okA x with
  | false =>
    have e : ovC J x y = 1 := by simp [ovC, hx]
    rw [hsame 1 (by decide) e, e]
    clear hsame e
    go_enter Tryd.func20, Tryd.ntmps20
    go_wp2_with (go_at_call 35; refine (placeR _ _).mono ?_; rintro e w1 ⟨rfl, rfl⟩)
    go_ret
    exact ⟨rfl, v, h, Nx.refl _ _ _⟩
  | true =>
  cases hyy : okA y with
  | false =>
    have e : ovC J x y = 1 := by simp [ovC, hyy]
    rw [hsame 1 (by decide) e, e]
    clear hsame e
    go_enter Tryd.func20, Tryd.ntmps20
    go_wp2_with (go_at_call 35; refine (placeR _ _).mono ?_; rintro e w1 ⟨rfl, rfl⟩)
    go_ret
    exact ⟨rfl, v, h, Nx.refl _ _ _⟩
  | true =>
  have KH := hasR h hs.len x y
  rw [hs.has hw] at KH
  cases hh : hasJ J x y with
  | true =>
    have e : ovC J x y = 5 := by simp [ovC, hx, hyy, hh]
    rw [hsame 5 (by decide) e, e]
    rw [hh] at KH
    have KH' := hide' KH
    clear hsame e KH
    go_enter Tryd.func20, Tryd.ntmps20
    go_wp2_with (first | (go_at_call 35; refine (placeR _ _).mono ?_; rintro e w1 ⟨rfl, rfl⟩) | (go_at_call 27; refine KH'.out.mono ?_; rintro e w1 ⟨rfl, rfl⟩))
    go_ret
    exact ⟨rfl, v, h, Nx.refl _ _ _⟩
  | false =>
  rw [hh] at KH
  have KH' := hide' KH
  clear KH
  obtain ⟨i, hi, rfl⟩ := okA_nat hx
  obtain ⟨j, hj, rfl⟩ := okA_nat hyy
  have KB := belR h hw hy hs (j : Int)
  have ebel : belI J (j : Int) = bel J j := by simp [belI, hyy]
  rw [ebel] at KB
  have KB' := hide' KB
  have hbl := bel_lt hw hj
  have g1 : (i : Int) < 64 := by omega
  have g2 : (0 : Int) ≤ (i : Int) := by omega
  cases ht : (bel J j).testBit i with
  | true =>
    have e : ovC J i j = 6 := by simp [ovC, hx, hyy, hh, ebel, ht]
    rw [hsame 6 (by decide) e, e]
    have f1 := shr_bitT hbl ht
    clear hsame e ebel ht KB
    generalize bel J j = q at *
    go_enter Tryd.func20, Tryd.ntmps20
    go_wp2_with (first | (go_at_call 35; refine (placeR _ _).mono ?_; rintro e w1 ⟨rfl, hw1⟩; have hw2 := hw1.symm; subst hw2; clear hw1) | (go_at_call 27; refine KH'.out.mono ?_; rintro e w1 ⟨rfl, hw1⟩; have hw2 := hw1.symm; subst hw2; clear hw1) | (go_at_call 23; refine KB'.out.mono ?_; rintro e w1 ⟨rfl, hw1⟩; have hw2 := hw1.symm; subst hw2; clear hw1))
    go_ret
    exact ⟨rfl, v, h, Nx.refl _ _ _⟩
  | false =>
    have e : ovC J i j = 0 := by simp [ovC, hx, hyy, hh, ebel, ht]
    have e2 : ovD J D i j = D ++ [((i : Int), (j : Int))] := by unfold ovD; rw [if_pos e]
    rw [e2, e]
    have f1 := shr_bitF hbl ht
    obtain ⟨i0, hi0, hz0, hz1, hz2⟩ := info_q infoP
    obtain ⟨oa, cap, rfl⟩ := h.shape
    have hlen := hs.len
    have c0 := h.cell
    have hne := hide' h.ne
    have hrow := hide' h.row
    have hbx := hide' h.bx
    have hrl := h.lt
    clear hsame e ebel ht KB h hs hw hy e2
    generalize bel J j = q at *
    generalize hm : D.length = m at *
    have hm' := hide' hm
    clear hm
    have c0a : (w.alloc (.cells #[.int .i64 (i : Int), .int .i64 (j : Int)] 42)).cell? ⟨r, 0, none⟩ = some (.slice oa m cap) := ((Below.refl _ w).alloc (Nat.le_refl _) _).cell (p := ⟨r, 0, none⟩) hrl |>.trans c0
    go_enter Tryd.func20, Tryd.ntmps20
    go_wp2_with (first | (go_at_call 35; refine (placeR _ _).mono ?_; rintro e w1 ⟨rfl, hw1⟩; have hw2 := hw1.symm; subst hw2; clear hw1) | (go_at_call 27; refine KH'.out.mono ?_; rintro e w1 ⟨rfl, hw1⟩; have hw2 := hw1.symm; subst hw2; clear hw1) | (go_at_call 23; refine KB'.out.mono ?_; rintro e w1 ⟨rfl, hw1⟩; have hw2 := hw1.symm; subst hw2; clear hw1) | (at_builtin; go_loud (refine wpList_append_lies _ rfl _ _ 29 rfl 0 42 i0 (.agg #[.int .i64 0, .int .i64 0]) 2 16 Tryd.underlying29 hi0 hz0 hz1 hz2 rfl (by decide) (.slice oa m cap) m (cellsP D) rfl (hrow.out.alloc _) ⟨w.heap.size, 0, none⟩ 1 1 [.int .i64 (i : Int), .int .i64 (j : Int)] rfl rfl (cell_two_new _ _ _ _) (by simp [Value.oneCell']) (by decide) (by unfold maxLen; omega) (by omega) (Nat.zero_le _) _ rfl ?_); intro g4 cap4 w4 hown4 hgrow4 hat4 hlt4; have hbx4 : w4.heap[r]? = some (.cells #[.slice oa m cap] 31) := (hgrow4.block r (by simp; omega) (fun e => hne.out e.symm)).trans ((((Below.refl _ w).alloc (Nat.le_refl _) _).block r hrl).trans hbx.out); have c4 : w4.cell? ⟨r, 0, none⟩ = some (.slice oa m cap) := (by simp [World.cell?, hbx4]); have f4 : w4.frozen? ⟨r, 0, none⟩ = false := (by simp [World.frozen?, hbx4]); have hbx4' := hide' hbx4; have hown4' := hide' hown4; have hgrow4' := hide' hgrow4; have hat4' := hide' hat4; clear hbx4 hown4 hgrow4 hat4))
    go_ret
    refine ⟨rfl, .slice (some ⟨g4, 0, none⟩) (m + 1) cap4, RfAt.store hbx4'.out (by rw [cellsP_snoc, List.length_append, hm'.out]; exact hown4'.out), ?_, ?_⟩
    · refine ((Fr.of_below ((Below.refl _ w).alloc (Nat.le_refl _) _)).trans (Fr.of_grown (S := fun k => (Value.slice oa m cap).ownBlock = some k) hgrow4'.out (fun g e => e)) (fun _ _ e => .inr e)).trans (Fr.of_grown (S := fun k => k = r) (grown_set w4 r 0 _) (fun g e => by cases e; rfl)) (fun _ _ e => .inl e)
    · intro g e
      have : g = g4 := by simpa [Value.ownBlock] using e.symm
      subst this
      rcases hat4'.out with hh | hh
      · exact .inl hh
      · exact .inr (by rw [hh]; simp)
end
end Go.Proofs.YtegpgjiccpglbaaDoor

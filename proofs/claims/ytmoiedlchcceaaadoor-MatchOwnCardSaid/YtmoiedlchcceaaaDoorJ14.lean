/- provostkeep's Loan: what it holds of rows of words. (Printed by mkloanu.py.) -/
import Derived.Test.YtmoiedlchcceaaaDoorJ12
import Derived.Test.YtmoiedlchcceaaaDoorJ13
import Derived.Deep.RegionHeld3
namespace Go.Proofs.YtmoiedlchcceaaaDoor.K
open Go.RowKit
theorem Bk.below {w w' : World} {b : Nat} {tag : Nat → Nat} {ov ow : Value} {m : Nat} {vs us : List Value} {rows : Nat → List Int} {N : Nat} (h : Bk w b tag ov ow m vs us rows N) (hB : Below w.heap.size w w') : Bk w' b tag ov ow m vs us rows N := by
  have s : Sm (fun _ => False) tag w w' := Sm.below hB
  exact ⟨h.box.mv s (fun x => x), h.bt, h.live.mv s (fun x => x) (fun _ _ x => x), h.want.mv s (fun x => x) (fun _ _ x => x), fun g hg => h.fresh g (Nat.le_trans hB.size hg), h.hN, h.hrow⟩
set_option maxHeartbeats 1000000 in
theorem lookBytes0 (b : Value) (w : World) : Calls Tryd.prog 51 #[b, .slice none 0 0] w fun e w' => e = .returned (.bool true) ∧ w' = w := by
  go_enter Tryd.func51, Tryd.ntmps51
  go_wp2
  go_loop [5] (fun i => i = .int .i64 0) (fun _ => 0)
  case atStart => rfl
  case round =>
    obtain rfl := hrel
    go_wp2
    go_ret
    exact ⟨rfl, rfl⟩
set_option maxHeartbeats 1000000 in
theorem lookTexts0 (b : Value) (w : World) : Calls Tryd.prog 54 #[b, .slice none 0 0] w fun e w' => e = .returned (.bool true) ∧ w' = w := by
  go_enter Tryd.func54, Tryd.ntmps54
  go_wp2
  go_loop [5] (fun i => i = .int .i64 0) (fun _ => 0)
  case atStart => rfl
  case round =>
    obtain rfl := hrel
    go_wp2
    go_ret
    exact ⟨rfl, rfl⟩
set_option maxRecDepth 100000 in
set_option maxHeartbeats 4000000 in
theorem closeBytes0 (b : Nat) (w : World) (ov ow o1 om : Value) (N : Int) (hb : BoxB w b ov ow o1 om N) : Calls Tryd.prog 34 #[.pointer (some ⟨b, 0, none⟩)] w fun e w' => e = .returned (.bool true) ∧ w' = w := by
  have c0 := hb.c0
  have c2 := hb.c2
  have c3 := hb.c3
  have K := hide' (lookBytes0 (.pointer (some ⟨b, 0, none⟩)) w)
  clear hb
  go_enter Tryd.func34, Tryd.ntmps34
  go_wp2
  go_loop [3] (fun i => i = .int .i64 0) (fun _ => 0)
  case atStart => rfl
  case round =>
    obtain rfl := hrel
    go_wp2
    go_loop [5] (fun i => i = .int .i64 0) (fun _ => 0)
    case atStart => rfl
    case round =>
      obtain rfl := hrel
      go_wp2_with (go_at_call 51; refine K.out.mono ?_; rintro e w7 ⟨rfl, hw7⟩; obtain rfl : w = w7 := hw7.symm)
      go_loop [8] (fun i => i = .int .i64 0) (fun _ => 0)
      case atStart => rfl
      case round =>
        obtain rfl := hrel
        go_wp2_with (go_at_call 51; refine K.out.mono ?_; rintro e w7 ⟨rfl, hw7⟩; obtain rfl : w = w7 := hw7.symm)
        go_ret
        exact ⟨rfl, rfl⟩
set_option maxRecDepth 100000 in
set_option maxHeartbeats 4000000 in
theorem closeTexts0 (b : Nat) (w : World) (ov ow o1 om : Value) (N : Int) (hb : BoxB w b ov ow o1 om N) : Calls Tryd.prog 36 #[.pointer (some ⟨b, 0, none⟩)] w fun e w' => e = .returned (.bool true) ∧ w' = w := by
  have c0 := hb.c8
  have c2 := hb.c10
  have c3 := hb.c11
  have K := hide' (lookTexts0 (.pointer (some ⟨b, 0, none⟩)) w)
  clear hb
  go_enter Tryd.func36, Tryd.ntmps36
  go_wp2
  go_loop [3] (fun i => i = .int .i64 0) (fun _ => 0)
  case atStart => rfl
  case round =>
    obtain rfl := hrel
    go_wp2
    go_loop [5] (fun i => i = .int .i64 0) (fun _ => 0)
    case atStart => rfl
    case round =>
      obtain rfl := hrel
      go_wp2_with (go_at_call 54; refine K.out.mono ?_; rintro e w7 ⟨rfl, hw7⟩; obtain rfl : w = w7 := hw7.symm)
      go_loop [8] (fun i => i = .int .i64 0) (fun _ => 0)
      case atStart => rfl
      case round =>
        obtain rfl := hrel
        go_wp2_with (go_at_call 54; refine K.out.mono ?_; rintro e w7 ⟨rfl, hw7⟩; obtain rfl : w = w7 := hw7.symm)
        go_ret
        exact ⟨rfl, rfl⟩
theorem cell_over {W W' : World} {b o : Nat} {v : Value} (h : W.cell? ⟨b, o, none⟩ = some v) (hb : Below W.heap.size W W') : W'.cell? ⟨b, o, none⟩ = some v := (hb.cell (p := ⟨b, o, none⟩) (cell_lt h)).trans h
theorem keep4 {W0 W w1 : World} {b1 b2 b3 b4 o1 o2 o3 o4 : Nat} {u1 u2 u3 u4 : Value} (h : W.cell? ⟨b1, o1, none⟩ = some u1 ∧ W.cell? ⟨b2, o2, none⟩ = some u2 ∧ W.cell? ⟨b3, o3, none⟩ = some u3 ∧ W.cell? ⟨b4, o4, none⟩ = some u4 ∧ Below W0.heap.size W0 W) (hb : Below W.heap.size W w1) :
    w1.cell? ⟨b1, o1, none⟩ = some u1 ∧ w1.cell? ⟨b2, o2, none⟩ = some u2 ∧ w1.cell? ⟨b3, o3, none⟩ = some u3 ∧ w1.cell? ⟨b4, o4, none⟩ = some u4 ∧ Below W0.heap.size W0 w1 :=
  ⟨cell_over h.1 hb, cell_over h.2.1 hb, cell_over h.2.2.1 hb, cell_over h.2.2.2.1 hb, h.2.2.2.2.trans (hb.mono h.2.2.2.2.size)⟩
set_option maxRecDepth 100000 in
set_option maxHeartbeats 4000000 in
theorem stands (b : Nat) (tag : Nat → Nat) (w : World) (ov ow : Value) (m : Nat) (vs us : List Value) (rows : Nat → List Int) (N : Nat) (hk : Bk w b tag ov ow m vs us rows N) :
    Calls Tryd.prog 33 #[.pointer (some ⟨b, 0, none⟩)] w fun e w' => e = .returned (.bool true) ∧ Below w.heap.size w w' := by
  have hm : m ≤ 1300000 := by have := hk.hN; omega
  have c0 := hk.box.c0
  obtain ⟨oa, cap, rfl⟩ := own_shape hk.live.outer
  obtain ⟨ob, cb, rfl⟩ := own_shape hk.want.outer
  have hk' := hide' hk
  clear hk
  go_enter Tryd.func33, Tryd.ntmps33
  go_wp2
  go_loop [3] (fun i => i = .int .i64 0) (fun _ => 0)
  case atStart => rfl
  case round =>
    obtain rfl := hrel
    go_wp2
    go_loopw [4] (fun i wr => ∃ (c : Nat), c ≤ m ∧ i = .int .i64 c ∧ Below w.heap.size w wr) (fun i _ => ((m : Int) - intOf i).toNat)
    case atStart => exact ⟨0, Nat.zero_le _, rfl, Below.refl _ _⟩
    case round =>
      clear c0
      obtain ⟨c, hc, rfl, hB⟩ := hrel
      have hkr := hk'.out.below hB
      have c4 := hkr.box.c4
      by_cases hlt : c < m
      · have c5 := hkr.box.c5
        obtain ⟨g, cap2, e, _, _⟩ := hkr.live.outer.form (by omega)
        obtain ⟨rfl, rfl⟩ : oa = some ⟨g, 0, none⟩ ∧ cap = cap2 := by injection e with h1 h2 h3; exact ⟨h1, h3⟩
        obtain ⟨g1, cap3, e1, _, _⟩ := hkr.want.outer.form (by omega)
        obtain ⟨rfl, rfl⟩ : ob = some ⟨g1, 0, none⟩ ∧ cb = cap3 := by injection e1 with h1 h2 h3; exact ⟨h1, h3⟩
        obtain ⟨v, hv⟩ : ∃ v, vs[c]? = some v := ⟨_, List.getElem?_eq_getElem (by rw [hkr.live.len]; exact hlt)⟩
        obtain ⟨u, hu⟩ : ∃ u, us[c]? = some u := ⟨_, List.getElem?_eq_getElem (by rw [hkr.want.len]; exact hlt)⟩
        have cv : wr.cell? ⟨g, c, none⟩ = some v := by rw [hkr.live.outer.cellAt c (by omega)]; exact hv
        have cu : wr.cell? ⟨g1, c, none⟩ = some u := by rw [hkr.want.outer.cellAt c (by omega)]; exact hu
        have r1 := RowI.of_owns (hkr.live.inner c v hv)
        have r2 := RowI.of_owns (hkr.want.inner c u hu)
        have hl := hkr.hrow c hlt
        have KI : Hid (∀ W, Below wr.heap.size wr W → Calls Tryd.prog 31 #[v, u] W fun e w' => e = .returned (.bool true) ∧ Below W.heap.size W w') := fun W hW => by
          have := keepInts (rows c) (rows c) v u W (r1.below hW (Nat.le_refl _)) (r2.below hW (Nat.le_refl _)) hl hl
          simpa using this
        have hB' := hide' hB
        have hi0 : Hid (wr.drew.cell? ⟨b, 4, none⟩ = some (.slice (some ⟨g, 0, none⟩) m cap) ∧ wr.drew.cell? ⟨b, 5, none⟩ = some (.slice (some ⟨g1, 0, none⟩) m cb) ∧ wr.drew.cell? ⟨g, c, none⟩ = some v ∧ wr.drew.cell? ⟨g1, c, none⟩ = some u ∧ Below wr.heap.size wr wr.drew) := ⟨c4, c5, cv, cu, (Below.refl _ _).drew⟩
        clear hkr e e1 hv hu r1 r2 hl hB
        go_wp2
        go_region_held3 (fun V => V.cell? ⟨b, 4, none⟩ = some (.slice (some ⟨g, 0, none⟩) m cap) ∧ V.cell? ⟨b, 5, none⟩ = some (.slice (some ⟨g1, 0, none⟩) m cb) ∧ V.cell? ⟨g, c, none⟩ = some v ∧ V.cell? ⟨g1, c, none⟩ = some u ∧ Below wr.heap.size wr V) (first | (exact keep4 (by assumption) hb) | (exact keep4 hi0.out hb) | (exact hi0.out)) (first | (go_at_call 31; refine (KI.out _ (by first | exact ‹_ ∧ _ ∧ _ ∧ _ ∧ _›.2.2.2.2 | exact (Below.refl _ _).drew)).mono ?_; rintro e w7 ⟨rfl, hb⟩))
        go_wp2
        exact ⟨⟨c + 1, by omega, by go_num, hB'.out.trans (‹_ ∧ _ ∧ _ ∧ _ ∧ Below wr.heap.size wr w7›.2.2.2.2.mono hB'.out.size)⟩, by simp [intOf]; omega⟩
      · have c8 := hkr.box.c8
        clear hkr
        go_wp2
        go_loop [5] (fun i => i = .int .i64 0) (fun _ => 0)
        case atStart => rfl
        case round =>
          obtain rfl := hrel
          go_wp2
          go_ret
          exact ⟨rfl, hB⟩
set_option maxRecDepth 100000 in
set_option maxHeartbeats 2000000 in
theorem bookClose (b : Nat) (tag : Nat → Nat) (w : World) (hk : Book w b tag) :
    Calls Tryd.prog 13 #[.pointer (some ⟨b, 0, none⟩)] w fun e w' => e = .returned (.bool true) ∧ Sm (· ≠ 0) tag w w' := by
  obtain ⟨ov, ow, m, vs, us, rows, N, hk⟩ := hk
  have K1 := hide' (stands b tag w ov ow m vs us rows N hk)
  have K2 : Hid (∀ W, Below w.heap.size w W → Calls Tryd.prog 34 #[.pointer (some ⟨b, 0, none⟩)] W fun e w' => e = .returned (.bool true) ∧ w' = W) := fun W hW => closeBytes0 b W _ _ _ _ _ (hk.below hW).box
  have K3 : Hid (∀ W, Below w.heap.size w W → Calls Tryd.prog 35 #[.pointer (some ⟨b, 0, none⟩)] W fun e w' => e = .returned (.bool true) ∧ (∃ o1 om, BoxB w' b ov ow o1 om N) ∧ Sm (· ≠ 0) tag W w') := fun W hW => closeInts b tag W _ _ _ _ _ _ _ (hk.below hW)
  have K4 : Hid (∀ W, (∃ o1 om, BoxB W b ov ow o1 om N) → Calls Tryd.prog 36 #[.pointer (some ⟨b, 0, none⟩)] W fun e w' => e = .returned (.bool true) ∧ w' = W) := fun W ⟨o1, om, hW⟩ => closeTexts0 b W _ _ _ _ _ hW
  clear hk
  go_enter Tryd.func13, Tryd.ntmps13
  go_wp2_with (first | (go_at_call 33; refine K1.out.mono ?_; rintro e w1 ⟨rfl, hb1⟩; have hb1' := hide' hb1; clear hb1) | (go_at_call 34; refine (K2.out _ hb1'.out).mono ?_; rintro e w2 ⟨rfl, hw2⟩; obtain rfl : w1 = w2 := hw2.symm) | (go_at_call 35; refine (K3.out _ hb1'.out).mono ?_; rintro e w3 ⟨rfl, hbx, hs⟩; have hbx' := hide' hbx; have hs' := hide' hs; clear hbx hs) | (go_at_call 36; refine (K4.out _ hbx'.out).mono ?_; rintro e w4 ⟨rfl, hw4⟩; obtain rfl : w3 = w4 := hw4.symm))
  go_ret
  exact ⟨rfl, (Sm.below hb1'.out).trans hs'.out (fun _ _ => rfl)⟩
end Go.Proofs.YtmoiedlchcceaaaDoor.K
namespace Go.Proofs.YtmoiedlchcceaaaDoor.KU
open Go.RowKit
open Go.Proofs.YtmoiedlchcceaaaDoor.K
theorem infoI : (Tryd.prog.info? 40).map (fun i => (i.zero, i.size, i.bytes)) = some (some (.int .u64 0), 1, 8) := by kernel_rfl
theorem infoL : (Tryd.prog.info? 22).map (fun i => (i.zero, i.size, i.bytes)) = some (some (.slice none 0 0), 1, 24) := by kernel_rfl
/-- A row of numbers, wherever it lies. -/
def RowI (w : World) (v : Value) (l : List Int) : Prop := ∃ oa cap, v = .slice oa l.length cap ∧ (l.length ≤ cap ∧ (oa = none → cap = 0)) ∧ ∀ i z, l[i]? = some z → ∃ g o, oa = some ⟨g, o, none⟩ ∧ w.cell? ⟨g, o + i, none⟩ = some (.int .u64 z)
theorem RowI.below {w w' : World} {v : Value} {l : List Int} {n : Nat} (h : RowI w v l) (hb : Below n w w') (hn : w.heap.size ≤ n) : RowI w' v l := by
  obtain ⟨oa, cap, e, e0, h⟩ := h
  refine ⟨oa, cap, e, e0, fun i z hz => ?_⟩
  obtain ⟨g, o, e1, e2⟩ := h i z hz
  exact ⟨g, o, e1, (hb.cell (p := ⟨g, o + i, none⟩) (Nat.lt_of_lt_of_le (cell_lt e2) hn)).trans e2⟩
/-- Ints as a row's cells. -/
def cellsI (l : List Int) : List Value := l.map fun z => Value.int .u64 z
theorem cellsI_len (l : List Int) : (cellsI l).length = l.length := by simp [cellsI]
theorem cellsI_at {l : List Int} {j : Nat} {u : Value} (h : (cellsI l)[j]? = some u) : ∃ z, l[j]? = some z ∧ u = .int .u64 z := by
  unfold cellsI at h
  rw [List.getElem?_map] at h
  cases hz : l[j]? with
  | none => rw [hz] at h; cases h
  | some z => rw [hz] at h; cases h; exact ⟨z, rfl, rfl⟩
theorem one_cells (l : List Int) : ∀ u ∈ cellsI l, u.oneCell' = true := fun u hu => by
  obtain ⟨z, _, rfl⟩ := List.mem_map.1 hu
  rfl
theorem RowI.of_owns {w : World} {n₀ e : Nat} {v : Value} {n : Nat} {l : List Int} (h : w.ownsRow n₀ e 1 v n (cellsI l)) : RowI w v l := by
  have hl : n = l.length := by have := h.1; simp [cellsI] at this; omega
  subst hl
  rcases h.2 with ⟨rfl, h0⟩ | ⟨g, cap, cur, rfl, _, hb, hcap, _, _, hcur⟩
  · refine ⟨none, 0, by rw [h0], ⟨by omega, fun _ => rfl⟩, fun i z hz => ?_⟩
    have := (List.getElem?_eq_some_iff.1 hz).1
    omega
  · refine ⟨_, cap, rfl, ⟨hcap, fun e => by cases e⟩, fun i z hz => ⟨g, 0, rfl, ?_⟩⟩
    obtain ⟨hi, _⟩ := List.getElem?_eq_some_iff.1 hz
    have e1 : cur[i]? = some (Value.int .u64 z) := by
      have : (cur.toList.take (l.length * 1))[i]? = (cellsI l)[i]? := by rw [hcur]
      rw [List.getElem?_take_of_lt (by omega)] at this
      simpa [cellsI, hz] using this
    rw [Nat.zero_add]
    simp [World.cell?, hb, e1]
theorem owns_zero (w : World) (b : Nat) (hb : b ≤ w.heap.size) (e : TypeId) : (w.alloc (.cells #[] e)).ownsRow b e 1 (.slice (some ⟨w.heap.size, 0, none⟩) 0 0) 0 (cellsI []) :=
  ⟨rfl, .inr ⟨_, 0, #[], rfl, hb, heap_new w _, Nat.le_refl _, by unfold maxLen; omega, rfl, rfl⟩⟩
set_option maxRecDepth 100000 in
set_option maxHeartbeats 2000000 in
theorem keepRows (la lb : List Int) (va vb : Value) (w : World) (ha : RowI w va la) (hb : RowI w vb lb) (hn : la.length ≤ 1000000) (hm : lb.length ≤ 1000000) :
    Calls Tryd.prog 32 #[va, vb] w fun e w' => e = .returned (.bool (decide (la = lb))) ∧ Below w.heap.size w w' := by
  obtain ⟨oa, ca, rfl, _, hca⟩ := ha
  obtain ⟨ob, cb, rfl, _, hcb⟩ := hb
  by_cases hl : la.length = lb.length
  · have hca' := hide' hca
    have hcb' := hide' hcb
    clear hca hcb
    go_enter Tryd.func32, Tryd.ntmps32
    go_wp2
    go_loopw [5] (fun k wr => Below w.heap.size w wr ∧ ∃ (c : Nat), c ≤ la.length ∧ k = .int .i64 c ∧ Hid (la.take c = lb.take c)) (fun k _ => ((la.length : Int) - intOf k).toNat)
    case atStart => exact ⟨Below.refl _ _, 0, Nat.zero_le _, rfl, by show _ = _; simp⟩
    case round =>
      obtain ⟨hB, c, hc, rfl, hE⟩ := hrel
      by_cases hlt : c < la.length
      · obtain ⟨x, hx⟩ : ∃ x, la[c]? = some x := ⟨_, List.getElem?_eq_getElem hlt⟩
        obtain ⟨y, hy⟩ : ∃ y, lb[c]? = some y := ⟨_, List.getElem?_eq_getElem (by omega)⟩
        obtain ⟨ga, o1, rfl, c1'⟩ := hca'.out c x hx
        obtain ⟨gb, o2, rfl, c2'⟩ := hcb'.out c y hy
        have c1 := (hB.cell (p := ⟨ga, o1 + c, none⟩) (cell_lt c1')).trans c1'
        have c2 := (hB.cell (p := ⟨gb, o2 + c, none⟩) (cell_lt c2')).trans c2'
        clear c1' c2'
        have hx' := hide' hx
        have hy' := hide' hy
        have hltb : c < lb.length := by omega
        by_cases hxy : x = y
        · subst hxy
          clear hx hy
          go_wp2
          go_region
          go_wp2
          exact ⟨⟨hB.drew, c + 1, by omega, by go_num, by show _ = _; rw [List.take_add_one, List.take_add_one, hE.out, hx'.out, hy'.out]⟩, by simp [intOf]; omega⟩
        · have hd : (x != y) = true := by simpa using hxy
          clear hx hy
          go_wp2
          go_region
          go_wp2
          go_ret
          exact ⟨ret_bool (by rw [eq_comm]; simp only [decide_eq_false_iff_not]; intro e; subst e; rw [hx'.out] at hy'; exact hxy (Option.some.inj hy'.out)), hB.drew⟩
      · obtain rfl : c = la.length := by omega
        have e : Hid (la = lb) := by
          show _ = _
          have := hE.out
          rwa [List.take_length, hl, List.take_length] at this
        clear hE hca' hcb'
        go_wp2
        go_ret
        exact ⟨ret_bool (by simp [e.out]), hB⟩
  · have hd : ((la.length : Int) != (lb.length : Int)) = true := by rw [bne_iff_ne]; omega
    clear hca hcb
    go_enter Tryd.func32, Tryd.ntmps32
    go_wp2
    go_ret
    exact ⟨ret_bool (by rw [eq_comm]; simp only [decide_eq_false_iff_not]; intro e; exact hl (by rw [e])), Below.refl _ _⟩
/-- A row of rows; the outer row's block bears the mark t, the block of row j the mark c j. -/
structure Fam (w : World) (tag : Nat → Nat) (t : Nat) (c : Nat → Nat) (ov : Value) (m : Nat) (vs : List Value) (rows : Nat → List Int) : Prop where
  outer : w.ownsRow 0 22 1 ov m vs
  otag : ∀ g, ov.ownBlock = some g → tag g = t
  inner : ∀ (j : Nat) (v : Value), vs[j]? = some v → w.ownsRow 0 40 1 v (rows j).length (cellsI (rows j))
  itag : ∀ (j : Nat) (v : Value) (g : Nat), vs[j]? = some v → v.ownBlock = some g → tag g = c j
section
variable {tag tag' : Nat → Nat} {w w' : World} {t : Nat} {c : Nat → Nat} {ov : Value} {m : Nat} {vs : List Value} {rows rows' : Nat → List Int} {X : Nat → Prop}
theorem Fam.len (h : Fam w tag t c ov m vs rows) : vs.length = m := by have := h.outer.1; omega
theorem Fam.mv (h : Fam w tag t c ov m vs rows) (hs : Sm X tag w w') (ht : ¬ X t) (hc : ∀ j, j < m → ¬ X (c j)) : Fam w' tag t c ov m vs rows := by
  refine ⟨owns_same h.outer fun g hg e => hs.block g hg (by rw [h.otag g e]; exact ht), h.otag, fun j v hj => owns_same (h.inner j v hj) fun g hg e => hs.block g hg ?_, h.itag⟩
  rw [h.itag j v g hj e]
  exact hc j (by have := (List.getElem?_eq_some_iff.1 hj).1; rw [h.len] at this; exact this)
theorem Fam.re (h : Fam w tag t c ov m vs rows) (ht : ∀ g, g < w.heap.size → tag' g = tag g) : Fam w tag' t c ov m vs rows :=
  ⟨h.outer, fun g e => (ht g (owns_lt h.outer e)).trans (h.otag g e), h.inner, fun j v g hj e => (ht g (owns_lt (h.inner j v hj) e)).trans (h.itag j v g hj e)⟩
/-- One row's block may have been turned: that row is shown anew. -/
theorem Fam.mvRow (h : Fam w tag t c ov m vs rows) {i : Nat} (hs : Sm X tag w w') (ht : ¬ X t) (hc : ∀ j, j < m → j ≠ i → ¬ X (c j)) (hi : ∀ v, vs[i]? = some v → w'.ownsRow 0 40 1 v (rows' i).length (cellsI (rows' i))) (hr : ∀ j, j < m → j ≠ i → rows' j = rows j) : Fam w' tag t c ov m vs rows' := by
  refine ⟨owns_same h.outer fun g hg e => hs.block g hg (by rw [h.otag g e]; exact ht), h.otag, fun j v hj => ?_, h.itag⟩
  have hjm : j < m := by have := (List.getElem?_eq_some_iff.1 hj).1; rw [h.len] at this; exact this
  by_cases e : j = i
  · subst e; exact hi v hj
  · rw [hr j hjm e]
    exact owns_same (h.inner j v hj) fun g hg e2 => hs.block g hg (by rw [h.itag j v g hj e2]; exact hc j hjm e)
theorem Fam.congr (h : Fam w tag t c ov m vs rows) (e : ∀ j, j < m → rows' j = rows j) : Fam w tag t c ov m vs rows' := by
  refine ⟨h.outer, h.otag, fun j v hj => ?_, h.itag⟩
  have hjm : j < m := by have := (List.getElem?_eq_some_iff.1 hj).1; rw [h.len] at this; exact this
  rw [e j hjm]; exact h.inner j v hj
/-- One row more. -/
theorem Fam.push (h : Fam w tag t c ov m vs rows) {ov' v : Value} (ho : w.ownsRow 0 22 1 ov' (m + 1) (vs ++ [v])) (hot : ∀ g, ov'.ownBlock = some g → tag g = t) (hi : w.ownsRow 0 40 1 v (rows m).length (cellsI (rows m))) (hit : ∀ g, v.ownBlock = some g → tag g = c m) : Fam w tag t c ov' (m + 1) (vs ++ [v]) rows := by
  have hl := h.len
  have key : ∀ (j : Nat) (u : Value), (vs ++ [v])[j]? = some u → vs[j]? = some u ∨ (j = m ∧ u = v) := fun j u hj => by
    by_cases e : j < vs.length
    · rw [List.getElem?_append_left e] at hj; exact .inl hj
    · have hlt := (List.getElem?_eq_some_iff.1 hj).1
      rw [List.length_append, List.length_singleton] at hlt
      have : j = vs.length := by omega
      subst this
      rw [List.getElem?_append_right (Nat.le_refl _), Nat.sub_self] at hj
      exact .inr ⟨hl, (Option.some.inj hj).symm⟩
  refine ⟨ho, hot, fun j u hj => ?_, fun j u g hj hg => ?_⟩
  · rcases key j u hj with h1 | ⟨rfl, rfl⟩
    · exact h.inner j u h1
    · exact hi
  · rcases key j u hj with h1 | ⟨rfl, rfl⟩
    · exact h.itag j u g h1 hg
    · exact hit g hg
end
section
variable {tag tag' : Nat → Nat} {w w' : World} {t : Nat} {c : Nat → Nat} {ov : Value} {m : Nat} {vs : List Value} {rows : Nat → List Int}
theorem Fam.out (h : Fam w tag t c ov m vs rows) (hs : Sm (· = t) tag w w') (ho : w'.ownsRow 0 22 1 ov m vs) (hc : ∀ j, j < m → c j ≠ t) : Fam w' tag t c ov m vs rows := by
  refine ⟨ho, h.otag, fun j v hj => owns_same (h.inner j v hj) fun g hg e => hs.block g hg ?_, h.itag⟩
  rw [h.itag j v g hj e]
  exact hc j (by have := (List.getElem?_eq_some_iff.1 hj).1; rw [h.len] at this; exact this)
theorem Fam.tags (h : Fam w tag t c ov m vs rows) (ht : ∀ g, tag g ≠ 0 → tag' g = tag g) (h0 : t ≠ 0) (hc : ∀ j, c j ≠ 0) : Fam w tag' t c ov m vs rows :=
  ⟨h.outer, fun g e => (ht g (by rw [h.otag g e]; exact h0)).trans (h.otag g e), h.inner, fun j v g hj e => (ht g (by rw [h.itag j v g hj e]; exact hc j)).trans (h.itag j v g hj e)⟩
end
/-- append([]int{}, l...): a copy in new memory. -/
theorem wp_copyZ {o : Oper} {a : Act} {K : Act → World → Prop} {Q : Exit → Act → World → Prop} (W : World) (s x : Operand) (H : Nat) (v : Value) (l : List Int)
    (ho : o.op = .call { callee := .builtin .append, args := #[s, x], argTypes := #[22, 22] }) (hs : a.eval s = .slice (some ⟨H, 0, none⟩) 0 0)
    (hH : W.ownsRow H 40 1 (.slice (some ⟨H, 0, none⟩) 0 0) 0 []) (hx : a.eval x = v) (hv : RowI W v l) (hl : l.length ≤ 1000000)
    (h : ∀ u w', w'.ownsRow H 40 1 u l.length (cellsI l) → W.grownBy w' (some H) → K (a.put o.dst u) w') : o.wp Tryd.prog a W K Q := by
  obtain ⟨i0, hi, hz0, hz1, hz2⟩ := info_parts infoI
  obtain ⟨oa, cap, rfl, hcap, hc⟩ := hv
  have hHs : H ≤ W.heap.size := Nat.le_of_lt (hH.lt H rfl).2
  cases oa with
  | none =>
    have hc0 := hcap.2 rfl
    have hl0 : l.length = 0 := by have := hcap.1; omega
    have hn : l = [] := List.eq_nil_of_length_eq_zero hl0
    subst hn
    subst hc0
    have hrun := run_append_owned_none (P := Tryd.prog) (w := W) H 22 o.type 40 i0 1 Tryd.underlying22 hi _ 0 [] hH
    unfold Oper.wp
    simp only [execOp, ho, resolve, invoke, builtin, hs, hx, Sem.run_bind, Sem.run_pure, Result.andThen_ok, List.map_toArray, List.map_cons, List.map_nil, List.length_nil, hrun]
    exact h _ _ hH ⟨rfl, rfl, rfl, Nat.le_refl _, fun _ _ _ => rfl⟩
  | some ad =>
    have hnews : ∀ j u, (cellsI l)[j]? = some u → W.cell? (ad.add j) = some u := fun j u hu => by
      obtain ⟨z, hz, rfl⟩ := cellsI_at hu
      obtain ⟨g, o, e, hcell⟩ := hc j z hz
      cases e
      rw [Addr.add_lit]; exact hcell
    obtain ⟨v', w', hr, h2, h3, _, _⟩ := run_append_own_at (P := Tryd.prog) W H 22 o.type 40 i0 (.int .u64 0) 1 8 Tryd.underlying22 hi hz0 hz1 hz2 rfl (by decide) _ 0 [] hH ad l.length cap (cellsI l) (by simp [cellsI]) hnews (one_cells _) (by unfold maxLen; omega) (by omega) hHs
    unfold Oper.wp
    simp only [execOp, ho, resolve, invoke, builtin, hs, hx, Sem.run_bind, Sem.run_pure, Result.andThen_ok, List.map_toArray, List.map_cons, List.map_nil, hr]
    rw [Nat.zero_add] at h2
    exact h _ _ h2 h3
theorem cell_in {w : World} {b : Nat} {e : TypeId} {g n cap : Nat} {l : List Int} (h : w.ownsRow b e 1 (.slice (some ⟨g, 0, none⟩) n cap) n (cellsI l)) {j : Nat} {z : Int} (hz : l[j]? = some z) : w.cell? ⟨g, j, none⟩ = some (.int .u64 z) := by
  have hl : n = l.length := by have := h.1; rw [cellsI_len] at this; omega
  have hj : j < n * 1 := by have := (List.getElem?_eq_some_iff.1 hz).1; omega
  rw [h.cellAt j hj]
  simp [cellsI, hz]
theorem Fam.store {w : World} {tag : Nat → Nat} {ov : Value} {m : Nat} {vs : List Value} {rows rows' : Nat → List Int} (h : Fam w tag 2 cL ov m vs rows) {i k g nn cap : Nat} {z : Int} (hv : vs[i]? = some (.slice (some ⟨g, 0, none⟩) nn cap)) (hr : rows' i = (rows i).set k z) (hr' : ∀ j, j < m → j ≠ i → rows' j = rows j) :
    Fam (w.setCell ⟨g, k, none⟩ (.int .u64 z)) tag 2 cL ov m vs rows' := by
  have s : Sm (· = cL i) tag w (w.setCell ⟨g, k, none⟩ (.int .u64 z)) := Sm.setCell _ (h.itag i _ g hv rfl)
  refine h.mvRow (i := i) s (by unfold cL; omega) (fun j _ hj => by unfold cL; omega) (fun v hv' => ?_) hr'
  rw [hv] at hv'
  cases hv'
  have hin := h.inner i _ hv
  obtain ⟨oa, cu, e⟩ := own_shape hin
  injection e with _ e2 _
  rw [← e2] at hin
  have h2 := (hin.stored k (.int .u64 z)).1
  rw [hr, List.length_set, ← e2]
  have e3 : cellsI ((rows i).set k z) = (cellsI (rows i)).set k (.int .u64 z) := by unfold cellsI; rw [List.map_set]
  rw [e3]; exact h2
end Go.Proofs.YtmoiedlchcceaaaDoor.KU
namespace Go.Proofs.YtmoiedlchcceaaaDoor.KU
open Go.RowKit
open Go.Proofs.YtmoiedlchcceaaaDoor.K
/-- The loan's own fields. -/
def BoxN (w : World) (p : Nat) (ov ow : Value) : Prop := w.heap[p]? = some (.cells #[.slice none 0 0, .slice none 0 0, ov, ow] 32 (0, 0))
section
variable {w w' : World} {p : Nat} {ov ow : Value} {X : Nat → Prop} {tag tag' : Nat → Nat}
theorem BoxN.lt (h : BoxN w p ov ow) : p < w.heap.size := (Array.getElem?_eq_some_iff.1 h).1
theorem BoxN.mv (h : BoxN w p ov ow) (hs : Sm X tag w w') (hx : ¬ X (tag p)) : BoxN w' p ov ow := (hs.block p h.lt hx).trans h
theorem BoxN.below (h : BoxN w p ov ow) (hb : Below w.heap.size w w') : BoxN w' p ov ow := (hb.block p h.lt).trans h
theorem BoxN.fz (h : BoxN w p ov ow) (k : Nat) : w.frozen? ⟨p, k, none⟩ = false := frozen_of_row w p k _ _ h
theorem BoxN.c2 (h : BoxN w p ov ow) : w.cell? ⟨p, 2, none⟩ = some ov := by unfold BoxN at h; simp [World.cell?, h]
theorem BoxN.c3 (h : BoxN w p ov ow) : w.cell? ⟨p, 3, none⟩ = some ow := by unfold BoxN at h; simp [World.cell?, h]
theorem BoxN.c0 (h : BoxN w p ov ow) : w.cell? ⟨p, 0, none⟩ = some (.slice none 0 0) := by unfold BoxN at h; simp [World.cell?, h]
theorem BoxN.c1 (h : BoxN w p ov ow) : w.cell? ⟨p, 1, none⟩ = some (.slice none 0 0) := by unfold BoxN at h; simp [World.cell?, h]
theorem BoxN.s2 (h : BoxN w p ov ow) (u : Value) : BoxN (w.setCell ⟨p, 2, none⟩ u) p u ow := by
  have := heap_setCell_same w p 2 _ _ u h; simpa [BoxN] using this
theorem BoxN.s3 (h : BoxN w p ov ow) (u : Value) : BoxN (w.setCell ⟨p, 3, none⟩ u) p ov u := by
  have := heap_setCell_same w p 3 _ _ u h; simpa [BoxN] using this
end
/-- What the loan holds: ml lists, mw copies of them. -/
structure LN (w : World) (p : Nat) (tag : Nat → Nat) (ov ow : Value) (ml mw : Nat) (vs us : List Value) (rows : Nat → List Int) : Prop where
  box : BoxN w p ov ow
  bt : tag p = 1
  live : Fam w tag 2 (fun j => 10 + 2 * j) ov ml vs rows
  want : Fam w tag 3 (fun j => 11 + 2 * j) ow mw us rows
  fresh : ∀ g, w.heap.size ≤ g → tag g = 0
  hrow : ∀ j, j < ml → (rows j).length ≤ 1000000
def Loan (w : World) (p : Nat) (tag : Nat → Nat) (m : Nat) : Prop := ∃ ov ow vs us rows, LN w p tag ov ow m m vs us rows
section
variable {w : World} {p : Nat} {tag : Nat → Nat} {ov ow : Value} {m : Nat} {vs us : List Value} {rows : Nat → List Int}
theorem LN.below {w' : World} {ml mw : Nat} (h : LN w p tag ov ow ml mw vs us rows) (hb : Below w.heap.size w w') : LN w' p tag ov ow ml mw vs us rows :=
  ⟨h.box.below hb, h.bt, h.live.mv (Sm.below (X := fun _ => False) hb) (fun h => h) (fun _ _ h => h), h.want.mv (Sm.below (X := fun _ => False) hb) (fun h => h) (fun _ _ h => h), fun g hg => h.fresh g (Nat.le_trans hb.size hg), h.hrow⟩
/-- Kept by whatever leaves its blocks alone. -/
theorem LN.mv {w' : World} {ml mw : Nat} (h : LN w p tag ov ow ml mw vs us rows) (hs : Sm (· = 0) tag w w') : LN w' p tag ov ow ml mw vs us rows :=
  ⟨h.box.mv hs (by rw [h.bt]; decide), h.bt, h.live.mv hs (by decide) (fun j _ => by omega), h.want.mv hs (by decide) (fun j _ => by omega), fun g hg => h.fresh g (Nat.le_trans hs.size hg), h.hrow⟩
theorem stageL {w4 w5 : World} {u : Value} {l : List Int} {g5 cap5 : Nat} {o5 : Obj} (hk : LN w p tag ov ow m m vs us rows) (hB : Below w.heap.size w w4) (hl : l.length ≤ 1000000)
    (hu : w4.ownsRow w.heap.size 40 1 u l.length (cellsI l))
    (hnew : w5.ownsRow 0 22 1 (.slice (some ⟨g5, 0, none⟩) (m + 1) cap5) (m + 1) (vs ++ [u])) (hold : w5.ownsRow 0 22 1 ov m vs)
    (hat : (ov = .slice (some ⟨g5, 0, none⟩) m cap5 ∧ (w4.alloc o5).grownBy w5 (some g5)) ∨ (g5 = (w4.alloc o5).heap.size ∧ (w4.alloc o5).grownBy w5 none)) :
    ∃ tag' rows', rows' m = l ∧ LN (w5.setCell ⟨p, 2, none⟩ (.slice (some ⟨g5, 0, none⟩) (m + 1) cap5)) p tag' (.slice (some ⟨g5, 0, none⟩) (m + 1) cap5) ow (m + 1) m (vs ++ [u]) us rows' ∧ FrL tag w tag' (w5.setCell ⟨p, 2, none⟩ (.slice (some ⟨g5, 0, none⟩) (m + 1) cap5)) ∧ (∀ g, u.ownBlock = some g → tag' g = 10 + 2 * m) ∧ (w5.setCell ⟨p, 2, none⟩ (.slice (some ⟨g5, 0, none⟩) (m + 1) cap5)).ownsRow 0 40 1 u l.length (cellsI l) := by
  generalize hW : w4.alloc o5 = W at hat
  have hz : W.heap.size = w4.heap.size + 1 := by rw [← hW]; simp
  have hBs := hB.size
  have S2 : ∀ X, Sm X tag w W := fun X => by rw [← hW]; exact (Sm.below hB).trans (Sm.alloc o5) (fun _ _ => rfl)
  have hul : ∀ g, u.ownBlock = some g → w.heap.size ≤ g ∧ g < w4.heap.size := fun g e => hu.lt g e
  have hg5 : tag g5 = 2 ∨ w4.heap.size < g5 := by
    rcases hat with ⟨e, hg⟩ | ⟨e, hg⟩
    · exact .inl (hk.live.otag g5 (by rw [e]; rfl))
    · exact .inr (by omega)
  have hg5lt : g5 < w5.heap.size := owns_lt hnew rfl
  have huW : W.ownsRow 0 40 1 u l.length (cellsI l) := by rw [← hW]; exact (owns_lowN hu (Nat.zero_le _)).alloc o5
  have S3 : Sm (· = 2) tag W w5 := by
    rcases hat with ⟨e, hg⟩ | ⟨_, hg⟩
    · exact Sm.grown hg fun g eg => by cases eg; exact hk.live.otag g5 (by rw [e]; rfl)
    · exact Sm.grown hg fun g eg => by cases eg
  have hu5 : w5.ownsRow 0 40 1 u l.length (cellsI l) := owns_same huW fun g hg e => S3.block g hg (by show ¬ tag g = 2; rw [hk.fresh g (hul g e).1]; decide)
  have b1 : BoxN W p ov ow := hk.box.mv (S2 (fun _ => False)) (fun h => h)
  have b2 := (b1.mv S3 (by rw [hk.bt]; decide)).s2 (.slice (some ⟨g5, 0, none⟩) (m + 1) cap5)
  let tag' : Nat → Nat := fun g => if u.ownBlock = some g then 10 + 2 * m else if g = g5 then 2 else tag g
  have ht : ∀ g, tag g ≠ 0 → tag' g = tag g := fun g h => by
    show (if u.ownBlock = some g then 10 + 2 * m else if g = g5 then 2 else tag g) = tag g
    rw [if_neg (fun e => h (hk.fresh g (hul g e).1))]
    by_cases e : g = g5
    · subst e
      rw [if_pos rfl]
      rcases hg5 with h2 | h2
      · exact h2.symm
      · exact absurd (hk.fresh g (by omega)) h
    · rw [if_neg e]
  have hbt' : tag' p = 1 := (ht p (by rw [hk.bt]; decide)).trans hk.bt
  have hv2t : tag' g5 = 2 := by
    show (if u.ownBlock = some g5 then 10 + 2 * m else if g5 = g5 then 2 else tag g5) = 2
    rw [if_neg (fun e => ?_), if_pos rfl]
    rcases hg5 with h2 | h2
    · rw [hk.fresh g5 (hul g5 e).1] at h2; cases h2
    · have := (hul g5 e).2; omega
  let rows' : Nat → List Int := fun j => if j = m then l else rows j
  have hr' : ∀ j, j < m → rows' j = rows j := fun j hj => if_neg (by omega)
  have hrm : rows' m = l := if_pos rfl
  have L2 : Fam w5 tag' 2 (fun j => 10 + 2 * j) ov m vs rows' :=
    (((hk.live.mv (S2 (fun _ => False)) (fun h => h) (fun _ _ h => h)).out S3 hold (fun j _ => by omega)).tags ht (by decide) (fun j => by omega)).congr hr'
  have L3 := L2.push hnew (fun g e => by cases e; exact hv2t) (by rw [hrm]; exact hu5) (fun g e => if_pos e)
  have U2 : Fam w5 tag' 3 (fun j => 11 + 2 * j) ow m us rows' :=
    (((hk.want.mv (S2 (fun _ => False)) (fun h => h) (fun _ _ h => h)).mv S3 (by decide) (fun j _ => by omega)).tags ht (by decide) (fun j => by omega)).congr hr'
  have S4 : Sm (· = 1) tag' w5 (w5.setCell ⟨p, 2, none⟩ (.slice (some ⟨g5, 0, none⟩) (m + 1) cap5)) := Sm.setCell _ hbt'
  have e00 : ∀ g, g < w.heap.size → tag' g = tag g := fun g hg => by
    show (if u.ownBlock = some g then 10 + 2 * m else if g = g5 then 2 else tag g) = tag g
    rw [if_neg (fun e => by have := (hul g e).1; omega)]
    by_cases e : g = g5
    · subst e
      rw [if_pos rfl]
      rcases hg5 with h2 | h2
      · exact h2.symm
      · omega
    · rw [if_neg e]
  refine ⟨tag', rows', hrm, ⟨b2, hbt', L3.mv S4 (by decide) (fun j _ => by omega), U2.mv S4 (by decide) (fun j _ => by omega), fun g hg => ?_, fun j hj => ?_⟩, ⟨?_, ?_, ?_, ?_, e00, fun g hg h1 h2 h3 => ?_⟩, fun g e => if_pos e, ?_⟩
  · rw [size_setN] at hg
    have h3 := S3.size
    show (if u.ownBlock = some g then 10 + 2 * m else if g = g5 then 2 else tag g) = 0
    rw [if_neg (fun e => by have := (hul g e).2; omega), if_neg (by omega)]
    exact hk.fresh g (by omega)
  · by_cases e : j = m
    · subst e; rw [hrm]; exact hl
    · rw [hr' j (by omega)]; exact hk.hrow j (by omega)
  · rw [S4.os, S3.os, (S2 (fun _ => False)).os]
  · rw [S4.tape, S3.tape, (S2 (fun _ => False)).tape]
  · rw [S4.output, S3.output, (S2 (fun _ => False)).output]
  · have h2 := S3.size; have h3 := S4.size; omega
  · rw [S4.block g (by have := S3.size; omega) (by rw [e00 g hg]; exact h1), S3.block g (by omega) h2, (S2 (fun _ => False)).block g hg (fun h => h)]
  · refine owns_same hu5 fun g hg e => S4.block g hg ?_
    show ¬ tag' g = 1
    have : tag' g = 10 + 2 * m := if_pos e
    omega
theorem stageW {w4 w5 : World} {u : Value} {g5 cap5 : Nat} {o5 : Obj} (hk : LN w p tag ov ow (m + 1) m vs us rows) (hB : Below w.heap.size w w4)
    (hu : w4.ownsRow w.heap.size 40 1 u (rows m).length (cellsI (rows m)))
    (hnew : w5.ownsRow 0 22 1 (.slice (some ⟨g5, 0, none⟩) (m + 1) cap5) (m + 1) (us ++ [u])) (hold : w5.ownsRow 0 22 1 ow m us)
    (hat : (ow = .slice (some ⟨g5, 0, none⟩) m cap5 ∧ (w4.alloc o5).grownBy w5 (some g5)) ∨ (g5 = (w4.alloc o5).heap.size ∧ (w4.alloc o5).grownBy w5 none)) :
    ∃ tag', LN (w5.setCell ⟨p, 3, none⟩ (.slice (some ⟨g5, 0, none⟩) (m + 1) cap5)) p tag' ov (.slice (some ⟨g5, 0, none⟩) (m + 1) cap5) (m + 1) (m + 1) vs (us ++ [u]) rows ∧ FrL tag w tag' (w5.setCell ⟨p, 3, none⟩ (.slice (some ⟨g5, 0, none⟩) (m + 1) cap5)) := by
  generalize hW : w4.alloc o5 = W at hat
  have hz : W.heap.size = w4.heap.size + 1 := by rw [← hW]; simp
  have hBs := hB.size
  have S2 : ∀ X, Sm X tag w W := fun X => by rw [← hW]; exact (Sm.below hB).trans (Sm.alloc o5) (fun _ _ => rfl)
  have hul : ∀ g, u.ownBlock = some g → w.heap.size ≤ g ∧ g < w4.heap.size := fun g e => hu.lt g e
  have hg5 : tag g5 = 3 ∨ w4.heap.size < g5 := by
    rcases hat with ⟨e, hg⟩ | ⟨e, hg⟩
    · exact .inl (hk.want.otag g5 (by rw [e]; rfl))
    · exact .inr (by omega)
  have hg5lt : g5 < w5.heap.size := owns_lt hnew rfl
  have huW : W.ownsRow 0 40 1 u (rows m).length (cellsI (rows m)) := by rw [← hW]; exact (owns_lowN hu (Nat.zero_le _)).alloc o5
  have S3 : Sm (· = 3) tag W w5 := by
    rcases hat with ⟨e, hg⟩ | ⟨_, hg⟩
    · exact Sm.grown hg fun g eg => by cases eg; exact hk.want.otag g5 (by rw [e]; rfl)
    · exact Sm.grown hg fun g eg => by cases eg
  have hu5 : w5.ownsRow 0 40 1 u (rows m).length (cellsI (rows m)) := owns_same huW fun g hg e => S3.block g hg (by show ¬ tag g = 3; rw [hk.fresh g (hul g e).1]; decide)
  have b1 : BoxN W p ov ow := hk.box.mv (S2 (fun _ => False)) (fun h => h)
  have b2 := (b1.mv S3 (by rw [hk.bt]; decide)).s3 (.slice (some ⟨g5, 0, none⟩) (m + 1) cap5)
  let tag' : Nat → Nat := fun g => if u.ownBlock = some g then 11 + 2 * m else if g = g5 then 3 else tag g
  have ht : ∀ g, tag g ≠ 0 → tag' g = tag g := fun g h => by
    show (if u.ownBlock = some g then 11 + 2 * m else if g = g5 then 3 else tag g) = tag g
    rw [if_neg (fun e => h (hk.fresh g (hul g e).1))]
    by_cases e : g = g5
    · subst e
      rw [if_pos rfl]
      rcases hg5 with h2 | h2
      · exact h2.symm
      · exact absurd (hk.fresh g (by omega)) h
    · rw [if_neg e]
  have hbt' : tag' p = 1 := (ht p (by rw [hk.bt]; decide)).trans hk.bt
  have hv2t : tag' g5 = 3 := by
    show (if u.ownBlock = some g5 then 11 + 2 * m else if g5 = g5 then 3 else tag g5) = 3
    rw [if_neg (fun e => ?_), if_pos rfl]
    rcases hg5 with h2 | h2
    · rw [hk.fresh g5 (hul g5 e).1] at h2; cases h2
    · have := (hul g5 e).2; omega
  have U2 : Fam w5 tag' 3 (fun j => 11 + 2 * j) ow m us rows :=
    ((hk.want.mv (S2 (fun _ => False)) (fun h => h) (fun _ _ h => h)).out S3 hold (fun j _ => by omega)).tags ht (by decide) (fun j => by omega)
  have U3 := U2.push hnew (fun g e => by cases e; exact hv2t) hu5 (fun g e => if_pos e)
  have L2 : Fam w5 tag' 2 (fun j => 10 + 2 * j) ov (m + 1) vs rows :=
    ((hk.live.mv (S2 (fun _ => False)) (fun h => h) (fun _ _ h => h)).mv S3 (by decide) (fun j _ => by omega)).tags ht (by decide) (fun j => by omega)
  have S4 : Sm (· = 1) tag' w5 (w5.setCell ⟨p, 3, none⟩ (.slice (some ⟨g5, 0, none⟩) (m + 1) cap5)) := Sm.setCell _ hbt'
  have e00 : ∀ g, g < w.heap.size → tag' g = tag g := fun g hg => by
    show (if u.ownBlock = some g then 11 + 2 * m else if g = g5 then 3 else tag g) = tag g
    rw [if_neg (fun e => by have := (hul g e).1; omega)]
    by_cases e : g = g5
    · subst e
      rw [if_pos rfl]
      rcases hg5 with h2 | h2
      · exact h2.symm
      · omega
    · rw [if_neg e]
  refine ⟨tag', ⟨b2, hbt', L2.mv S4 (by decide) (fun j _ => by omega), U3.mv S4 (by decide) (fun j _ => by omega), fun g hg => ?_, hk.hrow⟩, ⟨?_, ?_, ?_, ?_, e00, fun g hg h1 h2 h3 => ?_⟩⟩
  · rw [size_setN] at hg
    have h3 := S3.size
    show (if u.ownBlock = some g then 11 + 2 * m else if g = g5 then 3 else tag g) = 0
    rw [if_neg (fun e => by have := (hul g e).2; omega), if_neg (by omega)]
    exact hk.fresh g (by omega)
  · rw [S4.os, S3.os, (S2 (fun _ => False)).os]
  · rw [S4.tape, S3.tape, (S2 (fun _ => False)).tape]
  · rw [S4.output, S3.output, (S2 (fun _ => False)).output]
  · have h2 := S3.size; have h3 := S4.size; omega
  · rw [S4.block g (by have := S3.size; omega) (by rw [e00 g hg]; exact h1), S3.block g (by omega) h3, (S2 (fun _ => False)).block g hg (fun h => h)]
end
end Go.Proofs.YtmoiedlchcceaaaDoor.KU

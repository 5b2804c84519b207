/- The document's Levels. -/
import Derived.Test.YtjimiabfgmchiaaDoorJ23
import Derived.Test.YtjimiabfgmchiaaDoorJ28
import Derived.Test.YtjimiabfgmchiaaDoorJ31
import Derived.Test.YtjimiabfgmchiaaDoorJ32
import Derived.Test.YtjimiabfgmchiaaDoorJ37
import Derived.Test.YtjimiabfgmchiaaDoorVOnes
import Derived.Test.YtjimiabfgmchiaaDoorJ43
import Derived.Test.YtjimiabfgmchiaaDoorVLevM
import Derived.Deep.QuietTactic
import Derived.BigQuiet
import Derived.Deep.RegionHeld3
namespace Go.Proofs.YtjimiabfgmchiaaDoor
open Go.RowKit Go.Shelf
def cellsK (k : Nat → Nat) (n : Nat) : List Value := (List.range n).map fun i => Value.int .i64 (k i : Int)
theorem cellsK_at (k : Nat → Nat) {n i : Nat} (hi : i < n) : (cellsK k n)[i]? = some (.int .i64 (k i : Int)) := by
  simp [cellsK, hi]
theorem cellsK_len (k : Nat → Nat) (n : Nat) : (cellsK k n).length = n := by simp [cellsK]
theorem cellsK_set (k : Nat → Nat) (n y v : Nat) : (cellsK k n).set y (.int .i64 (v : Int)) = cellsK (putH k y v) n := by
  apply List.ext_getElem?
  intro i
  rw [List.getElem?_set, cellsK_len]
  by_cases hi : i < n
  · rw [cellsK_at (putH k y v) hi, cellsK_at k hi]
    by_cases e : y = i
    · subst e
      rw [if_pos rfl, if_pos hi]
      unfold putH
      rw [if_pos rfl]
    · rw [if_neg e]
      unfold putH
      rw [if_neg (fun x => e x.symm)]
  · have h1 : (cellsK k n)[i]? = none := by rw [List.getElem?_eq_none_iff, cellsK_len]; omega
    have h2 : (cellsK (putH k y v) n)[i]? = none := by rw [List.getElem?_eq_none_iff, cellsK_len]; omega
    rw [h1, h2]
    by_cases e : y = i
    · subst e; rw [if_pos rfl, if_neg hi]
    · rw [if_neg e]
theorem cellsK_zero (n : Nat) : cellsK (fun _ => 0) n = List.replicate n (.int .i64 0) := by
  apply List.ext_getElem?
  intro i
  by_cases hi : i < n
  · rw [cellsK_at _ hi, List.getElem?_replicate, if_pos hi]; rfl
  · rw [List.getElem?_eq_none (by rw [cellsK_len]; omega), List.getElem?_eq_none (by simp; omega)]
section
variable {w0 : World} {go m : Nat} {R : Nat → Nat → Bool} {ov : Value} {gr : Nat → Nat} {w : World} {Pf Sf : Nat → Nat}
/-- What heights holds. -/
def HtS (m : Nat) (R : Nat → Nat → Bool) (H : Nat → Nat) (w : World) (r x y : Nat) (W : World) : Prop := Below w.heap.size w W ∧ ∃ k, W.ownsRow w.heap.size 3 1 (.slice (some ⟨w.heap.size, 0, none⟩) m m) m (cellsK k m) ∧ Hx m R H k r x y
theorem HtS.row {H : Nat → Nat} {r x : Nat} {W : World} (h : HtS m R H w r x m W) : HtS m R H w r (x + 1) 0 W := by
  obtain ⟨h1, k, h2, h3⟩ := h
  exact ⟨h1, k, h2, h3.row⟩
theorem HtS.drewN {H : Nat → Nat} {r x y : Nat} {W : World} (h : HtS m R H w r x y W) (q : Nat) : HtS m R H w r x y (W.drewN q) := by
  obtain ⟨h1, k, h2, h3⟩ := h
  refine ⟨below_drewV h1 q, k, ?_, h3⟩
  induction q with
  | zero => exact h2
  | succ q iq => exact iq.drew
set_option maxRecDepth 100000 in
set_option maxHeartbeats 1000000 in
theorem refHeights (hM : Mat w0 go m m R ov gr w) (hm : m ≤ 64) (H : Nat → Nat) (hup : ∀ x y, x < m → y < m → R x y = true → H x + 1 ≤ H y) (hfrom : ∀ y r, y < m → H y = r + 1 → ∃ x, x < m ∧ R x y = true ∧ H x = r) (hlt : ∀ a, a < m → H a < m) :
    Calls Tryd.prog 46 #[.pointer (some ⟨go, 0, none⟩)] w fun e w' => ∃ oa cap, e = .returned (.slice oa m cap) ∧ Hid (w'.ownsRow w.heap.size 3 1 (.slice oa m cap) m (cellsK H m)) ∧ Below w.heap.size w w' := by
  obtain ⟨i0, hi, hz0, hz1, hz2⟩ := info_parts infoIV
  have c0 := hM.c0
  have hup' := hide' hup
  have hfrom' := hide' hfrom
  have hlt' := hide' hlt
  have cN : Hid (∀ W, Below w.heap.size w W → W.cell? ⟨go, 0, none⟩ = some (.int .i64 (m : Int))) := fun W hW => (hM.over hW).c0
  have cR : Hid (∀ W x y, Below w.heap.size w W → x < m → y < m → ∃ gt cap, W.cell? ⟨go, 1, none⟩ = some (.slice (some ⟨gt, 0, none⟩) m cap) ∧ W.cell? ⟨gt, x, none⟩ = some (.slice (some ⟨gr x, 0, none⟩) m m) ∧ W.cell? ⟨gr x, y, none⟩ = some (.bool (R x y))) := fun W x y hW hx hy => by
    have hM' := hM.over hW
    obtain ⟨gt, cap, e⟩ := hM'.shape (by omega)
    exact ⟨gt, cap, by rw [hM'.c1, e], hM'.row e hx, hM'.at hx hy⟩
  clear hM hup hfrom hlt
  go_enter Tryd.func46, Tryd.ntmps46
  go_wp2_with (at_make; refine wpList_make_full _ rfl _ _ 24 rfl w.heap.size 3 i0 (.int .i64 0) 1 Tryd.underlying24 hi hz0 hz1 .i64 .i64 _ _ m rfl rfl rfl rfl (by rw [hz2]; omega) (by unfold maxLen; omega) (by simp) ?_; intro w2 hrow hgrow)
  have hI0 : Hid (HtS m R H w 0 0 0 w2) := by
    refine ⟨(Below.refl _ w).grown hgrow (Nat.le_refl _) (fun j ej => by cases ej), fun _ => 0, ?_, Hx.start H⟩
    have h := hrow
    rw [show (Value.int .i64 0).cells = #[.int .i64 0] from rfl, toList_madeCells_one, Nat.mul_one] at h
    rw [cellsK_zero]
    exact h
  clear hrow hgrow c0
  go_wp2
  go_loopw [4, 5, 6] (fun pr _ _ wr => ∃ r : Nat, r ≤ m ∧ pr = .int .i64 r ∧ Hid (HtS m R H w r 0 0 wr)) (fun pr _ _ _ => ((m : Int) - intOf pr).toNat)
  case atStart => exact ⟨0, Nat.zero_le _, rfl, hI0⟩
  case round =>
    clear hI0
    obtain ⟨r, hr, rfl, hI⟩ := hrel
    have c0 := cN.out _ hI.out.1
    by_cases hlr : r < m
    · have hlr' : (r : Int) < (m : Int) := by omega
      go_wp2
      go_loopw [5, 6] (fun px _ wr => ∃ x : Nat, x ≤ m ∧ px = .int .i64 x ∧ Hid (HtS m R H w r x 0 wr)) (fun px _ _ => ((m : Int) - intOf px).toNat)
      case atStart => exact ⟨0, Nat.zero_le _, rfl, hI⟩
      case round =>
        clear hI c0
        obtain ⟨x, hx, rfl, hI⟩ := hrel
        have c0 := cN.out _ hI.out.1
        by_cases hlx : x < m
        · have hlx' : (x : Int) < (m : Int) := by omega
          go_wp2
          go_loopw [6] (fun py wr => ∃ y : Nat, y ≤ m ∧ py = .int .i64 y ∧ Hid (HtS m R H w r x y wr)) (fun py _ => ((m : Int) - intOf py).toNat)
          case atStart => exact ⟨0, Nat.zero_le _, rfl, hI⟩
          case round =>
            clear hI c0
            obtain ⟨y, hy, rfl, hI⟩ := hrel
            have c0 := cN.out _ hI.out.1
            by_cases hly : y < m
            · have hly' : (y : Int) < (m : Int) := by omega
              obtain ⟨gt, cap, d1, d2, d3⟩ := cR.out _ x y hI.out.1 hlx hly
              obtain ⟨hB, k, hrow, hx0⟩ := hI.out
              have kx : wr.cell? ⟨w.heap.size, x, none⟩ = some (.int .i64 (k x : Int)) := by rw [hrow.cellAt x (by omega)]; exact cellsK_at k hlx
              have ky : wr.cell? ⟨w.heap.size, y, none⟩ = some (.int .i64 (k y : Int)) := by rw [hrow.cellAt y (by omega)]; exact cellsK_at k hly
              have fy := hrow.frozenAt y
              have hkx : k x < 64 := by have := hx0.1 x hlx; have := hlt'.out x hlx; omega
              have hky : k y < 64 := by have := hx0.1 y hly; have := hlt'.out y hly; omega
              have hwr : IntKind.i64.wrap ((k x : Int) + 1) = ((k x + 1 : Nat) : Int) := by rw [IntKind.wrap_i64]; omega
              have hkeep : Hid ((R x y = true → ¬ k y < k x + 1) → ∀ q, HtS m R H w r x (y + 1) (wr.drewN q)) := fun hn q => HtS.drewN ⟨hB, k, hrow, hx0.keep hn⟩ q
              have hturn : Hid (R x y = true → k y < k x + 1 → ∀ q, HtS m R H w r x (y + 1) ((wr.drewN q).setCell ⟨w.heap.size, y, none⟩ (.int .i64 ((k x + 1 : Nat) : Int)))) := fun hR hk q => by
                obtain ⟨hBq, k', hq', _⟩ := HtS.drewN (m := m) (R := R) (H := H) (r := r) (x := x) (y := y) ⟨hB, k, hrow, hx0⟩ q
                have hq : (wr.drewN q).ownsRow w.heap.size 3 1 (.slice (some ⟨w.heap.size, 0, none⟩) m m) m (cellsK k m) := by
                  clear hq' hBq
                  induction q with
                  | zero => exact hrow
                  | succ q iq => exact iq.drew
                have hS := (hq.stored y (.int .i64 ((k x + 1 : Nat) : Int))).1
                rw [cellsK_set] at hS
                exact ⟨hBq.setCell (Nat.le_refl _) _, _, hS, hx0.turn hup'.out hlx hly hR hk⟩
              clear hI hB hrow hx0
              generalize hkX : k x = a at *
              generalize hkY : k y = b at *
              clear hkX hkY
              cases hRb : R x y with
              | false =>
                rw [hRb] at d3
                have hQ := hide' (hkeep.out (fun e => by rw [hRb] at e; cases e))
                clear hkeep hturn hRb
                go_wp2
                go_quiet (fail)
                go_wp2
                exact ⟨⟨y + 1, by omega, by go_num, hQ.out _⟩, by simp [intOf]; omega⟩
              | true =>
                rw [hRb] at d3
                by_cases hab : b < a + 1
                · have hab' : (b : Int) < ((a + 1 : Nat) : Int) := by omega
                  have hQ := hide' (hturn.out hRb hab)
                  clear hkeep hturn hRb
                  go_wp2
                  go_quiet (fail)
                  go_wp2
                  exact ⟨⟨y + 1, by omega, by go_num, hQ.out nq⟩, by simp [intOf]; omega⟩
                · have hab' : ¬ (b : Int) < ((a + 1 : Nat) : Int) := by omega
                  have hQ := hide' (hkeep.out (fun _ => hab))
                  clear hkeep hturn hRb
                  go_wp2
                  go_quiet (fail)
                  go_wp2
                  exact ⟨⟨y + 1, by omega, by go_num, hQ.out _⟩, by simp [intOf]; omega⟩
            · obtain rfl : y = m := by omega
              have hI' := hide' hI.out.row
              clear hI
              go_wp2
              exact ⟨⟨x + 1, by omega, by go_num, hI'⟩, by simp [intOf]; omega⟩
        · obtain rfl : x = m := by omega
          have hI' : Hid (HtS x R H w (r + 1) 0 0 wr) := by
            obtain ⟨h1, k, h2, h3⟩ := hI.out
            exact ⟨h1, k, h2, h3.round hfrom'.out⟩
          clear hI
          go_wp2
          exact ⟨⟨r + 1, by omega, by go_num, hI'⟩, by simp [intOf]; omega⟩
    · obtain rfl : r = m := by omega
      have hI' : Hid (wr.ownsRow w.heap.size 3 1 (.slice (some ⟨w.heap.size, 0, none⟩) r r) r (cellsK H r) ∧ Below w.heap.size w wr) := by
        obtain ⟨h1, k, h2, h3⟩ := hI.out
        refine ⟨?_, h1⟩
        have e : cellsK H r = cellsK k r := by
          unfold cellsK
          apply List.map_congr_left
          intro i hi
          rw [h3.done hlt'.out i (List.mem_range.1 hi)]
        rw [e]; exact h2
      clear hI
      go_wp2
      go_ret
      exact ⟨_, _, rfl, hI'.out.1, hI'.out.2⟩
end
end Go.Proofs.YtjimiabfgmchiaaDoor
namespace Go.Proofs.YtjimiabfgmchiaaDoor
open Go.RowKit Go.Shelf
theorem infoLV : (Tryd.prog.info? 24).map (fun i => (i.zero, i.size, i.bytes)) = some (some (.slice none 0 0), 1, 24) := by kernel_rfl
/-- No two of the rows lie in one block. -/
def DjV (vs : List Value) : Prop := ∀ (i j : Nat) (u v : Value) (g : Nat), i < j → vs[i]? = some u → vs[j]? = some v → u.ownBlock = some g → v.ownBlock ≠ some g
theorem DjV.push {vs : List Value} (h : DjV vs) (x : Value) (hx : ∀ v ∈ vs, ∀ g, v.ownBlock = some g → x.ownBlock ≠ some g) : DjV (vs ++ [x]) := by
  intro i j u v g hij hi hj hu
  have hil : i < vs.length := by
    have := (List.getElem?_eq_some_iff.1 hj).1
    simp at this
    omega
  rw [List.getElem?_append_left hil] at hi
  rcases Nat.lt_or_ge j vs.length with hl | hl
  · rw [List.getElem?_append_left hl] at hj
    exact h i j u v g hij hi hj hu
  · rw [List.getElem?_append_right hl] at hj
    have h0 : j - vs.length = 0 := by
      rcases Nat.eq_zero_or_pos (j - vs.length) with e | e
      · exact e
      · rw [List.getElem?_eq_none (by simp; omega)] at hj; cases hj
    rw [h0] at hj
    cases hj
    exact hx u (List.mem_of_getElem? hi) g hu
/-- A row of rows, all of it of one's own. -/
def RV (B : Nat) (W : World) (ov : Value) (L : List (List Nat)) : Prop := ∃ vs, DjV vs ∧ W.ownsRow B 24 1 ov L.length vs ∧ ∀ (i : Nat) (l : List Nat), L[i]? = some l → ∃ u, vs[i]? = some u ∧ W.ownsRow B 3 1 u l.length (cellsN l)
theorem RV.nil (B : Nat) (W : World) : RV B W (.slice none 0 0) [] := ⟨[], fun _ _ _ _ _ _ h => by simp at h, World.ownsRow_nil _ _ _ _, fun i l h => by cases h⟩
theorem owns_belowV {W W' : World} {B : Nat} {e : TypeId} {size : Nat} {v : Value} {n : Nat} {xs : List Value} (h : W.ownsRow B e size v n xs) (hb : Below W.heap.size W W') : W'.ownsRow B e size v n xs := by
  refine ⟨h.1, ?_⟩
  rcases h.2 with hn | ⟨g, cap, cur, rfl, hb0, hgg, rest⟩
  · exact .inl hn
  · exact .inr ⟨g, cap, cur, rfl, hb0, (hb.block g (Array.getElem?_eq_some_iff.1 hgg).1).trans hgg, rest⟩
theorem owns_lowV {W : World} {B B' : Nat} {e : TypeId} {size : Nat} {v : Value} {n : Nat} {xs : List Value} (h : W.ownsRow B e size v n xs) (hB : B' ≤ B) : W.ownsRow B' e size v n xs := by
  refine ⟨h.1, ?_⟩
  rcases h.2 with hn | ⟨g, cap, cur, rfl, hb0, rest⟩
  · exact .inl hn
  · exact .inr ⟨g, cap, cur, rfl, Nat.le_trans hB hb0, rest⟩
theorem RV.low {B B' : Nat} {W : World} {ov : Value} {L : List (List Nat)} (h : RV B W ov L) (hB : B' ≤ B) : RV B' W ov L := by
  obtain ⟨vs, hd, h1, h2⟩ := h
  refine ⟨vs, hd, owns_lowV h1 hB, fun i l hi => ?_⟩
  obtain ⟨u, hu, hr⟩ := h2 i l hi
  exact ⟨u, hu, owns_lowV hr hB⟩
theorem RV.below {B : Nat} {W W' : World} {ov : Value} {L : List (List Nat)} (h : RV B W ov L) (hb : Below W.heap.size W W') : RV B W' ov L := by
  obtain ⟨vs, hd, h1, h2⟩ := h
  refine ⟨vs, hd, owns_belowV h1 hb, fun i l hi => ?_⟩
  obtain ⟨u, hu, hr⟩ := h2 i l hi
  exact ⟨u, hu, owns_belowV hr hb⟩
theorem RV.one {B : Nat} {W W' : World} {ov : Value} {L : List (List Nat)} {b : Option Nat} {t : TypeId} (h : RV B W ov L) (ho : OneB W W' b t) (h1 : 24 ≠ t) (h2 : 3 ≠ t) : RV B W' ov L := by
  obtain ⟨vs, hd, g1, g2⟩ := h
  refine ⟨vs, hd, ho.owns g1 h1, fun i l hi => ?_⟩
  obtain ⟨u, hu, hr⟩ := g2 i l hi
  exact ⟨u, hu, ho.owns hr h2⟩
theorem OneB.grownT {W W' : World} {base n : Nat} {t : TypeId} {v : Value} {xs : List Value} {o : Obj} (ho : W.ownsRow base t 1 v n xs) (hg : (W.alloc o).grownBy W' v.ownBlock) : OneB W W' v.ownBlock t := by
  refine ⟨?_, fun k hk hne => ?_, fun k e => Go.Lib.ownsRow_kind ho k e⟩
  · have := hg.size; simp at this; omega
  · rw [hg.block k (by simp; omega) (fun e => hne e.symm), Below.heap_alloc _ _ _ hk]
theorem RV.shape {B : Nat} {W : World} {ov : Value} {L : List (List Nat)} (h : RV B W ov L) : ∃ oa cap, ov = .slice oa L.length cap := by
  obtain ⟨vs, _, h1, _⟩ := h
  rcases h1.2 with ⟨rfl, h0⟩ | ⟨g, cap, cur, rfl, _⟩
  · exact ⟨none, 0, by rw [h0]⟩
  · exact ⟨_, cap, rfl⟩
/-- One more row laid behind. -/
theorem RV.push {B B' : Nat} {W W' : World} {ov ov' u : Value} {L : List (List Nat)} {l : List Nat} {vs : List Value} {o : Obj} (hd : DjV vs) (hlo : ∀ v ∈ vs, ∀ g, v.ownBlock = some g → g < B') (hhi : ∀ g, u.ownBlock = some g → B' ≤ g) (h1 : W.ownsRow B 24 1 ov L.length vs) (h2 : ∀ (i : Nat) (l : List Nat), L[i]? = some l → ∃ u, vs[i]? = some u ∧ W.ownsRow B 3 1 u l.length (cellsN l)) (hu : W.ownsRow B 3 1 u l.length (cellsN l)) (hown : W'.ownsRow B 24 1 ov' (L.length + 1) (vs ++ [u])) (hg : (W.alloc o).grownBy W' ov.ownBlock) : RV B W' ov' (L ++ [l]) := by
  have ho := OneB.grownT h1 hg
  have hvl : vs.length = L.length := by have := h1.1; omega
  refine ⟨vs ++ [u], hd.push u (fun v hv g e e2 => by have := hlo v hv g e; have := hhi g e2; omega), by rw [List.length_append]; exact hown, fun i l' hi => ?_⟩
  rcases Nat.lt_or_ge i L.length with hlt | hge
  · rw [List.getElem?_append_left hlt] at hi
    obtain ⟨v, hv, hr⟩ := h2 i l' hi
    exact ⟨v, by rw [List.getElem?_append_left (by omega)]; exact hv, ho.owns hr (by decide)⟩
  · rw [List.getElem?_append_right hge] at hi
    have h0 : i - L.length = 0 := by
      rcases Nat.eq_zero_or_pos (i - L.length) with e | e
      · exact e
      · rw [List.getElem?_eq_none (by simp; omega)] at hi; cases hi
    rw [h0] at hi
    cases hi
    refine ⟨u, ?_, ho.owns hu (by decide)⟩
    rw [List.getElem?_append_right (by omega), hvl, h0]; rfl
theorem rows_below {B : Nat} {W W' : World} {L : List (List Nat)} {vs : List Value} (h2 : ∀ (i : Nat) (l : List Nat), L[i]? = some l → ∃ u, vs[i]? = some u ∧ W.ownsRow B 3 1 u l.length (cellsN l)) (hb : Below W.heap.size W W') : ∀ (i : Nat) (l : List Nat), L[i]? = some l → ∃ u, vs[i]? = some u ∧ W'.ownsRow B 3 1 u l.length (cellsN l) := fun i l hi => by
  obtain ⟨u, hu, hr⟩ := h2 i l hi
  exact ⟨u, hu, owns_belowV hr hb⟩
/-- The rows' blocks are there. -/
theorem rows_lt {B : Nat} {W : World} {ov : Value} {L : List (List Nat)} {vs : List Value} (h1 : W.ownsRow B 24 1 ov L.length vs) (h2 : ∀ (i : Nat) (l : List Nat), L[i]? = some l → ∃ u, vs[i]? = some u ∧ W.ownsRow B 3 1 u l.length (cellsN l)) : ∀ v ∈ vs, ∀ g, v.ownBlock = some g → g < W.heap.size ∧ B ≤ g := fun v hv g e => by
  obtain ⟨i, hi⟩ := List.getElem?_of_mem hv
  have hil := (List.getElem?_eq_some_iff.1 hi).1
  have hvl : vs.length = L.length := by have := h1.1; omega
  obtain ⟨l, hl⟩ : ∃ l, L[i]? = some l := ⟨_, List.getElem?_eq_getElem (by omega)⟩
  obtain ⟨u, hu, hr⟩ := h2 i l hl
  rw [hi] at hu
  cases hu
  have := hr.lt g e
  exact ⟨this.2, this.1⟩
theorem own_geV {w : World} {B : Nat} {e : TypeId} {size : Nat} {v : Value} {n : Nat} {xs : List Value} (h : w.ownsRow B e size v n xs) : ∀ j, v.ownBlock = some j → B ≤ j := fun j ej => by
  rcases h.2 with ⟨rfl, _⟩ | ⟨g, cap, cur, rfl, hb, _⟩
  · cases ej
  · cases ej; exact hb
end Go.Proofs.YtjimiabfgmchiaaDoor
namespace Go.Proofs.YtjimiabfgmchiaaDoor
open Go.RowKit Go.Shelf
attribute [local go_sem] Oper.semAt_some
def intsOf (l : List (Fin 64)) : List Value := l.map fun k => Value.int .i64 (k.val : Int)
theorem info3 : (Tryd.prog.info? 3).map (fun i => (i.zero, i.size, i.bytes)) = some (some (.int .i64 0), 1, 8) := by kernel_rfl
theorem nums_len (x : Nat) : (nums x).length ≤ 64 := nums_lenV x
theorem cell_al {W : World} {b i : Nat} {v : Value} (h : W.cell? ⟨b, i, none⟩ = some v) (o : Obj) : (W.alloc o).cell? ⟨b, i, none⟩ = some v :=
  (((Below.refl W.heap.size W).alloc (Nat.le_refl _) o).cell (p := ⟨b, i, none⟩) (cell_lt h)).trans h
theorem owns_shape {W : World} {base : Nat} {e : TypeId} {size : Nat} {v : Value} {n : Nat} {xs : List Value} (h : W.ownsRow base e size v n xs) : ∃ oa cap, v = .slice oa n cap := by
  rcases h.2 with ⟨rfl, rfl⟩ | ⟨g, cap, _, rfl, _⟩
  · exact ⟨none, 0, rfl⟩
  · exact ⟨_, cap, rfl⟩
theorem intsOf_snoc (l : List (Fin 64)) (k : Fin 64) : intsOf (l ++ [k]) = intsOf l ++ [.int .i64 (k.val : Int)] := by simp [intsOf]
theorem cell_grown {w1 w2 : World} {b i : Nat} {v : Value} {u : Option Value} (h : w1.cell? ⟨b, i, none⟩ = u) (hg : w1.grownBy w2 none) (hb : b < w1.heap.size) (hu : u = some v) : w2.cell? ⟨b, i, none⟩ = some v := by
  have := hg.block b hb (by simp)
  rw [← hu, ← h]
  simp [World.cell?, this]
theorem box_grown {W w1 : World} {n₀ B Bx : Nat} {t tx e : TypeId} {size : Nat} {v v' vx : Value} {k m : Nat} {xs ys : List Value}
    (hv : Boxed W B t v) (hx : Boxed W Bx tx vx) (hte : t ≠ e) (htx : tx ≠ e) (hne : Bx ≠ B) (hrow : W.ownsRow n₀ e size v k xs) (hn₀ : n₀ ≤ W.heap.size) (hB : n₀ ≤ B)
    (hown' : w1.ownsRow n₀ e size v' m ys) (hgrow : W.grownBy w1 v.ownBlock) :
    Boxed w1 B t v ∧ Boxed (w1.setCell ⟨B, 0, none⟩ v') B t v' ∧ (w1.setCell ⟨B, 0, none⟩ v').ownsRow n₀ e size v' m ys ∧ Boxed (w1.setCell ⟨B, 0, none⟩ v') Bx tx vx ∧ KeepsOthers W (w1.setCell ⟨B, 0, none⟩ v') ∧ Below n₀ W (w1.setCell ⟨B, 0, none⟩ v') := by
  have hv1 : Boxed w1 B t v := hv.kept hgrow (hv.not_row hte hrow)
  have hx1 : Boxed w1 Bx tx vx := hx.kept hgrow (hx.not_row htx hrow)
  refine ⟨hv1, hv1.set v', hown'.kept (grownBy_setCell' w1 B v') (.inr (hv1.not_row hte hown').symm), hx1.other hne v', ?_, ?_⟩
  · refine (KeepsOthers.of_grownBy hgrow fun j o ej hj => ?_).trans (KeepsOthers.setCell _ _ _)
    rcases hrow.2 with ⟨rfl, _⟩ | ⟨g, cap, cur, rfl, _, hgb, _⟩
    · simp [Value.ownBlock] at ej
    · obtain rfl : g = j := by simpa [Value.ownBlock] using ej
      rw [hgb] at hj; cases hj; rfl
  · refine ((Below.refl n₀ W).grown hgrow hn₀ fun j ej => ?_).setCell (p := ⟨B, 0, none⟩) hB v'
    rcases hrow.2 with ⟨rfl, _⟩ | ⟨g, cap, cur, rfl, hb, _, _⟩
    · simp [Value.ownBlock] at ej
    · obtain rfl : g = j := by simpa [Value.ownBlock] using ej
      exact hb
set_option maxRecDepth 100000 in
set_option maxHeartbeats 4000000 in
theorem placesC64 (x : Nat) (hx : x < 18446744073709551616) (w : World) (ht : Tab w) :
    CallsIn Fence.wide 9 Tryd.prog 32 #[.agg #[.int .u64 x]] w fun e W' => ∃ v, e = .returned v ∧ W'.ownsRow w.heap.size 3 1 v (nums x).length (intsOf (nums x)) ∧ Below w.heap.size w W' := by
  obtain ⟨i0, hi, hz0, hz1, hz2⟩ := info_parts info3
  have hnl := nums_len x
  have h3 := ht.2
  have KL := hide' (P1.len64 x hx)
  obtain ⟨m, hm⟩ : ∃ m, (nums x).length = m := ⟨_, rfl⟩
  rw [hm] at KL hnl
  refine callsIn_of_wp_marks Tryd.func32 rfl trivial ?_ rfl
  simp only [Tryd.ntmps32, List.size_toArray, List.length_cons, List.length_nil, Nat.reduceAdd, Nat.reduceSub, Array.replicate_succ, Array.replicate_zero, List.push_toArray, List.append_toArray, List.nil_append, List.cons_append]
  have Hm := hide' hm
  clear hm
  gi_wp2_with (first | (refine ⟨trivial, ?_⟩; gi_at_call 56; refine (callsIn_wide.2 (KL.out _)).mono ?_; rintro e w1 ⟨rfl, hb1⟩; have z1 : w.heap.size < w1.heap.size := (by have := hb1.size; simp at this; omega)) | (gi_at_make; refine wpListIn_make_own _ rfl _ _ 24 rfl w.heap.size 3 i0 (.int .i64 0) 1 Tryd.underlying24 hi hz0 hz1 .i64 .i64 _ m rfl rfl rfl (by rw [hz2]; omega) (by unfold maxLen; omega) (by omega) ?_; intro w2 hown hgrow; have cs : w2.cell? ⟨w.heap.size, 0, none⟩ = some (.int .u64 x) := cell_grown (hb1.cell (p := ⟨w.heap.size, 0, none⟩) (by show w.heap.size < _; simp)) hgrow z1 (by simp); have cs' := fun o => cell_al cs o) | (refine ⟨trivial, ?_⟩; gi_at_call 24; refine (callsIn_wide.2 (all64 _ _)).mono ?_; rintro e w' ⟨rfl, rfl⟩))
  have z2 : w1.heap.size ≤ w2.heap.size := hgrow.size
  have B2 : Below w.heap.size w w2 := (((Below.refl _ w).alloc (Nat.le_refl _) _).trans (hb1.mono (by simp))).grown hgrow (by omega) (fun j ej => by cases ej)
  have hB0 : Below w.heap.size w ((w2.alloc (.cells #[.slice (some ⟨w1.heap.size, 0, none⟩) 0 m] 24)).alloc (.cells #[.int .u64 x] 65)) := (B2.alloc (by omega) _).alloc (by simp; omega) _
  have bP := (Boxed.new w2 24 (.slice (some ⟨w1.heap.size, 0, none⟩) 0 m)).alloc (.cells #[.int .u64 x] 65)
  have bN := Boxed.new (w2.alloc (.cells #[.slice (some ⟨w1.heap.size, 0, none⟩) 0 m] 24)) 65 (.int .u64 x)
  have bR := (hown.alloc (.cells #[.slice (some ⟨w1.heap.size, 0, none⟩) 0 m] 24)).alloc (.cells #[.int .u64 x] 65)
  simp only [World.size_alloc] at bN
  generalize hW0 : ((w2.alloc (.cells #[.slice (some ⟨w1.heap.size, 0, none⟩) 0 m] 24)).alloc (.cells #[.int .u64 x] 65)) = W0 at *
  have hs0 : W0.heap.size = w2.heap.size + 1 + 1 := by rw [← hW0]; simp
  clear hW0 cs cs' hown hgrow hb1 B2
  refine wpIn_rangeFunc_ownG rfl (by decide) (gf := 50) (lb := #[.pointer (some ⟨w2.heap.size + 1, 0, none⟩)]) rfl trivial (enters_of Tryd.func50 (by kernel_rfl) rfl)
    (all_stops64 8 (w2.heap.size + 1) x hx W0 (by omega) (ht.over hB0) bN.cell) KpB.t (KpB.b (by omega) (by omega)) (Below.refl _ _) (fun _ => rfl)
    (fun pre W => (∃ v, Boxed W w2.heap.size 24 v ∧ W.ownsRow w.heap.size 3 1 v pre.length (intsOf pre) ∧ True) ∧ Boxed W (w2.heap.size + 1) 65 (.int .u64 x) ∧ Below w.heap.size w W)
    (fun _ _ _ => False)
    (OwnFrom.and (Own.from (holdsRow_own w.heap.size w2.heap.size 24 3 1 (fun pre => pre.length) (fun pre => intsOf pre) (fun _ _ => True)) _) (OwnFrom.and (Own.from (boxed_own _ _ _) _) (ownFrom_below (Nat.le_refl _) (by omega))))
    (fun _ _ _ _ _ hs _ _ => hs)
    ⟨⟨_, bP, bR, trivial⟩, bN, hB0⟩
    (fun k => { tmps := #[.agg #[.int .u64 x], .pointer (some ⟨w.heap.size, 0, none⟩), .slice none 0 0, .pointer (some ⟨w2.heap.size, 0, none⟩), .int .i64 (k.val : Int), .agg #[.int .u64 x], .int .i64 m, .slice (some ⟨w1.heap.size, 0, none⟩) 0 m, .agg #[.int .u64 x], .func (.func 50) #[] #[.pointer (some ⟨w2.heap.size + 1, 0, none⟩)], .int .i64 (k.val : Int), undef, undef, undef, undef, undef], defers := [] }) ?assign ?body ?done ?stop
  case assign =>
    intro l k W K hK
    gi_wp2
    exact hK
  case body =>
    rintro l pre k W ⟨⟨v, hv, hrow, _⟩, hbx, hB⟩ hlt
    rw [Hm.out] at hlt
    have hk := k.isLt
    have hc := hv.cell
    have hf := hv.frozen
    have hBs := hB.size
    have hT := hide' (intsOf_snoc pre k)
    have hT2 : Hid ((pre ++ [k]).length = pre.length + 1) := by show _ = _; simp
    generalize pre.length = N at *
    generalize hrw : intsOf pre = R at *
    clear hrw bP bN bR hB0
    obtain ⟨oa, cap, rfl⟩ := owns_shape hrow
    gi_wp2_with (gi_at_builtin; refine wpListIn_append_own _ rfl _ _ 24 rfl w.heap.size 3 i0 (.int .i64 0) 1 8 Tryd.underlying24 hi hz0 hz1 hz2 rfl (by decide) (.slice oa N cap) N R rfl (hrow.alloc _) ⟨W.heap.size, 0, none⟩ 1 1 [.int .i64 (k.val : Int)] rfl rfl (cell_one_new _ _ _) (by simp [Value.oneCell']) (by unfold maxLen; omega) (by omega) (by simp; omega) ?_; intro v1 w3 hown1 hgrow1 hnil; clear hnil; obtain ⟨oa1, cap1, rfl⟩ := owns_shape hown1; obtain ⟨hv1, hv2, hr2, hx2, hk2, hb2⟩ := box_grown (hv.alloc _) (hbx.alloc _) (by decide) (by decide) (by omega) (hrow.alloc _) (by simp; omega) (by omega) hown1 hgrow1; have hc1 := hv1.cell; have hf1 := hv1.frozen)
    have hbW : Below w.heap.size W (W.alloc (.cells #[.int .i64 (k.val : Int)] 3)) := (Below.refl _ W).alloc hB.size _
    exact ⟨((KeepsOthers.alloc W _).trans hk2).from _, ⟨hx2.cell.trans hbx.cell.symm, fun h => h.below h3 (hbW.trans hb2)⟩, ⟨⟨_, hv2, by rw [hT.out, hT2.out]; exact hr2, trivial⟩, hx2, hB.trans (hbW.trans hb2)⟩⟩
  case done =>
    rintro D ys W hD rfl ⟨⟨v, hv, hrow, _⟩, hbx, hB⟩ hK
    have hc := hv.cell
    obtain ⟨oa, cap, rfl⟩ := owns_shape hrow
    generalize hN : (nums x).length = N at *
    generalize hrw : intsOf (nums x) = R at *
    gi_wp2
    refine ⟨by simp, .inl ⟨_, _, rfl, run_takeDeferred hK, ?_⟩⟩
    refine ⟨_, results_tmp rfl _ _ _, ⟨_, rfl, ?_, hB.trans (belowK_b (w := w) (Nat.le_refl _) W D _ _ (by omega) hK rfl rfl)⟩⟩
    have hq := ownsRow_putObj hrow (.deferred none) hK rfl
    rw [hN, hrw]
    exact hq
  case stop =>
    rintro D c pre W _ _ h _
    exact h.elim
theorem places64 (x : Nat) (hx : x < 18446744073709551616) (w : World) (ht : Tab w) :
    Calls Tryd.prog 32 #[.agg #[.int .u64 x]] w fun e W' => ∃ v, e = .returned v ∧ W'.ownsRow w.heap.size 3 1 v (nums x).length (intsOf (nums x)) ∧ Below w.heap.size w W' := callsIn_wide.1 (placesC64 x hx w ht)
end Go.Proofs.YtjimiabfgmchiaaDoor
namespace Go.Proofs.YtjimiabfgmchiaaDoor
open Go.RowKit Go.Shelf
theorem fin_rangeV : (List.finRange 64).map (fun i : Fin 64 => i.val) = List.range 64 := by decide
theorem nums_range (x : Nat) : (nums x).map (fun i : Fin 64 => i.val) = (List.range 64).filter fun a => x.testBit a := by
  rw [← fin_rangeV, List.filter_map]
  rfl
theorem range_cutV (f : Nat → Bool) {n : Nat} (hn : n ≤ 64) (hf : ∀ a, f a = true → a < n) : (List.range 64).filter f = (List.range n).filter f := by
  obtain ⟨d, hd⟩ : ∃ d, 64 = n + d := ⟨64 - n, by omega⟩
  rw [hd, List.range_add, List.filter_append]
  have : ((List.range d).map (n + ·)).filter f = [] := by
    rw [List.filter_eq_nil_iff]
    intro a ha hb
    obtain ⟨c, _, rfl⟩ := List.mem_map.1 ha
    have := hf _ hb
    omega
  rw [this, List.append_nil]
theorem Ord.lvl_nums {n : Nat} {R : Nat → Nat → Bool} {Pf Sf : Nat → Nat} (h : Ord n R Pf Sf) (k : Nat) : intsOf (nums (rdW n Pf (eK n Pf k))) = cellsN (lvl n Pf k) ∧ (nums (rdW n Pf (eK n Pf k))).length = (lvl n Pf k).length := by
  have e : (nums (rdW n Pf (eK n Pf k))).map (fun i : Fin 64 => i.val) = lvl n Pf k := by
    rw [nums_range, lvl]
    exact range_cutV _ h.n64 fun a ha => ((h.eK_rdy k a).1 ha).1
  refine ⟨?_, by rw [← e, List.length_map]⟩
  rw [← e]
  simp [intsOf, cellsN]
section
variable {go gp gs n : Nat} {R : Nat → Nat → Bool} {Pf Sf : Nat → Nat} {w : World}
/-- What Levels holds behind so many. -/
structure LvI (n : Nat) (Pf : Nat → Nat) (w : World) (k : Nat) (ov : Value) (W : World) : Prop where
  old : Below w.heap.size w W
  bd : Boxed W w.heap.size 65 (.int .u64 ((eK n Pf k : Nat) : Int))
  rows : RV w.heap.size W ov (lvs n Pf k)
theorem LvI.below {k : Nat} {ov : Value} {W W' : World} (h : LvI n Pf w k ov W) (hb : Below W.heap.size W W') : LvI n Pf w k ov W' :=
  ⟨h.old.trans (hb.mono h.old.size), bxb h.bd hb h.bd.lt, h.rows.below hb⟩
/-- What Levels holds within a round. -/
structure LvM (w : World) (D x bl : Nat) (ov : Value) (L : List (List Nat)) (W : World) : Prop where
  old : Below w.heap.size w W
  bd : Boxed W w.heap.size 65 (.int .u64 (D : Int))
  bx : Boxed W bl 65 (.int .u64 (x : Int))
  ne : w.heap.size < bl
  rows : RV w.heap.size W ov L
theorem LvM.below {D x bl : Nat} {ov : Value} {L : List (List Nat)} {W W' : World} (h : LvM w D x bl ov L W) (hb : Below W.heap.size W W') : LvM w D x bl ov L W' :=
  ⟨h.old.trans (hb.mono h.old.size), bxb h.bd hb h.bd.lt, bxb h.bx hb h.bx.lt, h.ne, h.rows.below hb⟩
theorem LvI.box {k : Nat} {ov : Value} {W : World} (h : LvI n Pf w k ov W) (x : Nat) : LvM w (eK n Pf k) x W.heap.size ov (lvs n Pf k) (W.alloc (.cells #[.int .u64 (x : Int)] 65)) := by
  have h1 := h.below ((Below.refl _ W).alloc (Nat.le_refl _) (.cells #[.int .u64 (x : Int)] 65))
  exact ⟨h1.old, h1.bd, Boxed.new W _ _, h.bd.lt, h1.rows⟩
theorem LvM.push {D x bl : Nat} {ov ov' u : Value} {L : List (List Nat)} {l : List Nat} {vs : List Value} {o : Obj} {W W' : World} {B' : Nat} (h : LvM w D x bl ov L W) (hd : DjV vs) (hlo : ∀ v ∈ vs, ∀ g, v.ownBlock = some g → g < B') (hhi : ∀ g, u.ownBlock = some g → B' ≤ g) (h1 : W.ownsRow w.heap.size 24 1 ov L.length vs) (h2 : ∀ (i : Nat) (l : List Nat), L[i]? = some l → ∃ u, vs[i]? = some u ∧ W.ownsRow w.heap.size 3 1 u l.length (cellsN l)) (hu : W.ownsRow w.heap.size 3 1 u l.length (cellsN l)) (hown : W'.ownsRow w.heap.size 24 1 ov' (L.length + 1) (vs ++ [u])) (hg : (W.alloc o).grownBy W' ov.ownBlock) : LvM w D x bl ov' (L ++ [l]) W' := by
  have ho := OneB.grownT h1 hg
  exact ⟨(h.old.alloc h.old.size o).grown hg (by have := h.old.size; simp; omega) (own_geV h1), ho.boxed h.bd (by decide), ho.boxed h.bx (by decide), h.ne, RV.push hd hlo hhi h1 h2 hu hown hg⟩
theorem LvM.set {D x bl : Nat} {ov : Value} {L : List (List Nat)} {W : World} (h : LvM w D x bl ov L W) (D' : Nat) : Below w.heap.size w (W.setCell ⟨w.heap.size, 0, none⟩ (.int .u64 (D' : Int))) ∧ Boxed (W.setCell ⟨w.heap.size, 0, none⟩ (.int .u64 (D' : Int))) w.heap.size 65 (.int .u64 (D' : Int)) ∧ RV w.heap.size (W.setCell ⟨w.heap.size, 0, none⟩ (.int .u64 (D' : Int))) ov L :=
  ⟨h.old.setCell (Nat.le_refl _) _, h.bd.set _, h.rows.one (OneB.set h.bd _) (by decide) (by decide)⟩
set_option maxRecDepth 100000 in
set_option maxHeartbeats 2000000 in
theorem levelsO (ho : OrdAt w go gp gs n Pf Sf) (hO : Ord n R Pf Sf) (ht : Tab w) (K : Nat) (hK : K ≤ n) (hKf : eK n Pf K = 2 ^ n - 1) (hKn : ∀ j, j < K → eK n Pf j ≠ 2 ^ n - 1) :
    Calls Tryd.prog 8 #[.pointer (some ⟨go, 0, none⟩)] w fun e w' => ∃ v, e = .returned v ∧ Hid (RV w.heap.size w' v (lvs n Pf K)) ∧ Below w.heap.size w w' := by
  obtain ⟨iL, hiL, hzL0, hzL1, hzL2⟩ := info_parts infoLV
  have hn := hO.n64
  have hKn' := hide' hKn
  have hKf' := hide' hKf
  have hO' := hide' hO
  have hoV : Hid (∀ W, Below w.heap.size w W → OrdAt W go gp gs n Pf Sf) := fun W hW => ho.over hW
  have KA : Hid (∀ W, Below w.heap.size w W → Calls Tryd.prog 29 #[.pointer (some ⟨go, 0, none⟩)] W fun e w' => e = .returned (.agg #[.int .u64 ((2 ^ n - 1 : Nat) : Int)]) ∧ Below W.heap.size W w') := fun W hW => allO (ho.over hW) hn
  have KR : Hid (∀ W d, Below w.heap.size w W → d < 18446744073709551616 → Calls Tryd.prog 28 #[.pointer (some ⟨go, 0, none⟩), .int .u64 (d : Nat)] W fun e w' => e = .returned (.int .u64 (rdW n Pf d : Int)) ∧ Below W.heap.size W w') := fun W d hW hd => readyO (ho.over hW) hn (fun a ha => hO'.out.pre_lt ha) d hd (ht.over hW)
  have hlt : Hid (∀ k, eK n Pf k < 18446744073709551616) := fun k => hO'.out.eK_lt k
  have hrl : Hid (∀ k, rdW n Pf (eK n Pf k) < 18446744073709551616) := fun k => hO'.out.rdW_lt (hO'.out.eK_lt k)
  have hpl : Hid (∀ W k, Below w.heap.size w W → Calls Tryd.prog 32 #[.agg #[.int .u64 (rdW n Pf (eK n Pf k) : Int)]] W fun e W' => ∃ v, e = .returned v ∧ W'.ownsRow W.heap.size 3 1 v (lvl n Pf k).length (cellsN (lvl n Pf k)) ∧ Below W.heap.size W W') := fun W k hW => by
    have := places64 _ (hrl.out k) W (ht.over hW)
    rwa [(hO'.out.lvl_nums k).1, (hO'.out.lvl_nums k).2] at this
  obtain ⟨A, hA⟩ : ∃ A, A = 2 ^ n - 1 := ⟨_, rfl⟩
  rw [← hA] at KA hKf' hKn'
  clear ho hO hKf hKn hA
  go_enter Tryd.func8, Tryd.ntmps8
  go_wp2
  have hL0 : Hid (LvI n Pf w 0 (.slice none 0 0) (w.alloc (.cells #[.int .u64 0] 65))) := ⟨(Below.refl _ w).alloc (Nat.le_refl _) _, Boxed.new w _ _, RV.nil _ _⟩
  go_loopw [3, 5] (fun pl _ wr => ∃ k oa cap, k ≤ K ∧ pl = .slice oa k cap ∧ Hid (LvI n Pf w k (.slice oa k cap) wr)) (fun pl _ _ => K - slLen pl)
  case atStart => exact ⟨0, _, 0, Nat.zero_le _, rfl, hL0⟩
  case round =>
    clear hL0
    obtain ⟨k, oa, cap, hk, rfl, hL⟩ := hrel
    have hLd := hide' (hL.out.below (Below.refl _ wr).drew)
    have hS0 := hide' hLd.out.bd.cell
    clear hL
    by_cases hkK : k = K
    · subst hkK
      rw [hKf'.out] at hS0
      have hLk : Hid (∀ V, LvI n Pf w k (.slice oa k cap) V → V.cell? ⟨w.heap.size, 0, none⟩ = some (.int .u64 (A : Int))) := fun V h => by have := h.bd.cell; rwa [hKf'.out] at this
      go_wp2
      go_region_held3 (fun V => V.cell? ⟨w.heap.size, 0, none⟩ = some (.int .u64 (A : Int))) (first | (exact hS0.out) | (exact hS1.out)) (first | (go_at_call 29; refine (KA.out _ hLd.out.old).mono ?_; rintro e w1 ⟨rfl, hb1⟩; have hL1 := hide' (hLd.out.below hb1); have hS1 := hide' (hLk.out _ hL1.out); clear hb1))
      go_wp2
      go_ret
      exact ⟨_, rfl, hL1.out.rows, hL1.out.old⟩
    · have hne : ¬ ((eK n Pf k : Nat) : Int) = (A : Int) := fun e => hKn'.out k (by omega) (Int.ofNat_inj.1 e)
      have hEl := hlt.out k
      have hRl := hrl.out k
      have KO := hide' (or64 (eK n Pf k) (rdW n Pf (eK n Pf k)) hEl hRl)
      have KR' : Hid (∀ W, Below w.heap.size w W → Calls Tryd.prog 28 #[.pointer (some ⟨go, 0, none⟩), .int .u64 ((eK n Pf k : Nat) : Int)] W fun e w' => e = .returned (.int .u64 (rdW n Pf (eK n Pf k) : Int)) ∧ Below W.heap.size W w') := fun W hW => KR.out W _ hW hEl
      have hpl' : Hid (∀ W, Below w.heap.size w W → Calls Tryd.prog 32 #[.agg #[.int .u64 (rdW n Pf (eK n Pf k) : Int)]] W fun e W' => ∃ v, e = .returned v ∧ W'.ownsRow W.heap.size 3 1 v (lvl n Pf k).length (cellsN (lvl n Pf k)) ∧ Below W.heap.size W W') := fun W hW => hpl.out W k hW
      have hbox : Hid (∀ W, LvI n Pf w k (.slice oa k cap) W → LvM w (eK n Pf k) (rdW n Pf (eK n Pf k)) W.heap.size (.slice oa k cap) (lvs n Pf k) (W.alloc (.cells #[.int .u64 (rdW n Pf (eK n Pf k) : Int)] 65))) := fun W h => h.box _
      have hnx : Hid (∀ ov W, Below w.heap.size w W → Boxed W w.heap.size 65 (.int .u64 ((eK n Pf k ||| rdW n Pf (eK n Pf k) : Nat) : Int)) → RV w.heap.size W ov (lvs n Pf k ++ [lvl n Pf k]) → LvI n Pf w (k + 1) ov W) := fun ov W h1 h2 h3 => ⟨h1, h2, by rw [lvs_snoc]; exact h3⟩
      have hbdE : Hid (∀ V, LvI n Pf w k (.slice oa k cap) V → Boxed V w.heap.size 65 (.int .u64 ((eK n Pf k : Nat) : Int))) := fun V h => h.bd
      generalize eK n Pf k = D at *
      generalize rdW n Pf D = x at *
      go_wp2
      go_region_held3 (fun V => V.cell? ⟨w.heap.size, 0, none⟩ = some (.int .u64 (D : Int))) (first | (exact hS0.out) | (exact hS1.out)) (first | (go_at_call 29; refine (KA.out _ hLd.out.old).mono ?_; rintro e w1 ⟨rfl, hb1⟩; have hL1 := hide' (hLd.out.below hb1); have hS1 := hide' (hbdE.out _ hL1.out).cell; clear hb1))
      have d1 := hS1.out
      go_wp2_with fail
      refine (word64 _ _).mono ?_
      rintro e w2 ⟨rfl, hb2⟩
      have hL2 := hide' (hL1.out.below hb2)
      go_wp2_with fail
      refine (KR'.out _ hL2.out.old).mono ?_
      rintro e w3 ⟨rfl, hb3⟩
      have hL3 := hide' (hL2.out.below hb3)
      go_wp2_with fail
      refine (ofO _ _).mono ?_
      rintro e w4 ⟨rfl, hb4⟩
      have M5 := hide' (hbox.out _ (hL3.out.below hb4))
      clear hL1 hL2 hL3 hb2 hb3 hb4 hS0 hS1 hLd hbox hbdE d1
      have c5 := M5.out.bx.cell
      go_wp2_with fail
      refine (hpl'.out _ M5.out.old).mono ?_
      rintro e w6 ⟨v, rfl, hrow6, hb6⟩
      have M6 := hide' (M5.out.below hb6)
      obtain ⟨ou, cu, rfl⟩ := own_formI hrow6
      have hrow6' := hide' (owns_lowV hrow6 M5.out.old.size)
      have hhi := own_geV hrow6
      obtain ⟨vs, hdj, hw1, hw2⟩ := M5.out.rows
      have hlo : ∀ v ∈ vs, ∀ g, v.ownBlock = some g → g < (w4.alloc (.cells #[.int .u64 (x : Int)] 65)).heap.size := fun v hv g e => (rows_lt hw1 hw2 v hv g e).1
      have hv1 := owns_belowV hw1 hb6
      have hv2 := rows_below hw2 hb6
      clear M5 c5 hrow6 hb6 hw1 hw2
      have hv1' := hv1
      rw [lvs_len] at hv1'
      have hO1 : Hid (∀ o, (w6.alloc o).ownsRow w.heap.size 24 1 (.slice oa k cap) k vs) := fun o => hv1'.alloc o
      have hfin : Hid (∀ u w7, w7.ownsRow w.heap.size 24 1 u (k + 1) (vs ++ [.slice ou (lvl n Pf k).length cu]) → (w6.alloc (.cells #[.slice ou (lvl n Pf k).length cu] 24)).grownBy w7 (Value.slice oa k cap).ownBlock → ∃ oa2 cap2, u = .slice oa2 (k + 1) cap2 ∧ Hid (LvM w D x w4.heap.size (.slice oa2 (k + 1) cap2) (lvs n Pf k ++ [lvl n Pf k]) w7)) := fun u w7 h1 h2 => by
        have hP := M6.out.push hdj hlo hhi hv1 hv2 hrow6'.out (by rw [lvs_len]; exact h1) h2
        obtain ⟨oa2, cap2, e⟩ := hP.rows.shape
        rw [List.length_append, lvs_len] at e
        subst e
        exact ⟨oa2, cap2, rfl, hP⟩
      have hsz := M6.out.old.size
      clear M6 hv1 hv2 hv1' hrow6' hdj hlo hhi
      generalize (lvl n Pf k).length = N at *
      go_wp2_with (first | (at_builtin; refine wpList_append_own _ rfl _ _ 38 rfl w.heap.size 24 iL (.slice none 0 0) 1 24 Tryd.underlying38 hiL hzL0 hzL1 hzL2 rfl (by decide) (.slice oa k cap) k vs rfl (hO1.out _) ⟨w6.heap.size, 0, none⟩ 1 1 [.slice ou N cu] rfl rfl (cell_one_new _ _ _) (by simp [Value.oneCell']) (by unfold maxLen; omega) (by omega) (by simp; omega) ?_; intro u w7 hown7 hgrow7 hnil7; clear hnil7; obtain ⟨oa2, cap2, rfl, M7⟩ := hfin.out u w7 hown7 hgrow7; clear hown7 hgrow7; have c7 := M7.out.bd.cell; have c8 := M7.out.bx.cell) | fail)
      refine (KO.out _).mono ?_
      rintro e w9 ⟨rfl, hb9⟩
      have M9 := hide' (M7.out.below hb9)
      have c9 := M9.out.bd.cell
      have f9 := M9.out.bd.frozen
      have hLn := hide' (hnx.out _ _ (M9.out.set (D ||| x)).1 (M9.out.set (D ||| x)).2.1 (M9.out.set (D ||| x)).2.2)
      clear M7 c7 c8 hb9 M9
      go_wp2
      exact ⟨⟨k + 1, oa2, cap2, by omega, rfl, hLn⟩, by simp [slLen]; omega⟩
end
end Go.Proofs.YtjimiabfgmchiaaDoor
namespace Go.Proofs.YtjimiabfgmchiaaDoor.K
open Go.RowKit
def ints (l : List Nat) : List Int := l.map fun k : Nat => (k : Int)
theorem ints_len (l : List Nat) : (ints l).length = l.length := by simp [ints]
/-- A row of rows of numbers. -/
def RR (w : World) (v : Value) (L : List (List Nat)) : Prop := ∃ oa cap, v = .slice oa L.length cap ∧ ∀ i l, L[i]? = some l → ∃ g o ou cu, oa = some ⟨g, o, none⟩ ∧ w.cell? ⟨g, o + i, none⟩ = some (.slice ou l.length cu) ∧ RowI w (.slice ou l.length cu) (ints l)
theorem RR.nil (w : World) : RR w (.slice none 0 0) [] := ⟨none, 0, rfl, fun i l h => by cases h⟩
theorem RowI.shapeQ {w : World} {v : Value} {l : List Int} (h : RowI w v l) : ∃ oa cap, v = .slice oa l.length cap := by obtain ⟨oa, cap, h, _⟩ := h; exact ⟨oa, cap, h⟩
theorem RR.below {w w' : World} {v : Value} {L : List (List Nat)} {n : Nat} (h : RR w v L) (hb : Below n w w') (hn : w.heap.size ≤ n) : RR w' v L := by
  obtain ⟨oa, cap, rfl, h1⟩ := h
  refine ⟨oa, cap, rfl, fun i l hi => ?_⟩
  obtain ⟨g, o, ou, cu, e, hc, hr⟩ := h1 i l hi
  exact ⟨g, o, ou, cu, e, (hb.cell (p := ⟨g, o + i, none⟩) (Nat.lt_of_lt_of_le (cell_lt hc) hn)).trans hc, hr.below hb hn⟩
set_option maxRecDepth 100000 in
set_option maxHeartbeats 2000000 in
theorem listsT (L : List (List Nat)) (va vb : Value) (w : World) (ha : RR w va L) (hb : RR w vb L) (hn : L.length ≤ 1000000) (hm : ∀ l ∈ L, l.length ≤ 1000000) :
    Calls Tryd.prog 17 #[va, vb] w fun e w' => e = .returned (.bool true) ∧ Below w.heap.size w w' := by
  obtain ⟨oa, ca, rfl, hca⟩ := ha
  obtain ⟨ob, cb, rfl, hcb⟩ := hb
  have hca' := hide' hca
  have hcb' := hide' hcb
  have hm' := hide' hm
  clear hca hcb hm
  go_enter Tryd.func17, Tryd.ntmps17
  go_wp2
  go_loopw [5] (fun k wr => Below w.heap.size w wr ∧ ∃ (c : Nat), c ≤ L.length ∧ k = .int .i64 c) (fun k _ => ((L.length : Int) - intOf k).toNat)
  case atStart => exact ⟨Below.refl _ _, 0, Nat.zero_le _, rfl⟩
  case round =>
    obtain ⟨hB, c, hc, rfl⟩ := hrel
    by_cases hlt : c < L.length
    · obtain ⟨x, hx⟩ : ∃ x, L[c]? = some x := ⟨_, List.getElem?_eq_getElem hlt⟩
      have hxl := hm'.out x (List.mem_of_getElem? hx)
      obtain ⟨ga, o1, oua, cua, rfl, c1', ra⟩ := hca'.out c x hx
      obtain ⟨gb, o2, oub, cub, rfl, c2', rb⟩ := hcb'.out c x hx
      have c1 := (hB.cell (p := ⟨ga, o1 + c, none⟩) (cell_lt c1')).trans c1'
      have c2 := (hB.cell (p := ⟨gb, o2 + c, none⟩) (cell_lt c2')).trans c2'
      have KI : Hid (∀ V, Below w.heap.size w V → Calls Tryd.prog 40 #[.slice oua x.length cua, .slice oub x.length cub] V fun e w' => e = .returned (.bool true) ∧ Below V.heap.size V w') := fun V hV => by
        have := keepInts (ints x) (ints x) _ _ V (ra.below hV (Nat.le_refl _)) (rb.below hV (Nat.le_refl _)) (by rw [ints_len]; exact hxl) (by rw [ints_len]; exact hxl)
        rwa [decide_eq_true rfl] at this
      clear c1' c2' hx ra rb hxl hca' hcb' hm'
      have hB' := hide' hB
      go_wp2
      go_region_with (go_at_call 40; refine (KI.out _ hB'.out.drew).mono ?_; rintro e w1 ⟨rfl, hb1⟩)
      all_goals
        go_wp2
        exact ⟨⟨hB.drew.trans (hb1.mono hB.drew.size), c + 1, by omega, by go_num⟩, by simp [intOf]; omega⟩
    · obtain rfl : c = L.length := by omega
      go_wp2
      go_ret
      exact ⟨rfl, hB⟩
theorem cellsN_ints (l : List Nat) : cellsN l = cellsI (ints l) := by simp [cellsN, cellsI, ints]
/-- Rows of one's own, read. -/
theorem RR.of_own {B : Nat} {W : World} {ov : Value} {L : List (List Nat)} (h : RV B W ov L) : RR W ov L := by
  obtain ⟨oa, cap, rfl⟩ := h.shape
  obtain ⟨vs, _, h1, h2⟩ := h
  refine ⟨oa, cap, rfl, fun i l hi => ?_⟩
  have hlt := (List.getElem?_eq_some_iff.1 hi).1
  obtain ⟨u, hu, hr⟩ := h2 i l hi
  obtain ⟨ou, cu, rfl⟩ := own_formI hr
  rcases h1.2 with ⟨e, h0⟩ | ⟨g, cap', cur, e, _⟩
  · omega
  · cases e
    refine ⟨g, 0, ou, cu, rfl, ?_, ?_⟩
    · rw [Nat.zero_add, h1.cellAt i (by omega)]
      exact hu
    · rw [cellsN_ints] at hr
      have h3 := RowI.of_owns hr
      exact h3
theorem rowI_own {B : Nat} {W : World} {v : Value} {n : Nat} {l : List Nat} (h : W.ownsRow B 3 1 v n (cellsN l)) : RowI W v (ints l) := by
  rw [cellsN_ints] at h
  exact RowI.of_owns h
end Go.Proofs.YtjimiabfgmchiaaDoor.K
namespace Go.Proofs.YtjimiabfgmchiaaDoor
open Go.RowKit
theorem alloc_st (W : World) (o : Obj) (s : Nat) (hs : W.heap.size = s) : (W.alloc o).heap.size = s + 1 ∧ (W.alloc o).heap[s]? = some o ∧ (∀ (g : Nat) (x : Obj), W.heap[g]? = some x → (W.alloc o).heap[g]? = some x) ∧ Below s W (W.alloc o) := by
  subst hs
  refine ⟨by simp, K.heap_new W o, fun g x h => ?_, (Below.refl _ _).alloc (Nat.le_refl _) _⟩
  rw [Below.heap_alloc _ _ _ (Array.getElem?_eq_some_iff.1 h).1]; exact h
/-- The book at b, the loan behind it; what was there before them stands. -/
structure OwP (w2 W : World) (b : Nat) (tB tL : Nat → Nat) (m : Nat) : Prop where
  bk : K.Book W b tB
  ln : K.Loan W (b + 1) tL m
  dis : ∀ g, tB g = 0 ∨ tL g = 0
  lowB : ∀ g, g < b → tB g = 0
  lowL : ∀ g, g < b → tL g = 0
  old : Below b w2 W
section
variable {w2 W W' : World} {b : Nat} {tB tL tB' tL' : Nat → Nat} {m : Nat}
theorem LoanP.fresh {p : Nat} (h : K.Loan W p tL m) : ∀ g, W.heap.size ≤ g → tL g = 0 := by
  obtain ⟨_, _, _, _, _, h⟩ := h
  exact h.fresh
theorem LoanP.lt {p : Nat} (h : K.Loan W p tL m) : p < W.heap.size := by
  obtain ⟨_, _, _, _, _, h⟩ := h
  exact h.box.lt
theorem BookP.mv (h : K.Book W b tB) (s : K.Sm (· = 0) tB W W') : K.Book W' b tB := by
  obtain ⟨ov, ow, m, vs, us, rows, N, h⟩ := h
  exact ⟨ov, ow, m, vs, us, rows, N, h.box.mv s (by rw [h.bt]; decide), h.bt, h.live.mv s (by decide) (fun j _ => by omega), h.want.mv s (by decide) (fun j _ => by omega), fun g hg => h.fresh g (Nat.le_trans s.size hg), h.hN, h.hrow⟩
theorem LoanP.mv {p : Nat} (h : K.Loan W p tL m) (s : K.Sm (· = 0) tL W W') : K.Loan W' p tL m := by
  obtain ⟨ov, ow, vs, us, rows, h⟩ := h
  exact ⟨ov, ow, vs, us, rows, h.mv s⟩
theorem OwP.below (h : OwP w2 W b tB tL m) (hb : Below W.heap.size W W') : OwP w2 W' b tB tL m :=
  ⟨h.bk.below hb, LoanP.mv h.ln (K.Sm.below hb), h.dis, h.lowB, h.lowL, h.old.trans (hb.mono (by have := LoanP.lt h.ln; omega))⟩
theorem OwP.loan (h : OwP w2 W b tB tL m) {m' : Nat} (hk : K.Loan W' (b + 1) tL' m') (hf : K.FrL tL W tL' W') : OwP w2 W' b tB tL' m' := by
  have hlt := LoanP.lt h.ln
  have hB : ∀ g, tB g ≠ 0 → tL g = 0 := fun g e => (h.dis g).resolve_left e
  have hbf := h.bk.fresh
  refine ⟨BookP.mv h.bk ⟨hf.os, hf.tape, hf.output, hf.size, fun g hg hx => hf.block g hg (by rw [hB g hx]; decide) (by rw [hB g hx]; decide) (by rw [hB g hx]; decide)⟩, hk, fun g => ?_, h.lowB, fun g hg => (hf.tg g (by omega)).trans (h.lowL g hg), h.old.trans ⟨hf.os, hf.tape, hf.output, hf.size, fun g hg => hf.block g (by omega) (by rw [h.lowL g hg]; decide) (by rw [h.lowL g hg]; decide) (by rw [h.lowL g hg]; decide)⟩⟩
  rcases Nat.lt_or_ge g W.heap.size with hg | hg
  · rw [hf.tg g hg]; exact h.dis g
  · exact .inl (hbf g hg)
/-- Rows that are new are taken in. -/
theorem OwP.lists (h : OwP w2 W b tB tL m) {vs : List Value} (hk : K.Book W' b tB') (hf : K.FrV tB vs W tB' W') (hx : ∀ v ∈ vs, ∀ g, v.ownBlock = some g → tL g = 0 ∧ b + 2 ≤ g) : OwP w2 W' b tB' tL m := by
  have hlt := LoanP.lt h.ln
  have hL : ∀ g, tL g ≠ 0 → tB g = 0 := fun g e => (h.dis g).resolve_right e
  have hlf := LoanP.fresh h.ln
  have hxn : ∀ g, tL g ≠ 0 → ∀ v ∈ vs, v.ownBlock ≠ some g := fun g e v hv e2 => e (hx v hv g e2).1
  have hxl : ∀ g, g < b + 2 → ∀ v ∈ vs, v.ownBlock ≠ some g := fun g e v hv e2 => by have := (hx v hv g e2).2; omega
  refine ⟨hk, LoanP.mv h.ln ⟨hf.os, hf.tape, hf.output, hf.size, fun g hg e => hf.block g hg (hL g e) (hxn g e)⟩, fun g => ?_, fun g hg => hf.tg g (by omega) (h.lowB g hg) (hxl g (by omega)), h.lowL, h.old.trans ⟨hf.os, hf.tape, hf.output, hf.size, fun g hg => hf.block g (by omega) (h.lowB g hg) (hxl g (by omega))⟩⟩
  rcases Nat.lt_or_ge g W.heap.size with hg | hg
  · by_cases e : tL g = 0
    · exact .inr e
    · exact .inl (hf.tg g hg (hL g e) (hxn g e))
  · exact .inr (hlf g hg)
end
/-- What stands between the law's calls. -/
def Zp (w2 W : World) (b M : Nat) : Prop := ∃ tB tL m, OwP w2 W b tB tL m ∧ m ≤ M
section
variable {w2 W W' : World} {b M : Nat}
theorem Zp.below (h : Zp w2 W b M) (hb : Below W.heap.size W W') : Zp w2 W' b M := by
  obtain ⟨tB, tL, m, h1, h2⟩ := h
  exact ⟨tB, tL, m, h1.below hb, h2⟩
theorem Zp.more (h : Zp w2 W b M) {M' : Nat} (hM : M ≤ M') : Zp w2 W b M' := by
  obtain ⟨tB, tL, m, h1, h2⟩ := h
  exact ⟨tB, tL, m, h1, Nat.le_trans h2 hM⟩
theorem Zp.old (h : Zp w2 W b M) : Below b w2 W := by
  obtain ⟨tB, tL, m, h1, h2⟩ := h
  exact h1.old
theorem zpLoan (hZ : Zp w2 W b M) (hM : M ≤ 90000) (lv : Value) (l : List Int) (hr : K.RowI W lv l) (hl : l.length ≤ 1000) :
    Calls Tryd.prog 10 #[.pointer (some ⟨b + 1, 0, none⟩), lv] W fun e w' => ∃ g cap, e = .returned (.slice (some ⟨g, 0, none⟩) l.length cap) ∧ Hid (Zp w2 w' b (M + 1)) ∧ Hid (K.RowI w' (.slice (some ⟨g, 0, none⟩) l.length cap) l) := by
  obtain ⟨tB, tL, m, hO, hm⟩ := hZ
  refine (K.loanInts (b + 1) tL m lv l W hO.ln hr hl (by omega)).mono ?_
  rintro e w' ⟨g, cap, tL', rfl, hk, hf, hrow, hg, ht⟩
  exact ⟨g, cap, rfl, ⟨tB, tL', m + 1, hO.loan hk hf, by omega⟩, hrow⟩
theorem zpBook (hZ : Zp w2 W b M) {W2 : World} (h2 : Below W.heap.size W W2) (x : Value) (k : Nat) (l : List Int) (hv : W2.ownsRow W.heap.size 3 1 x k (K.cellsI l)) (hl : l.length ≤ 1000000) :
    Calls Tryd.prog 11 #[.pointer (some ⟨b, 0, none⟩), x] W2 fun e w' => e = .returned (.tuple #[]) ∧ Hid (Zp w2 w' b M) := by
  obtain ⟨tB, tL, m, hO, hm⟩ := hZ
  have hn : k = l.length := by have := hv.1; simp [K.cellsI] at this; omega
  subst hn
  have hlt := LoanP.lt hO.ln
  have hfB := hO.bk.fresh
  have hfL := LoanP.fresh hO.ln
  have hO2 := hO.below h2
  have hx : ∀ g, x.ownBlock = some g → W.heap.size ≤ g := fun g hg => (hv.lt g hg).1
  refine (K.bookInts b tB x l W2 hO2.bk (K.owns_low hv (Nat.zero_le _)) hl (fun g hg => hfB g (hx g hg))).mono ?_
  rintro e w' ⟨rfl, tB', hk', hf⟩
  have hfv := (K.FrV.refl tB W2).snoc hf
  exact ⟨rfl, tB', tL, m, hO2.lists (vs := [x]) hk' hfv (fun v hv g e => by rw [List.mem_singleton] at hv; subst hv; exact ⟨hfL g (hx g e), by have := hx g e; omega⟩), hm⟩
/-- Lists of new memory are taken in. -/
theorem zpLists (hZ : Zp w2 W b M) {W2 : World} (h2 : Below W.heap.size W W2) (ov : Value) (L : List (List Nat)) (hN : RV W.heap.size W2 ov L) (hL : L.length ≤ 1000000) (hLl : ∀ l ∈ L, l.length ≤ 1000000) :
    Calls Tryd.prog 7 #[.pointer (some ⟨b, 0, none⟩), ov] W2 fun e w' => e = .returned (.tuple #[]) ∧ Hid (Zp w2 w' b M) := by
  obtain ⟨tB, tL, m, hO, hm⟩ := hZ
  obtain ⟨vs, hdj, h1, h3⟩ := hN
  have hlt := LoanP.lt hO.ln
  have hfB := hO.bk.fresh
  have hfL := LoanP.fresh hO.ln
  have hO2 := hO.below h2
  have hlen : vs.length = L.length := by have := h1.1; omega
  have hin : ∀ v ∈ vs, ∀ g, v.ownBlock = some g → W.heap.size ≤ g := fun v hv g e => (rows_lt h1 h3 v hv g e).2
  have hkind : ∀ v ∈ vs, ∀ g, v.ownBlock = some g → ∃ c f, W2.heap[g]? = some (.cells c 3 f) := fun v hv g e => by
    obtain ⟨j, hj⟩ := List.getElem?_of_mem hv
    have hjl := (List.getElem?_eq_some_iff.1 hj).1
    obtain ⟨l, hl⟩ : ∃ l, L[j]? = some l := ⟨_, List.getElem?_eq_getElem (by omega)⟩
    obtain ⟨u, hu, hr⟩ := h3 j l hl
    rw [hj] at hu; cases hu
    exact Go.Lib.ownsRow_kind hr g e
  have hR : K.Rws W2 tB ov vs (fun j => K.ints (L.getD j [])) := by
    refine ⟨?_, fun j v hj => ?_, fun v hv g e => hfB g (hin v hv g e), hdj⟩
    · rcases h1.2 with ⟨rfl, h0⟩ | ⟨g, cap, cur, rfl, hg0, hgc, _⟩
      · exact ⟨none, 0, by rw [hlen, h0], fun j v hj => by have := (List.getElem?_eq_some_iff.1 hj).1; omega⟩
      · refine ⟨_, cap, by rw [hlen], fun j v hj => ⟨g, 0, rfl, ?_, hfB g hg0, fun u hu e => ?_⟩⟩
        · have hjl := (List.getElem?_eq_some_iff.1 hj).1
          rw [Nat.zero_add, h1.cellAt j (by omega)]; exact hj
        · obtain ⟨c, f, hc⟩ := hkind u hu g e
          rw [hgc] at hc
          cases hc
    · have hjl := (List.getElem?_eq_some_iff.1 hj).1
      obtain ⟨l, hl⟩ : ∃ l, L[j]? = some l := ⟨_, List.getElem?_eq_getElem (by omega)⟩
      obtain ⟨u, hu, hr⟩ := h3 j l hl
      rw [hj] at hu; cases hu
      have e : L.getD j [] = l := by rw [List.getD_eq_getElem?_getD, hl]; rfl
      show W2.ownsRow 0 3 1 v (K.ints (L.getD j [])).length (K.cellsI (K.ints (L.getD j []))) ∧ (K.ints (L.getD j [])).length ≤ 1000000
      rw [e, K.ints_len, ← K.cellsN_ints]
      exact ⟨owns_lowV hr (Nat.zero_le _), hLl l (List.mem_of_getElem? hl)⟩
  refine (K.bookLists b tB ov vs _ W2 hO2.bk hR (by omega)).mono ?_
  rintro e w' ⟨rfl, tB', hk', hf⟩
  exact ⟨rfl, tB', tL, m, hO2.lists hk' hf (fun v hv g e => ⟨hfL g (hin v hv g e), by have := hin v hv g e; omega⟩), hm⟩
theorem zpBack (hZ : Zp w2 W b M) (hM : M ≤ 90000) :
    Calls Tryd.prog 13 #[.pointer (some ⟨b + 1, 0, none⟩)] W fun e w' => e = .returned (.bool true) ∧ Hid (K.BookO w2 b w') := by
  obtain ⟨tB, tL, m, hO, hm⟩ := hZ
  have hlt := LoanP.lt hO.ln
  refine (K.loanBack (b + 1) tL m W hO.ln (by omega)).mono ?_
  rintro e w' ⟨rfl, hs⟩
  refine ⟨rfl, hO.old.trans ⟨hs.os, hs.tape, hs.output, hs.size, fun g hg => hs.block g (by omega) (fun h => h (hO.lowL g hg))⟩, tB, BookP.mv hO.bk ⟨hs.os, hs.tape, hs.output, hs.size, fun g hg hx => hs.block g hg fun h => h ((hO.dis g).resolve_left hx)⟩, hO.lowB⟩
theorem Zp.start (w2 : World) : Zp w2 ((w2.alloc (.cells #[.slice none 0 0, .slice none 0 0, .slice none 0 0, .slice none 0 0, .slice none 0 0, .slice none 0 0, .slice none 0 0, .slice none 0 0, .slice none 0 0, .slice none 0 0, .slice none 0 0, .slice none 0 0, .int .i64 0] 41)).alloc (.cells #[.slice none 0 0, .slice none 0 0, .slice none 0 0, .slice none 0 0] 45)) w2.heap.size 0 := by
  have hb := K.Book.start w2
  obtain ⟨zA, nA, kA, bA⟩ := alloc_st w2 (.cells #[.slice none 0 0, .slice none 0 0, .slice none 0 0, .slice none 0 0, .slice none 0 0, .slice none 0 0, .slice none 0 0, .slice none 0 0, .slice none 0 0, .slice none 0 0, .slice none 0 0, .slice none 0 0, .int .i64 0] 41) _ rfl
  obtain ⟨zB, nB, kB, bB⟩ := alloc_st _ (.cells #[.slice none 0 0, .slice none 0 0, .slice none 0 0, .slice none 0 0] 45) _ zA
  refine ⟨fun g => if g = w2.heap.size then 1 else 0, fun g => if g = w2.heap.size + 1 then 1 else 0, 0, ⟨hb.below (by rw [zA]; exact bB), ⟨.slice none 0 0, .slice none 0 0, [], [], fun _ => [], nB, if_pos rfl, K.famNil _ _ _ _ _, K.famNil _ _ _ _ _, fun g hg => if_neg (by rw [zB] at hg; omega), fun j hj => by omega⟩, fun g => ?_, fun g hg => if_neg (by omega), fun g hg => if_neg (by omega), bA.trans (bB.mono (by omega))⟩, Nat.le_refl _⟩
  by_cases e : g = w2.heap.size
  · exact .inr (if_neg (by omega))
  · exact .inl (if_neg e)
end
end Go.Proofs.YtjimiabfgmchiaaDoor
namespace Go.Proofs.YtjimiabfgmchiaaDoor
open Go.RowKit Go.Shelf
section
variable {w0 : World} {go m : Nat} {R : Nat → Nat → Bool} {ov : Value} {gr : Nat → Nat} {w : World} {Pf Sf : Nat → Nat}
/-- Those of a level among the first so many. -/
def fltH (H : Nat → Nat) (k i : Nat) : List Nat := (List.range i).filter fun a => decide (H a = k)
theorem fltH_len (H : Nat → Nat) (k i : Nat) : (fltH H k i).length ≤ i := by
  unfold fltH
  refine Nat.le_trans (List.length_filter_le _ _) ?_
  simp
set_option maxRecDepth 100000 in
set_option maxHeartbeats 2000000 in
theorem refLevels (hM : Mat w0 go m m R ov gr w) (hO : Ord m R Pf Sf) (K : Nat) (hK : K ≤ m) (hKf : eK m Pf K = 2 ^ m - 1) (hKn : ∀ j, j < K → eK m Pf j ≠ 2 ^ m - 1) :
    Calls Tryd.prog 18 #[.pointer (some ⟨go, 0, none⟩)] w fun e w' => ∃ v, e = .returned v ∧ Hid (RV w.heap.size w' v (lvs m Pf K)) ∧ Below w.heap.size w w' := by
  obtain ⟨i0, hi, hz0, hz1, hz2⟩ := info_parts infoIV
  obtain ⟨iL, hiL, hzL0, hzL1, hzL2⟩ := info_parts infoLV
  have hm := hO.n64
  have KH := hide' (refHeights hM hm (hgt m R Pf) (fun x y hx hy hR => hO.hgt_up hx hy hR) (fun y r hy hr => hO.hgt_from hy hr) (fun a ha => hO.hgt_lt ha))
  have cN : Hid (∀ W, Below w.heap.size w W → W.cell? ⟨go, 0, none⟩ = some (.int .i64 (m : Int))) := fun W hW => (hM.over hW).c0
  have hlv : Hid (∀ k, lvl m Pf k = fltH (hgt m R Pf) k m) := fun k => hO.lvl_hgt k m (Nat.le_refl _)
  have hem : Hid (∀ k, k ≤ K → ((fltH (hgt m R Pf) k m).length = 0 ↔ k = K)) := fun k hk => by
    rw [← hlv.out k, List.length_eq_zero_iff, ← hO.full_iff]
    constructor
    · intro e
      rcases Nat.lt_or_ge k K with h | h
      · exact absurd e (hKn k h)
      · omega
    · rintro rfl; exact hKf
  have hhl : Hid (∀ a, a < m → hgt m R Pf a < m) := fun a ha => hO.hgt_lt ha
  clear hM hO hKf hKn
  generalize hgt m R Pf = H at *
  go_enter Tryd.func18, Tryd.ntmps18
  go_wp2_with fail
  refine KH.out.mono ?_
  rintro e w1 ⟨oh, ch, rfl, hh1, hb1⟩
  have hcH : Hid (∀ W a, Below w1.heap.size w1 W → a < m → ∃ g, oh = some ⟨g, 0, none⟩ ∧ W.cell? ⟨g, a, none⟩ = some (.int .i64 (H a : Int))) := fun W a hW ha => by
    have h2 := owns_belowV hh1.out hW
    rcases h2.2 with ⟨_, h0⟩ | ⟨g, cap, cur, e, _⟩
    · omega
    · cases e
      exact ⟨g, rfl, by rw [h2.cellAt a (by omega)]; exact cellsK_at H ha⟩
  have hs1 := hb1.size
  clear KH hh1
  go_wp2
  go_loopw [3, 5, 6, 7] (fun pl pk _ _ wr => ∃ k oa cap, k ≤ K ∧ pl = .slice oa k cap ∧ pk = .int .i64 (k : Nat) ∧ Hid (Below w1.heap.size w1 wr ∧ RV w1.heap.size wr (.slice oa k cap) (lvs m Pf k))) (fun _ pk _ _ _ => ((K : Int) - intOf pk).toNat)
  case atStart => exact ⟨0, _, 0, Nat.zero_le _, rfl, rfl, Below.refl _ _, RV.nil _ _⟩
  case round =>
    obtain ⟨k, oa, cap, hk, rfl, rfl, hI⟩ := hrel
    have hBw : Below w.heap.size w wr := hb1.trans (hI.out.1.mono hs1)
    have hI' := hI
    have hsr := hI.out.1.size
    clear hI
    obtain ⟨Wc, hWc⟩ : ∃ W, W = wr := ⟨_, rfl⟩
    subst hWc
    go_wp2
    go_loopw [6, 7] (fun po pa wr => ∃ i ou cu, i ≤ m ∧ pa = .int .i64 (i : Nat) ∧ po = .slice ou (fltH H k i).length cu ∧ Hid (wr.ownsRow Wc.heap.size 3 1 (.slice ou (fltH H k i).length cu) (fltH H k i).length (cellsN (fltH H k i)) ∧ Below Wc.heap.size Wc wr)) (fun _ pa _ => ((m : Int) - intOf pa).toNat)
    case atStart => exact ⟨0, none, 0, Nat.zero_le _, rfl, rfl, World.ownsRow_nil _ _ _ _, Below.refl _ _⟩
    case round =>
      obtain ⟨i, ou, cu, hi', rfl, rfl, hJ⟩ := hrel
      have hBr : Below w1.heap.size w1 wr := hI'.out.1.trans (hJ.out.2.mono hsr)
      have c0 := cN.out _ (hBw.trans (hJ.out.2.mono (by omega)))
      by_cases hli : i < m
      · have hli' : (i : Int) < (m : Int) := by omega
        obtain ⟨g, rfl, ch1⟩ := hcH.out _ i hBr hli
        have hsn : fltH H k (i + 1) = fltH H k i ++ if decide (H i = k) = true then [i] else [] := filter_snoc _ i
        by_cases hik : H i = k
        · have heq : ((H i : Int) == (k : Int)) = true := by simp; omega
          rw [if_pos (by simpa using hik)] at hsn
          have hO1 : Hid (∀ o, (wr.alloc o).ownsRow Wc.heap.size 3 1 (.slice ou (fltH H k i).length cu) (fltH H k i).length (cellsN (fltH H k i))) := fun o => hJ.out.1.alloc o
          have hfin : Hid (∀ u w2, w2.ownsRow Wc.heap.size 3 1 u ((fltH H k i).length + 1) (cellsN (fltH H k i) ++ [.int .i64 (i : Int)]) → (wr.alloc (.cells #[.int .i64 (i : Int)] 3)).grownBy w2 (Value.slice ou (fltH H k i).length cu).ownBlock → ∃ ou2 cu2, u = .slice ou2 (fltH H k (i + 1)).length cu2 ∧ Hid (w2.ownsRow Wc.heap.size 3 1 (.slice ou2 (fltH H k (i + 1)).length cu2) (fltH H k (i + 1)).length (cellsN (fltH H k (i + 1))) ∧ Below Wc.heap.size Wc w2)) := fun u w2 h1 h2 => by
            obtain ⟨ou2, cu2, rfl⟩ := own_formI h1
            have hl : (fltH H k (i + 1)).length = (fltH H k i).length + 1 := by rw [hsn]; simp
            refine ⟨ou2, cu2, by rw [hl], ?_, ?_⟩
            · rw [hl, hsn, cellsN_snoc]; exact h1
            · exact (hJ.out.2.alloc hJ.out.2.size _).grown h2 (by have := hJ.out.2.size; simp; omega) (own_geV hJ.out.1)
          have hNl := fltH_len H k i
          have hsz := hJ.out.2.size
          clear hJ hsn hBr
          generalize hN : (fltH H k i).length = N at *
          generalize fltH H k i = lst at *
          clear hN
          go_wp2_with (first | (at_builtin; refine wpList_append_own _ rfl _ _ 24 rfl Wc.heap.size 3 i0 (.int .i64 0) 1 8 Tryd.underlying24 hi hz0 hz1 hz2 rfl (by decide) (.slice ou N cu) N (cellsN lst) rfl (hO1.out _) ⟨wr.heap.size, 0, none⟩ 1 1 [.int .i64 (i : Int)] rfl rfl (cell_one_new _ _ _) (by simp [Value.oneCell']) (by unfold maxLen; omega) (by omega) (by simp; omega) ?_; intro u w8 hown8 hgrow8 hnil8; clear hnil8; obtain ⟨ou2, cu2, rfl, M8⟩ := hfin.out u w8 hown8 hgrow8; clear hown8 hgrow8))
          exact ⟨⟨i + 1, ou2, cu2, by omega, by go_num, rfl, M8⟩, by simp [intOf]; omega⟩
        · have heq : ((H i : Int) == (k : Int)) = false := by simp; omega
          rw [if_neg (by simpa using hik), List.append_nil] at hsn
          have hJ2 : Hid (fltH H k (i + 1) = fltH H k i) := hsn
          clear hsn
          go_wp2
          exact ⟨⟨i + 1, ou, cu, by omega, by go_num, by rw [hJ2.out], by rw [hJ2.out]; exact hJ⟩, by simp [intOf]; omega⟩
      · obtain rfl : i = m := by omega
        by_cases hkK : k = K
        · subst hkK
          have hl0 := (hem.out k (Nat.le_refl _)).2 rfl
          have hE : Hid (RV w.heap.size wr (.slice oa k cap) (lvs i Pf k) ∧ Below w.heap.size w wr) := ⟨(hI'.out.2.below hJ.out.2).low hs1, hBw.trans (hJ.out.2.mono (by omega))⟩
          rw [hl0]
          clear hJ hI' hBr hl0
          go_wp2
          go_ret
          exact ⟨_, rfl, hE.out.1, hE.out.2⟩
        · have hl0 : ¬ (fltH H k i).length = 0 := fun e => hkK ((hem.out k hk).1 e)
          obtain ⟨vs, hdj, hw1, hw2⟩ := hI'.out.2
          have hlo : ∀ v ∈ vs, ∀ g, v.ownBlock = some g → g < Wc.heap.size := fun v hv g e => (rows_lt hw1 hw2 v hv g e).1
          have hv1 := owns_belowV hw1 hJ.out.2
          have hv2 := rows_below hw2 hJ.out.2
          clear hw1 hw2
          rw [lvs_len] at hv1
          have hO1 : Hid (∀ o, (wr.alloc o).ownsRow w1.heap.size 24 1 (.slice oa k cap) k vs) := fun o => hv1.alloc o
          have hfin : Hid (∀ u w2, w2.ownsRow w1.heap.size 24 1 u (k + 1) (vs ++ [.slice ou (fltH H k i).length cu]) → (wr.alloc (.cells #[.slice ou (fltH H k i).length cu] 24)).grownBy w2 (Value.slice oa k cap).ownBlock → ∃ oa2 cap2, u = .slice oa2 (k + 1) cap2 ∧ Hid (Below w1.heap.size w1 w2 ∧ RV w1.heap.size w2 (.slice oa2 (k + 1) cap2) (lvs i Pf (k + 1)))) := fun u w2 h1 h2 => by
            have hP : RV w1.heap.size w2 u (lvs i Pf k ++ [lvl i Pf k]) := by
              refine RV.push (vs := vs) hdj hlo (own_geV hJ.out.1) (by rw [lvs_len]; exact hv1) hv2 (u := .slice ou (fltH H k i).length cu) ?_ (by rw [lvs_len]; exact h1) h2
              rw [hlv.out k]
              exact owns_lowV hJ.out.1 hsr
            rw [← lvs_snoc] at hP
            obtain ⟨oa2, cap2, e⟩ := hP.shape
            rw [lvs_len] at e
            subst e
            exact ⟨oa2, cap2, rfl, (hBr.alloc hBr.size _).grown h2 (by have := hBr.size; simp; omega) (own_geV hv1), hP⟩
          have hsz := hBr.size
          have hNl := fltH_len H k i
          clear hJ hI' hBr hv1 hv2 hdj hlo
          generalize hN : (fltH H k i).length = N at *
          have hN0 : ¬ (N : Int) = 0 := by omega
          clear hN
          go_wp2_with (first | (at_builtin; refine wpList_append_own _ rfl _ _ 38 rfl w1.heap.size 24 iL (.slice none 0 0) 1 24 Tryd.underlying38 hiL hzL0 hzL1 hzL2 rfl (by decide) (.slice oa k cap) k vs rfl (hO1.out _) ⟨wr.heap.size, 0, none⟩ 1 1 [.slice ou N cu] rfl rfl (cell_one_new _ _ _) (by simp [Value.oneCell']) (by unfold maxLen; omega) (by omega) (by simp; omega) ?_; intro u w8 hown8 hgrow8 hnil8; clear hnil8; obtain ⟨oa2, cap2, rfl, M8⟩ := hfin.out u w8 hown8 hgrow8; clear hown8 hgrow8))
          exact ⟨⟨k + 1, oa2, cap2, by omega, rfl, by go_num, M8⟩, by simp [intOf]; omega⟩
end
end Go.Proofs.YtjimiabfgmchiaaDoor

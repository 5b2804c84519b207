/- The document's disk in memory; its functions. -/
import Derived.Test.YtmhbidnpfefjpaaDkT
import Derived.Deep.CutBlock
import Derived.Deep.CutRange
import Derived.Deep.RegionHeld3
namespace Go.Proofs.Ytmhbidnpfefjpaa
open Go.RowKit
/-- The document's disk: what may still be written tells whether there is power. -/
structure RkA (W : World) (r rb cap : Nat) (D : Dk) : Prop where
  bx : W.heap[r]? = some (.cells #[.slice (some ⟨rb, 0, none⟩) D.bytes.length cap, .int .i64 D.writes, .int .i64 D.fuse] 49 (0, 0))
  row : W.ownsRow 0 5 1 (.slice (some ⟨rb, 0, none⟩) D.bytes.length cap) D.bytes.length (cellsB D.bytes)
theorem RkA.blk {W : World} {r rb cap : Nat} {D : Dk} (h : RkA W r rb cap D) : ∃ cs, W.heap[rb]? = some (.cells cs 5 (0, 0)) := by
  rcases h.row.2 with ⟨e, _⟩ | ⟨g, c, cur, e, _, hg, _⟩
  · cases e
  · cases e; exact ⟨cur, hg⟩
theorem RkA.ne {W : World} {r rb cap : Nat} {D : Dk} (h : RkA W r rb cap D) : r ≠ rb := by
  rintro rfl
  obtain ⟨cs, h2⟩ := h.blk
  rw [h.bx] at h2
  injection h2 with h2
  injection h2 with _ h2
  exact absurd h2 (by decide)
theorem own_same {W W' : World} {B : Nat} {e : TypeId} {sz g n cap : Nat} {xs : List Value} (h : W.ownsRow B e sz (.slice (some ⟨g, 0, none⟩) n cap) n xs) (hb : W'.heap[g]? = W.heap[g]?) : W'.ownsRow B e sz (.slice (some ⟨g, 0, none⟩) n cap) n xs := by
  refine ⟨h.1, ?_⟩
  rcases h.2 with ⟨e, _⟩ | ⟨g', c, cur, e, h1, hg, h3⟩
  · cases e
  · cases e; exact .inr ⟨g, cap, cur, rfl, h1, hb.trans hg, h3⟩
theorem RkA.kp {W W' : World} {r rb cap x y : Nat} {D : Dk} (h : RkA W r rb cap D) (k : Kp x y W W') (h1 : r ≠ x) (h2 : r ≠ y) (h3 : rb ≠ x) (h4 : rb ≠ y) : RkA W' r rb cap D := by
  obtain ⟨cs, hb⟩ := h.blk
  exact ⟨(k.block r (blk_lt h.bx) h1 h2).trans h.bx, own_same h.row (k.block rb (blk_lt hb) h3 h4)⟩
theorem RkA.cells {W : World} {r rb cap : Nat} {D : Dk} (h : RkA W r rb cap D) : W.cell? ⟨r, 0, none⟩ = some (.slice (some ⟨rb, 0, none⟩) D.bytes.length cap) ∧ W.cell? ⟨r, 1, none⟩ = some (.int .i64 D.writes) ∧ W.cell? ⟨r, 2, none⟩ = some (.int .i64 D.fuse) := by
  have h1 := h.bx
  refine ⟨?_, ?_, ?_⟩ <;> simp [World.cell?, h1]
theorem RkA.free {W : World} {r rb cap : Nat} {D : Dk} (h : RkA W r rb cap D) (i : Nat) : W.frozen? ⟨r, i, none⟩ = false := by
  have h1 := h.bx
  simp [World.frozen?, h1]
theorem RkA.rowC {W : World} {r rb cap : Nat} {D : Dk} (h : RkA W r rb cap D) : RowC W (.slice (some ⟨rb, 0, none⟩) D.bytes.length cap) D.bytes := RowC.of_owns h.row
def RnP (w : World) (D : Dk) (e : Ending) (w' : World) : Prop :=
  ∃ r rb cap, e = .returned (.tuple #[.pointer (some ⟨r, 0, none⟩), .int .i64 0]) ∧ Hid (RkA w' r rb cap D) ∧ Hid (w.heap.size ≤ r ∧ w.heap.size ≤ rb) ∧ Hid (Below w.heap.size w w')
theorem own_of_bk {W : World} {g : Nat} {L : List Nat} (h : BkB W g L) (hl : L.length ≤ 10000000) : W.ownsRow 0 5 1 (.slice (some ⟨g, 0, none⟩) L.length L.length) L.length (cellsB L) :=
  ⟨by rw [cellsB_len]; omega, .inr ⟨g, L.length, (cellsB L).toArray, rfl, Nat.zero_le _, h, Nat.le_refl _, by unfold maxLen; omega, by simp [cellsB_len], by rw [Nat.mul_one]; exact List.take_of_length_le (by rw [cellsB_len]; exact Nat.le_refl _)⟩⟩
set_option maxRecDepth 100000 in
set_option maxHeartbeats 1000000 in
theorem rNewF (n : Nat) (w : World) (h1 : 0 < n) (h2 : n ≤ 65536) : Calls Try.prog 27 #[.int .i64 (n : Int)] w (RnP w (newD n)) := by
  unfold RnP
  go_enter Try.func27, Try.ntmps27
  go_wp2_with (at_make; refine make_bytes rfl _ _ rfl (16 * n) _ _ rfl rfl (by omega) (by omega) (by omega) ?_; intro w2 hb2 hw2; have hb3 := hide' hb2; have hw3 := hide' hw2; clear hb2 hw2)
  go_ret2
  have hlt := blk_lt hb3.out
  have el : (newD n).bytes.length = 16 * n := by simp [newD]
  refine ⟨_, w.heap.size, 16 * n, rfl, ⟨?_, ?_⟩, ⟨hw3.out.size, Nat.le_refl _⟩, hw3.out.alloc hw3.out.size _⟩
  · rw [el]
    exact heap_new _ _
  · have := own_of_bk hb3.out (by simp; omega)
    rw [show (List.replicate (16 * n) 0).length = 16 * n by simp] at this
    rw [el]
    exact own_same this (((Below.refl _ w2).alloc (Nat.le_refl _) _).block _ hlt)
set_option maxRecDepth 100000 in
theorem rNewBad (b : Int) (w : World) (hb : b < 1 ∨ 65536 < b) : Calls Try.prog 27 #[.int .i64 b] w fun e w' => e = .returned (.tuple #[.pointer none, .int .i64 1]) ∧ w' = w := by
  go_enter Try.func27, Try.ntmps27
  by_cases h : b < 1
  · go_wp2
    go_ret2
    exact ⟨rfl, rfl⟩
  · have h2 : 65536 < b := by omega
    go_wp2
    go_ret2
    exact ⟨rfl, rfl⟩
set_option maxRecDepth 100000 in
theorem rBlocksF {W : World} {r rb cap : Nat} {D : Dk} {n : Nat} (h : RkA W r rb cap D) (hk : D.bytes.length = 16 * n) (hn : n ≤ 65536) : Calls Try.prog 48 #[.pointer (some ⟨r, 0, none⟩)] W fun e w' => e = .returned (.int .i64 (n : Int)) ∧ w' = W := by
  have hc := h.cells.1
  rw [hk] at hc
  clear h hk
  go_enter Try.func48, Try.ntmps48
  go_wp2
  go_ret
  exact ⟨ret_int (by omega), rfl⟩
set_option maxRecDepth 100000 in
theorem rPowerF {W : World} {r rb cap : Nat} {D : Dk} {n : Nat} (h : RkA W r rb cap D) (hk : DkO D n) : Calls Try.prog 36 #[.pointer (some ⟨r, 0, none⟩)] W fun e w' => e = .returned (.bool D.power) ∧ w' = W := by
  have hc := h.cells.2.2
  rw [hk.pow]
  clear h hk
  go_enter Try.func36, Try.ntmps36
  go_wp2
  go_ret
  exact ⟨ret_bool (by by_cases h : D.fuse = 0 <;> simp [h]), rfl⟩
theorem RkA.ft {W : World} {r rb cap : Nat} {D : Dk} (h : RkA W r rb cap D) (p : Bool) (f : Int) : RkA (W.setCell ⟨r, 2, none⟩ (.int .i64 f)) r rb cap { D with power := p, fuse := f } := by
  have hne := h.ne
  refine ⟨?_, ?_⟩
  · have e := set_heap h.bx 2 (.int .i64 f)
    simpa using e
  · exact own_same h.row (Below.heap_setCell _ _ _ _ hne.symm)
theorem RkA.wr {W : World} {r rb cap : Nat} {D : Dk} (h : RkA W r rb cap D) (k : Int) : RkA (W.setCell ⟨r, 1, none⟩ (.int .i64 k)) r rb cap { D with writes := k } := by
  have hne := h.ne
  refine ⟨?_, ?_⟩
  · have e := set_heap h.bx 1 (.int .i64 k)
    simpa using e
  · exact own_same h.row (Below.heap_setCell _ _ _ _ hne.symm)
/-- A call that changes one of the document's disks. -/
def RcP (W : World) (r rb cap : Nat) (D : Dk) (v : Value) (e : Ending) (w' : World) : Prop :=
  e = .returned v ∧ Hid (RkA w' r rb cap D) ∧ Hid (Kp r rb W w')
set_option maxRecDepth 100000 in
theorem rRestartF {W : World} {r rb cap : Nat} {D : Dk} (h : RkA W r rb cap D) : Calls Try.prog 34 #[.pointer (some ⟨r, 0, none⟩)] W (RcP W r rb cap (reD D) (.tuple #[])) := by
  unfold RcP reD
  obtain ⟨_, _, c2⟩ := h.cells
  have hf := h.free
  have h' := hide' h
  clear h
  go_enter Try.func34, Try.ntmps34
  go_wp2
  exact bodyPost_end (results_none rfl _ _ _) rfl ⟨rfl, h'.out.ft _ _, (Kp.refl _ _ _).set _ _⟩
set_option maxRecDepth 100000 in
set_option maxHeartbeats 1000000 in
theorem rFuseF {W : World} {r rb cap : Nat} {D : Dk} {n : Nat} (h : RkA W r rb cap D) (hk : DkO D n) (f : Int) : Calls Try.prog 33 #[.pointer (some ⟨r, 0, none⟩), .int .i64 f] W (RcP W r rb cap (fuD D f) (.tuple #[])) := by
  unfold RcP
  obtain ⟨_, _, c2⟩ := h.cells
  have hf := h.free
  have h' := hide' h
  have hpw := hk.pow
  clear h hk
  by_cases h0 : D.fuse = 0
  · have hp : ¬ D.power = true := by rw [hpw]; simp [h0]
    rw [show fuD D f = D by unfold fuD; rw [if_neg hp]]
    rw [h0] at c2
    go_enter Try.func33, Try.ntmps33
    go_wp2
    exact bodyPost_ret (results_none rfl _ _ _) rfl ⟨rfl, h', Kp.refl _ _ _⟩
  · have hp : D.power = true := by rw [hpw]; simp [h0]
    rw [show fuD D f = { D with power := decide (f ≠ 0), fuse := max f (-1) } by unfold fuD; rw [if_pos hp]]
    generalize decide (f ≠ 0) = pw
    by_cases hneg : f < 0
    · rw [show max f (-1) = -1 by omega]
      have h3 := hide' (h'.out.ft pw (-1))
      go_enter Try.func33, Try.ntmps33
      go_wp2
      exact bodyPost_end (results_none rfl _ _ _) rfl ⟨rfl, h3, (Kp.refl _ _ _).set _ _⟩
    · rw [show max f (-1) = f by omega]
      have h3 := hide' (h'.out.ft pw f)
      go_enter Try.func33, Try.ntmps33
      go_wp2
      exact bodyPost_end (results_none rfl _ _ _) rfl ⟨rfl, h3, (Kp.refl _ _ _).set _ _⟩
theorem app_clean {W : World} {B n : Nat} {v : Value} {L : List Nat} (h : W.ownsRow B 5 1 v (0 + n) (cellsB [] ++ cellsB L)) : W.ownsRow B 5 1 v n (cellsB L) := by
  rw [Nat.zero_add] at h
  exact h
theorem own_down0 {w : World} {B : Nat} {e : TypeId} {size : Nat} {v : Value} {n : Nat} {xs : List Value} (h : w.ownsRow B e size v n xs) : w.ownsRow 0 e size v n xs := by
  refine ⟨h.1, ?_⟩
  rcases h.2 with q | ⟨g', cap, cur, e1, _, e3⟩
  · exact .inl q
  · exact .inr ⟨g', cap, cur, e1, Nat.zero_le _, e3⟩
set_option maxRecDepth 100000 in
set_option maxHeartbeats 1000000 in
theorem rLoadF (L : List Nat) (n : Nat) (v : Value) (w : World) (h : RowC w v L) (hL : L.length = 16 * n) (h1 : 0 < n) (h2 : n ≤ 65536) : Calls Try.prog 14 #[v] w (RnP w (ldD L)) := by
  obtain ⟨oa, cap, rfl, _, hc⟩ := h
  obtain ⟨x, hx⟩ : ∃ x, L[0]? = some x := ⟨_, List.getElem?_eq_getElem (by omega)⟩
  obtain ⟨g, o, rfl, _⟩ := hc 0 x hx
  have hnews : Hid (∀ j u, (cellsB L)[j]? = some u → (w.alloc (.cells #[] 5)).cell? (Addr.add ⟨g, o, none⟩ j) = some u) := fun j u hu => by
    obtain ⟨z, hz, rfl⟩ := cellsB_at hu
    obtain ⟨g', o', e, hcell⟩ := hc j z hz
    cases e
    rw [Addr.add_lit]
    exact cell_new hcell
  obtain ⟨i0, hi, hz0, hz1, hz2⟩ := info_parts infoU8
  have hm' := hide' hL
  clear hc hx
  rw [hL]
  clear hL
  go_enter Try.func14, Try.ntmps14
  have d1 : (16 * (n : Int) == 0) = false := by simp; omega
  have d2 : ((16 * n : Nat) : Int) % 16 = 0 := by omega
  have d3 : ((16 * n : Nat) : Int) / 16 = (n : Int) := by omega
  have d4 : ¬ (65536 : Int) < (n : Int) := by omega
  go_wp2_with (at_builtin; refine wpList_append_own _ rfl _ _ 34 rfl w.heap.size 5 i0 (.int .u8 0) 1 1 Try.underlying34 hi hz0 hz1 hz2 rfl (by decide) _ 0 (cellsB []) rfl (owns_zero w _) ⟨g, o, none⟩ (16 * n) cap (cellsB L) rfl (by rw [cellsB_len, hm'.out]; omega) hnews.out (oneB _) (by unfold maxLen; omega) (by omega) (by simp) ?_; intro v1 w4 hown4 hgrow4 _; have hB4 := hide' (((Below.refl _ w).alloc (Nat.le_refl _) (.cells #[] 5)).grown hgrow4 (by simp) (fun j ej => by cases ej; exact Nat.le_refl _)); have hown5 : w4.ownsRow w.heap.size 5 1 v1 (16 * n) (cellsB L) := app_clean hown4; obtain ⟨ov, cv, rfl⟩ := own_shp hown5; have hown6 := hide' hown5; clear hgrow4 hown4 hown5)
  go_ret2
  obtain ⟨gn, rfl⟩ : ∃ gn, ov = some ⟨gn, 0, none⟩ := by
    rcases hown6.out.2 with ⟨e, h0⟩ | ⟨g', c, cur, e, _⟩
    · omega
    · cases e; exact ⟨_, rfl⟩
  have hlt : gn < w4.heap.size := by
    rcases hown6.out.2 with ⟨e, h0⟩ | ⟨g', c, cur, e, _, hg, _⟩
    · cases e
    · cases e; exact blk_lt hg
  have el : (ldD L).bytes.length = 16 * n := hm'.out
  unfold RnP
  refine ⟨_, gn, cv, rfl, ⟨?_, ?_⟩, ⟨hB4.out.size, own_ge' hown6.out rfl⟩, hB4.out.alloc hB4.out.size _⟩
  · rw [el]
    exact heap_new _ _
  · rw [el]
    exact own_same (own_down0 hown6.out) (((Below.refl _ w4).alloc (Nat.le_refl _) _).block _ hlt)
set_option maxRecDepth 100000 in
set_option maxHeartbeats 1000000 in
theorem rLoadBad (L : List Nat) (v : Value) (w : World) (h : RowC w v L) (hL : L.length % 16 ≠ 0 ∨ L.length = 0) (hs : L.length ≤ 2000) : Calls Try.prog 14 #[v] w fun e w' => e = .returned (.tuple #[.pointer none, .int .i64 1]) ∧ w' = w := by
  obtain ⟨oa, cap, rfl, _, hc⟩ := h
  clear hc
  generalize L.length = m at *
  by_cases h0 : m = 0
  · subst h0
    go_enter Try.func14, Try.ntmps14
    go_wp2
    go_ret2
    exact ⟨rfl, rfl⟩
  · have h1 : ¬ (m : Int) % 16 = 0 := by omega
    have h2 : ¬ (m : Int) = 0 := by omega
    go_enter Try.func14, Try.ntmps14
    go_wp2
    go_ret2
    exact ⟨rfl, rfl⟩
/-- What the document's Read answers. -/
def RrP (w : World) (L : List Nat) (e : Ending) (w' : World) : Prop :=
  ∃ oa cap, e = .returned (.tuple #[.slice oa 16 cap, .int .i64 0]) ∧ Hid (RowC w' (.slice oa 16 cap) L) ∧ Hid (Below w.heap.size w w')
set_option maxRecDepth 100000 in
set_option maxHeartbeats 1000000 in
theorem rWriteBad {W : World} {r rb cap : Nat} {D : Dk} {n : Nat} (h : RkA W r rb cap D) (hk : DkO D n) (b : Int) (L : List Nat) (v : Value) (hv : RowC W v L) (hb : ¬ ((0 ≤ b ∧ b < (n : Int)) ∧ L.length = 16)) : Calls Try.prog 55 #[.pointer (some ⟨r, 0, none⟩), .int .i64 b, v] W fun e w' => e = .returned (.int .i64 1) ∧ w' = W := by
  have K1 := hide' (rBlocksF h hk.len hk.most)
  obtain ⟨oa, cp, rfl, _, _⟩ := hv
  generalize L.length = m at *
  clear h hk
  by_cases h0 : b < 0
  · clear hb
    go_enter Try.func55, Try.ntmps55
    go_wp2
    go_ret
    exact ⟨rfl, rfl⟩
  · by_cases h1 : (n : Int) ≤ b
    · clear hb
      go_enter Try.func55, Try.ntmps55
      go_wp2_with (go_at_call 48; refine K1.out.mono ?_; rintro e w1 ⟨rfl, hw1⟩; obtain rfl : W = w1 := hw1.symm)
      go_ret
      exact ⟨rfl, rfl⟩
    · have hm : ((m : Int) != 16) = true := by simp; omega
      clear hb
      go_enter Try.func55, Try.ntmps55
      go_wp2_with (go_at_call 48; refine K1.out.mono ?_; rintro e w1 ⟨rfl, hw1⟩; obtain rfl : W = w1 := hw1.symm)
      go_ret
      exact ⟨rfl, rfl⟩
set_option maxRecDepth 100000 in
set_option maxHeartbeats 1000000 in
theorem rWriteDown {W : World} {r rb cap : Nat} {D : Dk} {n : Nat} (h : RkA W r rb cap D) (hk : DkO D n) (b : Int) (L : List Nat) (v : Value) (hv : RowC W v L) (hb : 0 ≤ b ∧ b < (n : Int)) (hL : L.length = 16) (hp : D.power = false) : Calls Try.prog 55 #[.pointer (some ⟨r, 0, none⟩), .int .i64 b, v] W fun e w' => e = .returned (.int .i64 50) ∧ w' = W := by
  have K1 := hide' (rBlocksF h hk.len hk.most)
  have hf0 : D.fuse = 0 := by
    have := hk.pow
    rw [hp] at this
    simpa using this.symm
  have c2 := h.cells.2.2
  rw [hf0] at c2
  obtain ⟨oa, cp, rfl, _, _⟩ := hv
  rw [hL]
  clear h hk hL
  have h0 : ¬ b < 0 := by omega
  have h1 : ¬ (n : Int) ≤ b := by omega
  clear hb
  go_enter Try.func55, Try.ntmps55
  go_wp2_with (go_at_call 48; refine K1.out.mono ?_; rintro e w1 ⟨rfl, hw1⟩; obtain rfl : W = w1 := hw1.symm)
  go_ret
  exact ⟨rfl, rfl⟩
theorem splice_get {C L : List Nat} {o : Nat} (hf : o + L.length ≤ C.length) (i : Nat) : (splice C o L)[i]? = if i < o then C[i]? else if i < o + L.length then L[i - o]? else C[i]? := by
  unfold splice
  rw [List.getElem?_append, List.length_take, Nat.min_eq_left (by omega)]
  by_cases h1 : i < o
  · rw [if_pos h1, if_pos h1, List.getElem?_take_of_lt h1]
  · rw [if_neg h1, if_neg h1, List.getElem?_append]
    by_cases h2 : i < o + L.length
    · rw [if_pos h2, if_pos (by omega)]
    · rw [if_neg h2, if_neg (by omega), List.getElem?_drop]
      congr 1
      omega
theorem splice_set {C L : List Nat} {o j z : Nat} (hz : L[j]? = some z) (hf : o + L.length ≤ C.length) : (splice C o (L.take j)).set (o + j) z = splice C o (L.take (j + 1)) := by
  obtain ⟨hj, _⟩ := List.getElem?_eq_some_iff.1 hz
  have l1 : (L.take j).length = j := by rw [List.length_take]; omega
  have l2 : (L.take (j + 1)).length = j + 1 := by rw [List.length_take]; omega
  apply List.ext_getElem?
  intro i
  rw [List.getElem?_set, splice_get (by omega), splice_get (by omega), splice_len (by omega), l1, l2]
  by_cases h1 : o + j = i
  · subst h1
    rw [if_pos rfl, if_pos (by omega), if_neg (by omega), if_pos (by omega), List.getElem?_take_of_lt (by omega), show o + j - o = j by omega, hz]
  · rw [if_neg h1]
    by_cases h2 : i < o
    · rw [if_pos h2, if_pos h2]
    · rw [if_neg h2, if_neg h2]
      by_cases h3 : i < o + j
      · rw [if_pos h3, if_pos (by omega), List.getElem?_take_of_lt (by omega), List.getElem?_take_of_lt (by omega)]
      · rw [if_neg h3, if_neg (by omega)]
theorem cellsB_set (L : List Nat) (i z : Nat) : (cellsB L).set i (.int .u8 (z : Int)) = cellsB (L.set i z) := by simp [cellsB]
theorem RkA.st {W : World} {r rb cap : Nat} {D : Dk} (h : RkA W r rb cap D) (i z : Nat) : RkA (W.setCell ⟨rb, i, none⟩ (.int .u8 (z : Int))) r rb cap { D with bytes := D.bytes.set i z } := by
  refine ⟨?_, ?_⟩
  · have e := (Below.heap_setCell W ⟨rb, i, none⟩ (.int .u8 (z : Int)) r h.ne).trans h.bx
    show _ = some (Obj.cells #[.slice (some ⟨rb, 0, none⟩) (D.bytes.set i z).length cap, .int .i64 D.writes, .int .i64 D.fuse] _ _)
    rw [List.length_set]
    exact e
  · have e := (h.row.stored i (.int .u8 (z : Int))).1
    show World.ownsRow _ 0 _ 1 (.slice (some ⟨rb, 0, none⟩) (D.bytes.set i z).length cap) (D.bytes.set i z).length (cellsB (D.bytes.set i z))
    rw [List.length_set, ← cellsB_set]
    exact e
theorem RkA.pw {W : World} {r rb cap : Nat} {D : Dk} (h : RkA W r rb cap D) (p : Bool) : RkA W r rb cap { D with power := p } := ⟨h.bx, h.row⟩
theorem Kp.setb {g gb : Nat} {W W' : World} (h : Kp g gb W W') (i : Nat) (v : Value) : Kp g gb W (W'.setCell ⟨gb, i, none⟩ v) :=
  ⟨h.os, h.tape, h.output, by simpa [World.setCell] using h.size, fun k hk h1 h2 => (Below.heap_setCell _ _ _ _ h2).trans (h.block k hk h1 h2)⟩
theorem RkA.drew {W : World} {r rb cap : Nat} {D : Dk} (h : RkA W r rb cap D) : RkA W.drew r rb cap D := ⟨h.bx, own_same h.row rfl⟩
theorem Kp.drew {g gb : Nat} {W W' : World} (h : Kp g gb W W') : Kp g gb W W'.drew := h.trans (Kp.of_below (Below.refl _ W').drew)
theorem splice_nil (C : List Nat) (o : Nat) : splice C o [] = C := by simp [splice]
theorem RkA.rcell {W : World} {r rb cap : Nat} {D : Dk} (h : RkA W r rb cap D) {i : Nat} (hi : i < D.bytes.length) : ∃ y, W.cell? ⟨rb, i, none⟩ = some y := by
  have := h.row.cellAt i (by omega)
  obtain ⟨z, hz⟩ : ∃ z, D.bytes[i]? = some z := ⟨_, List.getElem?_eq_getElem hi⟩
  exact ⟨.int .u8 (z : Int), by rw [this]; simp [cellsB, hz]⟩
theorem RkA.rfree {W : World} {r rb cap : Nat} {D : Dk} (h : RkA W r rb cap D) (i : Nat) : W.frozen? ⟨rb, i, none⟩ = false := by
  obtain ⟨cs, hb⟩ := h.blk
  simp [World.frozen?, hb]
set_option maxRecDepth 100000 in
set_option maxHeartbeats 2000000 in
theorem rWriteF {W : World} {r rb cap : Nat} {D : Dk} {n : Nat} (h : RkA W r rb cap D) (hk : DkO D n) (b : Nat) (hb : b < n) (hp : D.power = true) (L : List Nat) (v : Value) (hv : ∀ V, Kp r rb W V → RowC V v L) (hL : L.length = 16) (hw : D.writes < 1000000000000) : Calls Try.prog 55 #[.pointer (some ⟨r, 0, none⟩), .int .i64 (b : Int), v] W (RcP W r rb cap (wrD D b L) (.int .i64 0)) := by
  have K1 := hide' (rBlocksF h hk.len hk.most)
  have hf0 : ¬ D.fuse = 0 := by
    have := hk.pow
    rw [hp] at this
    simpa using this.symm
  have c2 := h.cells.2.2
  have hf1 : -1 ≤ D.fuse := hk.fu0
  have hf2 : D.fuse < 9223372036854775808 := hk.fu1
  have hb0 : 0 ≤ D.writes := hk.wr0
  have hlen := hide' hk.len
  have hn := hk.most
  have hcp : Hid (16 * n ≤ cap) := by
    rcases h.row.2 with ⟨e, _⟩ | ⟨g', c, cur, e, _, _, hc, _⟩
    · cases e
    · cases e; show 16 * n ≤ cap; rw [← hk.len]; exact hc
  obtain ⟨oa, cp, rfl, _, _⟩ := hv W (Kp.refl _ _ _)
  have hv' := hide' hv
  have hL' := hide' hL
  have h' := hide' h
  rw [hL] at hv' ⊢
  clear h hk hv hL
  have h0 : ¬ (b : Int) < 0 := by omega
  have h1 : ¬ (n : Int) ≤ (b : Int) := by omega
  have h1' : ¬ n ≤ b := by omega
  have hf0' : (D.fuse == 0) = false := by simpa using hf0
  go_enter Try.func55, Try.ntmps55
  go_upto_block 0 with (go_at_call 48; refine K1.out.mono ?_; rintro e w1 ⟨rfl, hw1⟩; obtain rfl : W = w1 := hw1.symm)
  go_cut [7] from 26 to 42 (fun _ wx => Hid (RkA wx r rb cap { D with bytes := splice D.bytes (16 * b) L }) ∧ Hid (Kp r rb W wx))
  case first =>
    go_wp2_with fail
    go_loopw [7] (fun jv wr => ∃ j : Nat, j ≤ 16 ∧ jv = .int .i64 (j : Int) ∧ Hid (RkA wr r rb cap { D with bytes := splice D.bytes (16 * b) (L.take j) }) ∧ Hid (Kp r rb W wr)) (fun jv _ => ((16 : Int) - intOf jv).toNat)
    case atStart => exact ⟨0, by omega, rfl, by rw [List.take_zero, splice_nil]; exact h', Kp.refl _ _ _⟩
    case round =>
      obtain ⟨j, hj, rfl, hR, hK⟩ := hrel
      by_cases hlt : j < 16
      · have hlt' : (j : Int) < 16 := by omega
        obtain ⟨z, hz⟩ : ∃ z, L[j]? = some z := ⟨_, List.getElem?_eq_getElem (by rw [hL'.out]; exact hlt)⟩
        obtain ⟨gd, od, ho, hcell⟩ : ∃ gd od, oa = some ⟨gd, od, none⟩ ∧ ∀ V, Kp r rb W V → V.cell? ⟨gd, od + j, none⟩ = some (.int .u8 (z : Int)) := by
          obtain ⟨oa', cp', e', _, hcc⟩ := hv'.out wr hK.out
          obtain ⟨gd, od, e2, _⟩ := hcc j z hz
          injection e' with e1 _ _
          refine ⟨gd, od, e1.trans e2, fun V hV => ?_⟩
          obtain ⟨oa3, cp3, e3, _, hc3⟩ := hv'.out V hV
          obtain ⟨g3, o3, e4, hc4⟩ := hc3 j z hz
          injection e3 with e5 _ _
          rw [← e5, e1.trans e2] at e4
          cases e4
          exact hc4
        subst ho
        have hcell' := hide' hcell
        clear hcell
        have hl2 : (splice D.bytes (16 * b) (L.take j)).length = 16 * n := by
          rw [splice_len (by rw [List.length_take, hlen.out, hL'.out]; omega)]
          exact hlen.out
        obtain ⟨y, hy⟩ := hR.out.rcell (i := b * 16 + j) (by show _ < (splice D.bytes (16 * b) (L.take j)).length; rw [hl2]; omega)
        have hfr := hR.out.rfree
        have d0 : wr.cell? ⟨r, 0, none⟩ = some (.slice (some ⟨rb, 0, none⟩) (splice D.bytes (16 * b) (L.take j)).length cap) := hR.out.cells.1
        rw [hl2] at d0
        have hR2 := hR.out.st (16 * b + j) z
        rw [show ({ D with bytes := splice D.bytes (16 * b) (L.take j) } : Dk).bytes.set (16 * b + j) z = splice D.bytes (16 * b) (L.take (j + 1)) from splice_set hz (by rw [hlen.out, hL'.out]; omega), show 16 * b + j = b * 16 + j by omega] at hR2
        have hR3 := hide' hR2
        have hK2 := hide' (hK.out.setb (b * 16 + j) (.int .u8 (z : Int)))
        clear hR2
        have hl3 : (splice D.bytes (16 * b) (L.take (j + 1))).length = 16 * n := by
          rw [splice_len (by rw [List.length_take, hlen.out, hL'.out]; omega)]
          exact hlen.out
        have d0' : (wr.setCell ⟨rb, b * 16 + j, none⟩ (.int .u8 (z : Int))).cell? ⟨r, 0, none⟩ = some (.slice (some ⟨rb, 0, none⟩) (splice D.bytes (16 * b) (L.take (j + 1))).length cap) := hR3.out.cells.1
        rw [hl3] at d0'
        have d1 := hcell'.out wr hK.out
        have d1' := hcell'.out _ hK2.out
        have hcp' := hcp.out
        clear hl2 hl3
        have hwr1 : IntKind.i64.wrap ((b : Int) * 16) = (b : Int) * 16 := by simp [IntKind.wrap, IntKind.bits, IntKind.signed]; omega
        have hwr2 : IntKind.i64.wrap ((b : Int) * 16 + (j : Int)) = (b : Int) * 16 + (j : Int) := by simp [IntKind.wrap, IntKind.bits, IntKind.signed]; omega
        have hix1 : (b : Int) * 16 + (j : Int) < 16 * (n : Int) := by omega
        have hix2 : b * 16 + j < 16 * n := by omega
        have hix3 : 0 ≤ (b : Int) * 16 + (j : Int) := by omega
        have hix4 : ((b : Int) * 16 + (j : Int)).toNat = b * 16 + j := by omega
        go_upto_region 8 with fail
        go_region_held3 (fun V => V.cell? ⟨r, 0, none⟩ = some (.slice (some ⟨rb, 0, none⟩) (16 * n) cap) ∧ V.cell? ⟨gd, od + j, none⟩ = some (.int .u8 (z : Int))) (first | assumption | (exact ⟨d0, d1⟩) | (exact ⟨d0', d1'⟩)) (first | fail)
        go_wp2
        exact ⟨⟨j + 1, by omega, by go_num, hR3.out.drew, hK2.out.drew⟩, by simp [intOf]; omega⟩
      · have hlt' : ¬ (j : Int) < 16 := by omega
        obtain rfl : j = 16 := by omega
        rw [List.take_of_length_le (Nat.le_of_eq hL'.out)] at hR
        go_wp2_with fail
        go_meet
        case rel => exact ⟨hR, hK⟩
  case rest =>
    obtain ⟨hR, hK⟩ := hcut
    have d1 : wc.cell? ⟨r, 1, none⟩ = some (.int .i64 D.writes) := hR.out.cells.2.1
    have hfr := hR.out.free
    have hR2 := hide' (hR.out.wr (D.writes + 1))
    have d2 : (wc.setCell ⟨r, 1, none⟩ (.int .i64 (D.writes + 1))).cell? ⟨r, 2, none⟩ = some (.int .i64 D.fuse) := hR2.out.cells.2.2
    by_cases hpos : 0 < D.fuse
    · have hR3 := hR2.out.ft (decide (D.fuse - 1 ≠ 0)) (D.fuse - 1)
      have e : (⟨splice D.bytes (16 * b) L, D.writes + 1, decide (D.fuse - 1 ≠ 0), D.fuse - 1⟩ : Dk) = wrD D b L := by
        unfold wrD
        rw [show max (D.fuse - 1) (-1) = D.fuse - 1 by omega]
      have hR4 : Hid (RkA ((wc.setCell ⟨r, 1, none⟩ (.int .i64 (D.writes + 1))).setCell ⟨r, 2, none⟩ (.int .i64 (D.fuse - 1))) r rb cap (wrD D b L)) := by rw [← e]; exact hR3
      clear hR3 e
      go_wp2
      go_ret
      exact ⟨rfl, hR4, (hK.out.set _ _).set _ _⟩
    · have hR3 := hR2.out.pw (decide (D.fuse - 1 ≠ 0))
      have e : (⟨splice D.bytes (16 * b) L, D.writes + 1, decide (D.fuse - 1 ≠ 0), D.fuse⟩ : Dk) = wrD D b L := by
        unfold wrD
        rw [show max (D.fuse - 1) (-1) = D.fuse by omega]
      have hR4 : Hid (RkA (wc.setCell ⟨r, 1, none⟩ (.int .i64 (D.writes + 1))) r rb cap (wrD D b L)) := by rw [← e]; exact hR3
      clear hR3 e
      go_wp2
      go_ret
      exact ⟨rfl, hR4, hK.out.set _ _⟩
end Go.Proofs.Ytmhbidnpfefjpaa

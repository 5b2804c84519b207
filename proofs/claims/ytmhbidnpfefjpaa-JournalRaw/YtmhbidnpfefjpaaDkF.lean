/- The disk in memory; its functions. -/
import Derived.Test.YtmhbidnpfefjpaaDkB
namespace Go.Proofs.Ytmhbidnpfefjpaa
open Go.RowKit
/-- A disk. -/
structure Dk where
  bytes : List Nat
  writes : Int
  power : Bool
  fuse : Int
def DkA (W : World) (g gb : Nat) (D : Dk) : Prop :=
  W.heap[g]? = some (.cells #[.slice (some ⟨gb, 0, none⟩) D.bytes.length D.bytes.length, .int .i64 D.writes, .bool D.power, .int .i64 D.fuse] 71 (0, 0)) ∧ BkB W gb D.bytes
/-- Only these two blocks are written. -/
structure Kp (g gb : Nat) (W W' : World) : Prop where
  os : W'.os = W.os
  tape : W'.tape = W.tape
  output : W'.output = W.output
  size : W.heap.size ≤ W'.heap.size
  block : ∀ k, k < W.heap.size → k ≠ g → k ≠ gb → W'.heap[k]? = W.heap[k]?
theorem Kp.refl (g gb : Nat) (W : World) : Kp g gb W W := ⟨rfl, rfl, rfl, Nat.le_refl _, fun _ _ _ _ => rfl⟩
theorem Kp.trans {g gb : Nat} {a b c : World} (h : Kp g gb a b) (k : Kp g gb b c) : Kp g gb a c :=
  ⟨k.os.trans h.os, k.tape.trans h.tape, k.output.trans h.output, Nat.le_trans h.size k.size, fun i hi h1 h2 => (k.block i (Nat.lt_of_lt_of_le hi h.size) h1 h2).trans (h.block i hi h1 h2)⟩
theorem Kp.of_below {g gb : Nat} {W W' : World} (h : Below W.heap.size W W') : Kp g gb W W' := ⟨h.os, h.tape, h.output, h.size, fun k hk _ _ => h.block k hk⟩
theorem Kp.below {g gb B : Nat} {W W' : World} (h : Kp g gb W W') (hg : B ≤ g) (hb : B ≤ gb) (hB : B ≤ W.heap.size) : Below B W W' :=
  ⟨h.os, h.tape, h.output, h.size, fun k hk => h.block k (by omega) (by omega) (by omega)⟩
theorem Kp.set {g gb : Nat} {W W' : World} (h : Kp g gb W W') (i : Nat) (v : Value) : Kp g gb W (W'.setCell ⟨g, i, none⟩ v) :=
  ⟨h.os, h.tape, h.output, by simpa [World.setCell] using h.size, fun k hk h1 h2 => (Below.heap_setCell _ _ _ _ h1).trans (h.block k hk h1 h2)⟩
theorem DkA.ne {W : World} {g gb : Nat} {D : Dk} (h : DkA W g gb D) : g ≠ gb := by
  rintro rfl
  obtain ⟨h1, h2⟩ := h
  unfold BkB at h2
  rw [h1] at h2
  injection h2 with h2
  injection h2 with _ h2
  exact absurd h2 (by decide)
theorem DkA.kp {W W' : World} {g gb x y : Nat} {D : Dk} (h : DkA W g gb D) (k : Kp x y W W') (h1 : g ≠ x) (h2 : g ≠ y) (h3 : gb ≠ x) (h4 : gb ≠ y) : DkA W' g gb D :=
  ⟨(k.block g (blk_lt h.1) h1 h2).trans h.1, (k.block gb (blk_lt h.2) h3 h4).trans h.2⟩
theorem DkA.below {W W' : World} {g gb B : Nat} {D : Dk} (h : DkA W g gb D) (k : Below B W W') (hB : W.heap.size ≤ B) : DkA W' g gb D :=
  ⟨(k.block g (Nat.lt_of_lt_of_le (blk_lt h.1) hB)).trans h.1, (k.block gb (Nat.lt_of_lt_of_le (blk_lt h.2) hB)).trans h.2⟩
theorem DkA.cells {W : World} {g gb : Nat} {D : Dk} (h : DkA W g gb D) : W.cell? ⟨g, 0, none⟩ = some (.slice (some ⟨gb, 0, none⟩) D.bytes.length D.bytes.length) ∧ W.cell? ⟨g, 1, none⟩ = some (.int .i64 D.writes) ∧ W.cell? ⟨g, 2, none⟩ = some (.bool D.power) ∧ W.cell? ⟨g, 3, none⟩ = some (.int .i64 D.fuse) := by
  obtain ⟨h1, _⟩ := h
  refine ⟨?_, ?_, ?_, ?_⟩ <;> simp [World.cell?, h1]
theorem DkA.free {W : World} {g gb : Nat} {D : Dk} (h : DkA W g gb D) (i : Nat) : W.frozen? ⟨g, i, none⟩ = false := by
  obtain ⟨h1, _⟩ := h
  simp [World.frozen?, h1]
/-- A disk as the document has it: some blocks, numbers in their bounds. -/
structure DkO (D : Dk) (n : Nat) : Prop where
  len : D.bytes.length = 16 * n
  pos : 0 < n
  most : n ≤ 65536
  wr0 : 0 ≤ D.writes
  wr1 : D.writes ≤ 1000000000000
  fu0 : -1 ≤ D.fuse
  fu1 : D.fuse < 9223372036854775808
  pow : D.power = decide (D.fuse ≠ 0)
def newD (n : Nat) : Dk := ⟨List.replicate (16 * n) 0, 0, true, -1⟩
theorem newD_ok {n : Nat} (h1 : 0 < n) (h2 : n ≤ 65536) : DkO (newD n) n := ⟨by simp [newD], h1, h2, by simp [newD], by simp [newD], by simp [newD], by simp [newD], by simp [newD]⟩
/-- A new disk. -/
def NewP (w : World) (D : Dk) (e : Ending) (w' : World) : Prop :=
  ∃ g gb, e = .returned (.tuple #[.pointer (some ⟨g, 0, none⟩), .int .i64 0]) ∧ Hid (DkA w' g gb D) ∧ Hid (w.heap.size ≤ g ∧ w.heap.size ≤ gb) ∧ Hid (Below w.heap.size w w')
set_option maxRecDepth 100000 in
set_option maxHeartbeats 1000000 in
theorem newF (n : Nat) (w : World) (h1 : 0 < n) (h2 : n ≤ 65536) : Calls Try.prog 24 #[.int .i64 (n : Int)] w (NewP w (newD n)) := by
  unfold NewP
  go_enter Try.func24, Try.ntmps24
  go_wp2_with (at_make; refine make_bytes rfl _ _ rfl (16 * n) _ _ rfl rfl (by omega) (by omega) (by omega) ?_; intro w2 hb2 hw2; have hb3 := hide' hb2; have hw3 := hide' hw2; clear hb2 hw2)
  go_ret2
  have hlt := blk_lt hb3.out
  refine ⟨_, _, rfl, ?_, ⟨hw3.out.size, Nat.le_refl _⟩, hw3.out.alloc hw3.out.size _⟩
  refine ⟨?_, hb3.out.below ((Below.refl _ w2).alloc (Nat.le_refl _) _) hlt⟩
  rw [show (newD n).bytes.length = 16 * n by simp [newD]]
  exact heap_new _ _
set_option maxRecDepth 100000 in
theorem newBad (b : Int) (w : World) (hb : b < 1 ∨ 65536 < b) : Calls Try.prog 24 #[.int .i64 b] w fun e w' => e = .returned (.tuple #[.pointer none, .int .i64 1]) ∧ w' = w := by
  go_enter Try.func24, Try.ntmps24
  by_cases h : b < 1
  · go_wp2
    go_ret2
    exact ⟨rfl, rfl⟩
  · have h2 : 65536 < b := by omega
    go_wp2
    go_ret2
    exact ⟨rfl, rfl⟩
set_option maxRecDepth 100000 in
theorem blocksF {W : World} {g gb : Nat} {D : Dk} {n : Nat} (h : DkA W g gb D) (hk : D.bytes.length = 16 * n) (hn : n ≤ 65536) : Calls Try.prog 18 #[.pointer (some ⟨g, 0, none⟩)] W fun e w' => e = .returned (.int .i64 (n : Int)) ∧ w' = W := by
  have hc := h.cells.1
  rw [hk] at hc
  clear h hk
  go_enter Try.func18, Try.ntmps18
  go_wp2
  go_ret
  exact ⟨ret_int (by omega), rfl⟩
set_option maxRecDepth 100000 in
theorem hasF {W : World} {g gb : Nat} {D : Dk} {n : Nat} (h : DkA W g gb D) (hk : D.bytes.length = 16 * n) (hn : n ≤ 65536) (b : Int) : Calls Try.prog 73 #[.pointer (some ⟨g, 0, none⟩), .int .i64 b] W fun e w' => e = .returned (.bool (decide (0 ≤ b ∧ b < (n : Int)))) ∧ w' = W := by
  have K := hide' (blocksF h hk hn)
  clear h hk
  go_enter Try.func73, Try.ntmps73
  by_cases hb : b < 0
  · have : ¬ 0 ≤ b := by omega
    go_wp2
    go_ret
    exact ⟨ret_bool (by simp; omega), rfl⟩
  · have : 0 ≤ b := by omega
    go_wp2_with (go_at_call 18; refine K.out.mono ?_; rintro e w1 ⟨rfl, hw1⟩; obtain rfl : W = w1 := hw1.symm)
    go_ret
    exact ⟨ret_bool (by simp [this]), rfl⟩
set_option maxRecDepth 100000 in
theorem atF {W : World} {g gb : Nat} {D : Dk} {n : Nat} (h : DkA W g gb D) (hk : D.bytes.length = 16 * n) (hn : n ≤ 65536) (b : Nat) (hb : b < n) : Calls Try.prog 74 #[.pointer (some ⟨g, 0, none⟩), .int .i64 (b : Int)] W fun e w' => e = .returned (.slice (some ⟨gb, 16 * b, none⟩) 16 (16 * n - 16 * b)) ∧ w' = W := by
  have hc := h.cells.1
  rw [hk] at hc
  clear h hk
  go_enter Try.func74, Try.ntmps74
  go_wp2
  go_ret
  refine ⟨?_, rfl⟩
  show Ending.returned (Value.slice (some ⟨gb, b * 16, none⟩) ((b + 1) * 16 - b * 16) (16 * n - b * 16)) = _
  rw [show b * 16 = 16 * b by omega, show (b + 1) * 16 - 16 * b = 16 by omega]
/-- Bytes in new memory. -/
def CoP (w : World) (L : List Nat) (e : Ending) (w' : World) : Prop :=
  e = .returned (.slice (some ⟨w.heap.size, 0, none⟩) L.length L.length) ∧ Hid (BkB w' w.heap.size L) ∧ Hid (Below w.heap.size w w')
theorem splice_all (L : List Nat) : splice (cellsB (List.replicate L.length 0)) 0 (cellsB L) = cellsB L := by
  simp [splice, cellsB]
theorem kp_setRow (W : World) (g : Nat) (cs : Array Value) : Kp g g W (W.setRow g cs) :=
  ⟨rfl, rfl, rfl, by simp [World.setRow], fun k _ h1 _ => setRow_other W g k cs h1⟩
/-- As many bytes as there is room for, laid over others. -/
theorem copy_bytes {W : World} {ops : Array Oper} {rest : List Oper} {o : Oper} {a : Act} {Q : Exit → Act → World → Prop} (hgd : o.guard = none) (d s : Operand) (ho : o.op = .call { callee := .builtin .copy, args := #[d, s], argTypes := #[34, 34] })
    (g off m dCap sCap : Nat) (sp : Option Addr) (hd : a.eval d = .slice (some ⟨g, off, none⟩) m dCap) (hs : a.eval s = .slice sp m sCap) (C L : List Nat) (hg : BkB W g C) (hm : L.length = m) (hc : Hid (∀ (i : Nat) (z : Nat), L[i]? = some z → ∃ g o, sp = some ⟨g, o, none⟩ ∧ W.cell? ⟨g, o + i, none⟩ = some (.int .u8 (z : Int)))) (hf : off + m ≤ C.length)
    (h : ∀ w', BkB w' g (splice C off L) → Kp g g W w' → wpList Try.prog ops Q rest (a.put o.dst (goInt m)) w') : wpList Try.prog ops Q (o :: rest) a W := by
  subst hm
  cases L with
  | nil =>
    refine wpList_copy_nothing hgd d s 34 34 ho 5 Try.underlying34 sizeU8 _ _ _ _ _ _ hd hs rfl ?_
    exact h W (by simpa [splice] using hg) (Kp.refl _ _ _)
  | cons x l =>
    obtain ⟨g', o', rfl, _⟩ := hc.out 0 x rfl
    refine wpList_copy_own hgd d s 34 34 ho 5 Try.underlying34 sizeU8 g off _ dCap _ _ sCap hd hs (cellsB C).toArray 5 hg (cellsB (x :: l)) (by rw [cellsB_len]; exact (Nat.min_self _).symm) (fun j v hj => ?_) (by rw [cellsB_len]; simpa [cellsB_len] using hf) (oneB _) ?_
    · obtain ⟨z, hz, rfl⟩ := cellsB_at hj
      obtain ⟨g2, o2, e, hcell⟩ := hc.out j z hz
      cases e
      rw [Addr.add_lit]
      exact hcell
    · have e := setRow_heap W g _ (splice (cellsB C) off (cellsB (x :: l))).toArray _ _ hg
      rw [cellsB_splice] at e
      have e2 : W.setRow g ((cellsB C).toArray.toList.take off ++ (cellsB (x :: l) ++ (cellsB C).toArray.toList.drop (off + (cellsB (x :: l)).length))).toArray = W.setRow g (cellsB (splice C off (x :: l))).toArray := by rw [← cellsB_splice]; rfl
      rw [e2, cellsB_len]
      exact h _ e (kp_setRow _ _ _)
theorem row_up {w w2 : World} {oa : Option Addr} {L : List Nat} (hc' : Hid (∀ (i : Nat) (z : Nat), L[i]? = some z → ∃ g o, oa = some ⟨g, o, none⟩ ∧ w.cell? ⟨g, o + i, none⟩ = some (.int .u8 (z : Int)))) (hw3 : Hid (Below w.heap.size w w2)) : Hid (∀ (i : Nat) (z : Nat), L[i]? = some z → ∃ g o, oa = some ⟨g, o, none⟩ ∧ w2.cell? ⟨g, o + i, none⟩ = some (.int .u8 (z : Int))) := fun i z hz => by
  obtain ⟨g, o, e1, e2⟩ := hc'.out i z hz
  exact ⟨g, o, e1, (hw3.out.cell (p := ⟨g, o + i, none⟩) (cell_lt e2)).trans e2⟩
theorem splice_zero {m : Nat} {L : List Nat} (h : L.length = m) : splice (List.replicate m 0) 0 L = L := by
  subst h
  simp [splice]
set_option maxRecDepth 100000 in
set_option maxHeartbeats 1000000 in
theorem copiedF (L : List Nat) (v : Value) (w : World) (h : RowC w v L) (hl : L.length ≤ 10000000) : Calls Try.prog 40 #[v] w (CoP w L) := by
  unfold CoP
  obtain ⟨oa, cap, rfl, _, hc⟩ := h
  have hc' := hide' hc
  clear hc
  generalize hm : L.length = m at *
  have hm' := hide' hm
  clear hm
  go_enter Try.func40, Try.ntmps40
  go_wp2_with (first | (at_make; refine make_bytes rfl _ _ rfl m _ _ rfl rfl rfl rfl (by omega) ?_; intro w2 hb2 hw2; have hb3 := hide' hb2; have hw3 := hide' hw2; clear hb2 hw2; have hc2 := row_up hc' hw3) | (refine copy_bytes rfl (.tmp 7) (.tmp 8) rfl w.heap.size 0 m m cap oa rfl rfl _ L hb3.out hm'.out hc2 (by simp) ?_; intro w3 hb4 hw4; have hb5 := hide' hb4; have hw5 := hide' hw4; clear hb4 hw4))
  go_ret
  rw [splice_zero hm'.out] at hb5
  exact ⟨rfl, hb5, hw3.out.trans (hw5.out.below (Nat.le_refl _) (Nat.le_refl _) hw3.out.size)⟩
/-- Load: a disk of these bytes. -/
def ldD (L : List Nat) : Dk := ⟨L, 0, true, -1⟩
theorem ldD_ok {L : List Nat} {n : Nat} (hL : L.length = 16 * n) (h1 : 0 < n) (h2 : n ≤ 65536) : DkO (ldD L) n := ⟨hL, h1, h2, by simp [ldD], by simp [ldD], by simp [ldD], by simp [ldD], by simp [ldD]⟩
set_option maxRecDepth 100000 in
set_option maxHeartbeats 1000000 in
theorem loadF (L : List Nat) (n : Nat) (v : Value) (w : World) (h : RowC w v L) (hL : L.length = 16 * n) (h1 : 0 < n) (h2 : n ≤ 65536) : Calls Try.prog 13 #[v] w (NewP w (ldD L)) := by
  obtain ⟨oa, cap, rfl, _, hc⟩ := h
  have hc' := hide' hc
  have K := hide' (newF n w h1 h2)
  unfold NewP at K ⊢
  clear hc
  have hm' := hide' hL
  rw [hL]
  clear hL
  go_enter Try.func13, Try.ntmps13
  have hdiv : ((16 * n : Nat) : Int) % 16 = 0 := by omega
  have hdiv2 : ((16 * n : Nat) : Int) / 16 = (n : Int) := by omega
  go_wp2_with fail
  refine K.out.mono ?_
  rintro e w1 ⟨g, gb, rfl, hd, hge, hb⟩
  have hc2 := row_up hc' hb
  obtain ⟨c0, _⟩ := hd.out.cells
  rw [show (newD n).bytes.length = 16 * n by simp [newD]] at c0
  have hbk := hide' hd.out.2
  go_wp2_with (refine copy_bytes rfl (.tmp 23) (.tmp 24) rfl gb 0 (16 * n) (16 * n) cap oa rfl rfl _ L hbk.out hm'.out hc2 (by simp [newD]) ?_; intro w3 hb4 hw4; have hb5 := hide' hb4; have hw5 := hide' hw4; clear hb4 hw4)
  go_ret2
  rw [show (newD n).bytes = List.replicate (16 * n) 0 from rfl, splice_zero hm'.out] at hb5
  refine ⟨g, gb, rfl, ⟨?_, hb5.out⟩, hge, hb.out.trans (hw5.out.below hge.out.2 hge.out.2 hb.out.size)⟩
  have hne := hd.out.ne
  have h0 := (hw5.out.block g (blk_lt hd.out.1) hne hne).trans hd.out.1
  rw [show (newD n).bytes.length = 16 * n by simp [newD]] at h0
  rw [show (ldD L).bytes.length = 16 * n from hm'.out]
  exact h0
set_option maxRecDepth 100000 in
set_option maxHeartbeats 1000000 in
theorem loadBad (L : List Nat) (v : Value) (w : World) (h : RowC w v L) (hL : L.length % 16 ≠ 0 ∨ L.length = 0) (hs : L.length ≤ 2000) : Calls Try.prog 13 #[v] w fun e w' => e = .returned (.tuple #[.pointer none, .int .i64 1]) ∧ w' = w := by
  obtain ⟨oa, cap, rfl, _, hc⟩ := h
  clear hc
  generalize L.length = m at *
  by_cases h0 : m = 0
  · subst h0
    have K := hide' (newBad 0 w (.inl (by omega)))
    go_enter Try.func13, Try.ntmps13
    go_wp2_with (go_at_call 24; refine K.out.mono ?_; rintro e w1 ⟨rfl, hw1⟩; obtain rfl : w = w1 := hw1.symm)
    go_ret2
    exact ⟨rfl, rfl⟩
  · have h1 : ¬ (m : Int) % 16 = 0 := by omega
    go_enter Try.func13, Try.ntmps13
    go_wp2
    go_ret2
    exact ⟨rfl, rfl⟩
theorem set_heap {W : World} {g : Nat} {cs : Array Value} {T : TypeId} {fz : Nat × Nat} (h : W.heap[g]? = some (.cells cs T fz)) (i : Nat) (v : Value) : (W.setCell ⟨g, i, none⟩ v).heap[g]? = some (.cells (cs.setIfInBounds i v) T fz) := by
  rw [setCell_eq_setRow W g i cs T fz v h]
  exact setRow_heap W g _ _ T fz h
theorem DkA.fs {W : World} {g gb : Nat} {D : Dk} (h : DkA W g gb D) (p : Bool) (f : Int) : DkA ((W.setCell ⟨g, 3, none⟩ (.int .i64 f)).setCell ⟨g, 2, none⟩ (.bool p)) g gb { D with power := p, fuse := f } := by
  have hne := h.ne
  refine ⟨?_, ?_⟩
  · have e := set_heap (set_heap h.1 3 (.int .i64 f)) 2 (.bool p)
    simpa using e
  · exact (Below.heap_setCell _ _ _ _ hne.symm).trans ((Below.heap_setCell _ _ _ _ hne.symm).trans h.2)
theorem DkA.rs {W : World} {g gb : Nat} {D : Dk} (h : DkA W g gb D) (p : Bool) (f : Int) : DkA ((W.setCell ⟨g, 2, none⟩ (.bool p)).setCell ⟨g, 3, none⟩ (.int .i64 f)) g gb { D with power := p, fuse := f } := by
  have hne := h.ne
  refine ⟨?_, ?_⟩
  · have e := set_heap (set_heap h.1 2 (.bool p)) 3 (.int .i64 f)
    simpa using e
  · exact (Below.heap_setCell _ _ _ _ hne.symm).trans ((Below.heap_setCell _ _ _ _ hne.symm).trans h.2)
theorem DkA.wr {W : World} {g gb : Nat} {D : Dk} (h : DkA W g gb D) (k : Int) : DkA (W.setCell ⟨g, 1, none⟩ (.int .i64 k)) g gb { D with writes := k } := by
  have hne := h.ne
  refine ⟨?_, ?_⟩
  · have e := set_heap h.1 1 (.int .i64 k)
    simpa using e
  · exact (Below.heap_setCell _ _ _ _ hne.symm).trans h.2
/-- What Fuse makes of a disk. -/
def fuD (D : Dk) (f : Int) : Dk := if D.power = true then { D with power := decide (f ≠ 0), fuse := max f (-1) } else D
/-- A call that changes one disk. -/
def ChP (W : World) (g gb : Nat) (D : Dk) (v : Value) (e : Ending) (w' : World) : Prop :=
  e = .returned v ∧ Hid (DkA w' g gb D) ∧ Hid (Kp g gb W w')
set_option maxRecDepth 100000 in
set_option maxHeartbeats 1000000 in
theorem fuseF {W : World} {g gb : Nat} {D : Dk} (h : DkA W g gb D) (f : Int) : Calls Try.prog 20 #[.pointer (some ⟨g, 0, none⟩), .int .i64 f] W (ChP W g gb (fuD D f) (.tuple #[])) := by
  unfold ChP
  obtain ⟨_, _, c2, c3⟩ := h.cells
  have hf := h.free
  have h' := hide' h
  clear h
  by_cases hp : D.power = true
  · rw [hp] at c2
    rw [show fuD D f = { D with power := decide (f ≠ 0), fuse := max f (-1) } by unfold fuD; rw [if_pos hp]]
    by_cases h0 : f = 0
    · subst h0
      go_enter Try.func20, Try.ntmps20
      go_wp2
      exact bodyPost_end (results_none rfl _ _ _) rfl ⟨rfl, h'.out.fs false 0, ((Kp.refl _ _ _).set _ _).set _ _⟩
    · have h1 : (f != 0) = true := by simp [h0]
      rw [show decide (f ≠ 0) = true by simp [h0]]
      by_cases h2 : -1 ≤ f
      · rw [show max f (-1) = f by omega]
        have h3 := hide' (h'.out.fs true f)
        go_enter Try.func20, Try.ntmps20
        go_wp2
        exact bodyPost_end (results_none rfl _ _ _) rfl ⟨rfl, h3, ((Kp.refl _ _ _).set _ _).set _ _⟩
      · rw [show max f (-1) = -1 by omega]
        have h4 : f < -1 := by omega
        have h3 := hide' (h'.out.fs true (-1))
        go_enter Try.func20, Try.ntmps20
        go_wp2
        exact bodyPost_end (results_none rfl _ _ _) rfl ⟨rfl, h3, ((Kp.refl _ _ _).set _ _).set _ _⟩
  · have hp' : D.power = false := by simpa using hp
    rw [hp'] at c2
    rw [show fuD D f = D by unfold fuD; rw [if_neg hp]]
    go_enter Try.func20, Try.ntmps20
    go_wp2
    exact bodyPost_ret (results_none rfl _ _ _) rfl ⟨rfl, h', Kp.refl _ _ _⟩
set_option maxRecDepth 100000 in
theorem powerF {W : World} {g gb : Nat} {D : Dk} (h : DkA W g gb D) : Calls Try.prog 35 #[.pointer (some ⟨g, 0, none⟩)] W fun e w' => e = .returned (.bool D.power) ∧ w' = W := by
  have c2 := h.cells.2.2.1
  clear h
  go_enter Try.func35, Try.ntmps35
  go_wp2
  go_ret
  exact ⟨rfl, rfl⟩
set_option maxRecDepth 100000 in
theorem writesF {W : World} {g gb : Nat} {D : Dk} (h : DkA W g gb D) : Calls Try.prog 17 #[.pointer (some ⟨g, 0, none⟩)] W fun e w' => e = .returned (.int .i64 D.writes) ∧ w' = W := by
  have c2 := h.cells.2.1
  clear h
  go_enter Try.func17, Try.ntmps17
  go_wp2
  go_ret
  exact ⟨rfl, rfl⟩
def reD (D : Dk) : Dk := { D with power := true, fuse := -1 }
set_option maxRecDepth 100000 in
theorem restartF {W : World} {g gb : Nat} {D : Dk} (h : DkA W g gb D) : Calls Try.prog 21 #[.pointer (some ⟨g, 0, none⟩)] W (ChP W g gb (reD D) (.tuple #[])) := by
  unfold ChP reD
  obtain ⟨_, _, c2, c3⟩ := h.cells
  have hf := h.free
  have h' := hide' h
  clear h
  go_enter Try.func21, Try.ntmps21
  go_wp2
  exact bodyPost_end (results_none rfl _ _ _) rfl ⟨rfl, h'.out.rs _ _, ((Kp.refl _ _ _).set _ _).set _ _⟩
set_option maxRecDepth 100000 in
theorem imageF {W : World} {g gb : Nat} {D : Dk} (h : DkA W g gb D) (hl : D.bytes.length ≤ 10000000) : Calls Try.prog 16 #[.pointer (some ⟨g, 0, none⟩)] W (CoP W D.bytes) := by
  have c0 := h.cells.1
  have K := hide' (copiedF D.bytes _ W (RowC.of_bk (o := 0) (cap := D.bytes.length) h.2 (fun i z hz => by rw [Nat.zero_add]; exact hz) rfl (Nat.le_refl _)) hl)
  unfold CoP at K ⊢
  clear h
  generalize D.bytes = L at *
  generalize L.length = m at *
  go_enter Try.func16, Try.ntmps16
  go_wp2_with fail
  refine K.out.mono ?_
  rintro e w1 ⟨rfl, h1, h2⟩
  go_wp2
  go_ret
  exact ⟨rfl, h1, h2⟩
/-- A block's bytes. -/
def blkB (L : List Nat) (b : Nat) : List Nat := (L.drop (16 * b)).take 16
theorem blkB_at {L : List Nat} {b i z : Nat} (h : (blkB L b)[i]? = some z) : L[16 * b + i]? = some z := by
  unfold blkB at h
  rw [List.getElem?_take] at h
  split at h
  · rw [List.getElem?_drop] at h; exact h
  · cases h
theorem blkB_len {L : List Nat} {b n : Nat} (hL : L.length = 16 * n) (hb : b < n) : (blkB L b).length = 16 := by
  unfold blkB
  rw [List.length_take, List.length_drop]
  omega
/-- Read of a block that is there, with power. -/
def RdP (w : World) (L : List Nat) (e : Ending) (w' : World) : Prop :=
  e = .returned (.tuple #[.slice (some ⟨w.heap.size, 0, none⟩) 16 16, .int .i64 0]) ∧ Hid (BkB w' w.heap.size L) ∧ Hid (Below w.heap.size w w')
set_option maxRecDepth 100000 in
set_option maxHeartbeats 1000000 in
theorem readF {W : World} {g gb : Nat} {D : Dk} {n : Nat} (h : DkA W g gb D) (hk : D.bytes.length = 16 * n) (hn : n ≤ 65536) (b : Nat) (hb : b < n) (hp : D.power = true) : Calls Try.prog 71 #[.pointer (some ⟨g, 0, none⟩), .int .i64 (b : Int)] W (RdP W (blkB D.bytes b)) := by
  have c2 := h.cells.2.2.1
  rw [hp] at c2
  have K1 := hide' (hasF h hk hn b)
  rw [show decide (0 ≤ (b : Int) ∧ (b : Int) < (n : Int)) = true by simp; omega] at K1
  have K2 := hide' (atF h hk hn b hb)
  have hlen := blkB_len hk hb
  have K3 := hide' (copiedF (blkB D.bytes b) (.slice (some ⟨gb, 16 * b, none⟩) 16 (16 * n - 16 * b)) W (RowC.of_bk h.2 (fun i z hz => blkB_at hz) hlen.symm (by omega)) (by omega))
  unfold CoP at K3
  rw [hlen] at K3
  unfold RdP
  clear h hk hlen
  generalize blkB D.bytes b = L at *
  go_enter Try.func71, Try.ntmps71
  go_wp2_with (first | (go_at_call 73; refine K1.out.mono ?_; rintro e w1 ⟨rfl, hw1⟩; obtain rfl : W = w1 := hw1.symm) | (go_at_call 74; refine K2.out.mono ?_; rintro e w1 ⟨rfl, hw1⟩; obtain rfl : W = w1 := hw1.symm) | (go_at_call 40; refine K3.out.mono ?_; rintro e w1 ⟨rfl, h1, h2⟩))
  go_ret2
  exact ⟨rfl, h1, h2⟩
set_option maxRecDepth 100000 in
set_option maxHeartbeats 1000000 in
theorem readBad {W : World} {g gb : Nat} {D : Dk} {n : Nat} (h : DkA W g gb D) (hk : D.bytes.length = 16 * n) (hn : n ≤ 65536) (b : Int) (hb : ¬ (0 ≤ b ∧ b < (n : Int))) : Calls Try.prog 71 #[.pointer (some ⟨g, 0, none⟩), .int .i64 b] W fun e w' => e = .returned (.tuple #[.slice none 0 0, .int .i64 1]) ∧ w' = W := by
  have K1 := hide' (hasF h hk hn b)
  rw [show decide (0 ≤ b ∧ b < (n : Int)) = false by simpa using hb] at K1
  clear h hk hb
  go_enter Try.func71, Try.ntmps71
  go_wp2_with (go_at_call 73; refine K1.out.mono ?_; rintro e w1 ⟨rfl, hw1⟩; obtain rfl : W = w1 := hw1.symm)
  go_ret2
  exact ⟨rfl, rfl⟩
set_option maxRecDepth 100000 in
set_option maxHeartbeats 1000000 in
theorem readDown {W : World} {g gb : Nat} {D : Dk} {n : Nat} (h : DkA W g gb D) (hk : D.bytes.length = 16 * n) (hn : n ≤ 65536) (b : Int) (hb : 0 ≤ b ∧ b < (n : Int)) (hp : D.power = false) : Calls Try.prog 71 #[.pointer (some ⟨g, 0, none⟩), .int .i64 b] W fun e w' => e = .returned (.tuple #[.slice none 0 0, .int .i64 50]) ∧ w' = W := by
  have c2 := h.cells.2.2.1
  rw [hp] at c2
  have K1 := hide' (hasF h hk hn b)
  rw [show decide (0 ≤ b ∧ b < (n : Int)) = true by simpa using hb] at K1
  clear h hk hb
  go_enter Try.func71, Try.ntmps71
  go_wp2_with (go_at_call 73; refine K1.out.mono ?_; rintro e w1 ⟨rfl, hw1⟩; obtain rfl : W = w1 := hw1.symm)
  go_ret2
  exact ⟨rfl, rfl⟩
/-- A block written. -/
def wrD (D : Dk) (b : Nat) (L : List Nat) : Dk := ⟨splice D.bytes (16 * b) L, D.writes + 1, decide (D.fuse - 1 ≠ 0), max (D.fuse - 1) (-1)⟩
theorem splice_len {C L : List Nat} {o : Nat} (h : o + L.length ≤ C.length) : (splice C o L).length = C.length := length_splice C o L h
theorem wrD_ok {D : Dk} {n b : Nat} {L : List Nat} (h : DkO D n) (hb : b < n) (hL : L.length = 16) (hw : D.writes < 1000000000000) : DkO (wrD D b L) n := by
  refine ⟨?_, h.pos, h.most, ?_, ?_, ?_, ?_, ?_⟩
  · show (splice D.bytes (16 * b) L).length = _
    rw [splice_len (by rw [hL, h.len]; omega)]
    exact h.len
  · have := h.wr0
    show 0 ≤ D.writes + 1
    omega
  · show D.writes + 1 ≤ _
    omega
  · show -1 ≤ max (D.fuse - 1) (-1)
    omega
  · have := h.fu1
    show max (D.fuse - 1) (-1) < _
    omega
  · show decide (D.fuse - 1 ≠ 0) = decide (max (D.fuse - 1) (-1) ≠ 0)
    have := h.fu0
    simp only [decide_eq_decide]
    omega
set_option maxRecDepth 100000 in
set_option maxHeartbeats 1000000 in
theorem writeF {W : World} {g gb : Nat} {D : Dk} {n : Nat} (h : DkA W g gb D) (hk : DkO D n) (b : Nat) (hb : b < n) (hp : D.power = true) (L : List Nat) (v : Value) (hv : RowC W v L) (hL : L.length = 16) (hw : D.writes < 1000000000000) : Calls Try.prog 59 #[.pointer (some ⟨g, 0, none⟩), .int .i64 (b : Int), v] W (ChP W g gb (wrD D b L) (.int .i64 0)) := by
  have c2 := h.cells.2.2.1
  rw [hp] at c2
  have K1 := hide' (hasF h hk.len hk.most b)
  rw [show decide (0 ≤ (b : Int) ∧ (b : Int) < (n : Int)) = true by simp; omega] at K1
  have K2 := hide' (atF h hk.len hk.most b hb)
  obtain ⟨oa, cap, rfl, _, hc⟩ := hv
  have hc' := hide' hc
  have hm' := hide' hL
  have h' := hide' h
  have hk' := hide' hk
  have hfit : 16 * b + 16 ≤ D.bytes.length := by rw [hk.len]; omega
  have hb0 : 0 ≤ D.writes := hk.wr0
  have hf0 : -1 ≤ D.fuse := hk.fu0
  have hf1 : D.fuse < 9223372036854775808 := hk.fu1
  rw [hL]
  clear h hk hc hL
  unfold ChP
  go_enter Try.func59, Try.ntmps59
  go_wp2_with (first | (go_at_call 73; refine K1.out.mono ?_; rintro e w1 ⟨rfl, hw1⟩; obtain rfl : W = w1 := hw1.symm) | (go_at_call 74; refine K2.out.mono ?_; rintro e w1 ⟨rfl, hw1⟩; obtain rfl : W = w1 := hw1.symm) | (refine copy_bytes rfl (.tmp 23) (.tmp 24) rfl gb (16 * b) 16 (16 * n - 16 * b) cap oa rfl rfl D.bytes L h'.out.2 hm'.out hc' hfit ?_))
  intro w3 hb4 hw4
  have hD : Hid (DkA w3 g gb { D with bytes := splice D.bytes (16 * b) L }) := ⟨by
    have e := (hw4.block g (blk_lt h'.out.1) h'.out.ne h'.out.ne).trans h'.out.1
    show w3.heap[g]? = some (.cells #[.slice (some ⟨gb, 0, none⟩) (splice D.bytes (16 * b) L).length (splice D.bytes (16 * b) L).length, _, _, _] _ _)
    rw [splice_len (by rw [hm'.out]; exact hfit)]
    exact e, hb4⟩
  have hw5 : Hid (Kp g gb W w3) := ⟨hw4.os, hw4.tape, hw4.output, hw4.size, fun k hk _ h2 => hw4.block k hk h2 h2⟩
  clear hb4 hw4
  obtain ⟨_, d1, d2, d3⟩ := hD.out.cells
  have hfr := hD.out.free
  have hD2 := hide' (hD.out.wr (D.writes + 1))
  have d3' : (w3.setCell ⟨g, 1, none⟩ (.int .i64 (D.writes + 1))).cell? ⟨g, 3, none⟩ = some (.int .i64 D.fuse) := hD2.out.cells.2.2.2
  have K3 := hide' (fuseF hD2.out (D.fuse - 1))
  unfold ChP at K3
  go_wp2_with fail
  refine K3.out.mono ?_
  rintro e w4 ⟨rfl, hD4, hK4⟩
  go_wp2
  go_ret
  refine ⟨rfl, ?_, hw5.out.trans (((Kp.refl _ _ _).set _ _).trans hK4.out)⟩
  have e : fuD { bytes := splice D.bytes (16 * b) L, writes := D.writes + 1, power := D.power, fuse := D.fuse } (D.fuse - 1) = wrD D b L := by
    unfold fuD wrD
    rw [if_pos hp]
  rw [← e]
  exact hD4
set_option maxRecDepth 100000 in
set_option maxHeartbeats 1000000 in
theorem writeBad {W : World} {g gb : Nat} {D : Dk} {n : Nat} (h : DkA W g gb D) (hk : D.bytes.length = 16 * n) (hn : n ≤ 65536) (b : Int) (L : List Nat) (v : Value) (hv : RowC W v L) (hb : ¬ ((0 ≤ b ∧ b < (n : Int)) ∧ L.length = 16)) : Calls Try.prog 59 #[.pointer (some ⟨g, 0, none⟩), .int .i64 b, v] W fun e w' => e = .returned (.int .i64 1) ∧ w' = W := by
  have K1 := hide' (hasF h hk hn b)
  obtain ⟨oa, cap, rfl, _, _⟩ := hv
  generalize L.length = m at *
  clear h hk
  by_cases hb1 : 0 ≤ b ∧ b < (n : Int)
  · rw [show decide (0 ≤ b ∧ b < (n : Int)) = true by simpa using hb1] at K1
    have hm : ¬ (m : Int) = 16 := by omega
    clear hb hb1
    go_enter Try.func59, Try.ntmps59
    go_wp2_with (go_at_call 73; refine K1.out.mono ?_; rintro e w1 ⟨rfl, hw1⟩; obtain rfl : W = w1 := hw1.symm)
    go_ret
    exact ⟨rfl, rfl⟩
  · rw [show decide (0 ≤ b ∧ b < (n : Int)) = false by simpa using hb1] at K1
    clear hb hb1
    go_enter Try.func59, Try.ntmps59
    go_wp2_with (go_at_call 73; refine K1.out.mono ?_; rintro e w1 ⟨rfl, hw1⟩; obtain rfl : W = w1 := hw1.symm)
    go_ret
    exact ⟨rfl, rfl⟩
set_option maxRecDepth 100000 in
set_option maxHeartbeats 1000000 in
theorem writeDown {W : World} {g gb : Nat} {D : Dk} {n : Nat} (h : DkA W g gb D) (hk : D.bytes.length = 16 * n) (hn : n ≤ 65536) (b : Int) (L : List Nat) (v : Value) (hv : RowC W v L) (hb : 0 ≤ b ∧ b < (n : Int)) (hL : L.length = 16) (hp : D.power = false) : Calls Try.prog 59 #[.pointer (some ⟨g, 0, none⟩), .int .i64 b, v] W fun e w' => e = .returned (.int .i64 50) ∧ w' = W := by
  have c2 := h.cells.2.2.1
  rw [hp] at c2
  have K1 := hide' (hasF h hk hn b)
  obtain ⟨oa, cap, rfl, _, _⟩ := hv
  rw [hL]
  clear h hk hL
  rw [show decide (0 ≤ b ∧ b < (n : Int)) = true by simpa using hb] at K1
  clear hb
  go_enter Try.func59, Try.ntmps59
  go_wp2_with (go_at_call 73; refine K1.out.mono ?_; rintro e w1 ⟨rfl, hw1⟩; obtain rfl : W = w1 := hw1.symm)
  go_ret
  exact ⟨rfl, rfl⟩
end Go.Proofs.Ytmhbidnpfefjpaa

/- Image: plain facts on numbers as bytes, on texts as bytes, on calls; what the package's tables hold. -/
import Derived.Test.YtgfnfbbiojnhaaaDoorDkB
import Derived.Lib.AppendStr
namespace Go.Proofs.YtgfnfbbiojnhaaaDoor
open Go.RowKit
theorem size_alloc (w : World) (o : Obj) : (w.alloc o).heap.size = w.heap.size + 1 := by
  show (w.heap.push o).size = _
  simp
/-- Bytes laid from the last one on. -/
def putL (L : List Nat) (o k n : Nat) : Nat → List Nat
  | 0 => L
  | i + 1 => (putL L o k n i).set (o + (k - 1 - i)) (n / 2 ^ (8 * i) % 256)
theorem putL_len (L : List Nat) (o k n : Nat) : ∀ i, (putL L o k n i).length = L.length
  | 0 => rfl
  | i + 1 => by rw [putL, List.length_set, putL_len L o k n i]
/-- The number that bytes are. -/
def numB (l : List Nat) : Nat := l.foldl (fun n b => 256 * n + b) 0
theorem numB_snoc (l : List Nat) (b : Nat) : numB (l ++ [b]) = 256 * numB l + b := by simp [numB]
theorem numB_lt (l : List Nat) (h : ∀ b ∈ l, b < 256) : numB l < 256 ^ l.length := by
  have key : ∀ n, ∀ l : List Nat, l.length = n → (∀ b ∈ l, b < 256) → numB l < 256 ^ n := by
    intro n
    induction n with
    | zero => intro l hl _; rw [List.eq_nil_of_length_eq_zero hl]; decide
    | succ n ih =>
      intro l hl hb
      have hne : l ≠ [] := fun e => by rw [e] at hl; cases hl
      have e : l = l.dropLast ++ [l.getLast hne] := (List.dropLast_concat_getLast hne).symm
      have h1 := ih l.dropLast (by rw [List.length_dropLast]; omega) fun b hb' => hb b (List.dropLast_subset l hb')
      have h2 := hb _ (List.getLast_mem hne)
      rw [e, numB_snoc, Nat.pow_succ]
      omega
  exact key _ l rfl h
theorem div_step (n k : Nat) : n / 2 ^ (8 * k) / 256 = n / 2 ^ (8 * (k + 1)) := by
  rw [Nat.div_div_eq_div_mul, show 8 * (k + 1) = 8 * k + 8 by omega, Nat.pow_add]
theorem set_heap {W : World} {g : Nat} {cs : Array Value} {T : TypeId} {fz : Nat × Nat} (h : W.heap[g]? = some (.cells cs T fz)) (i : Nat) (v : Value) : (W.setCell ⟨g, i, none⟩ v).heap[g]? = some (.cells (cs.setIfInBounds i v) T fz) := by
  rw [setCell_eq_setRow W g i cs T fz v h]
  exact setRow_heap W g _ _ T fz h
theorem BkB.set {W : World} {g : Nat} {L : List Nat} (h : BkB W g L) (i z : Nat) : BkB (W.setCell ⟨g, i, none⟩ (.int .u8 (z : Int))) g (L.set i z) := by
  have e := set_heap h i (.int .u8 (z : Int))
  unfold BkB
  rw [e]
  simp [cellsB]
theorem BkB.free {W : World} {g : Nat} {L : List Nat} (h : BkB W g L) (i : Nat) : W.frozen? ⟨g, i, none⟩ = false := by
  unfold BkB at h
  simp [World.frozen?, h]
theorem or_byte {n b : Nat} (h : b < 256) (hn : n < 72057594037927936) : bits .or .u64 ((n : Int) * 256) (b : Int) = ((256 * n + b : Nat) : Int) := by
  rw [show (n : Int) * 256 = ((256 * n : Nat) : Int) by omega, u64_or_nat (256 * n) b (by omega) (by omega), show 256 * n ||| b = 2 ^ 8 * n ||| b from rfl, ← Nat.two_pow_add_eq_or_of_lt (i := 8) h n]
/-- A number in so many bytes, the highest first. -/
def be (wd n : Nat) : List Nat := (List.range wd).map fun i => n / 256 ^ (wd - 1 - i) % 256
theorem be_len (wd n : Nat) : (be wd n).length = wd := by simp [be]
theorem be_at {wd n j : Nat} (h : j < wd) : (be wd n)[j]? = some (n / 256 ^ (wd - 1 - j) % 256) := by
  unfold be
  rw [List.getElem?_map, List.getElem?_range h]
  rfl
theorem be_take {wd n j : Nat} (L : List Nat) (h : j < wd) : (L ++ (be wd n).take j) ++ [n / 256 ^ (wd - 1 - j) % 256] = L ++ (be wd n).take (j + 1) := by
  rw [List.take_add_one, be_at h, List.append_assoc]
  rfl
theorem be_mem {wd n : Nat} : ∀ b ∈ be wd n, b < 256 := fun b hb => by
  unfold be at hb
  obtain ⟨i, _, rfl⟩ := List.mem_map.1 hb
  exact Nat.mod_lt _ (by decide)
theorem be_one {n : Nat} (h : n < 256) : be 1 n = [n] := by simp [be, List.range, List.range.loop]; omega
theorem byte_eq (n k : Nat) : ((n : Int) / 2 ^ (8 * k) % 256) = ((n / 256 ^ k % 256 : Nat) : Int) := by
  rw [show (256 : Nat) ^ k = 2 ^ (8 * k) by rw [Nat.pow_mul]]
  simp
theorem put_be8 (n : Nat) : putL (List.replicate 8 0) 0 8 n 8 = be 8 n := by
  simp [putL, be, List.set, List.replicate, List.range, List.range.loop]
theorem put_be4 (n : Nat) : putL (List.replicate 4 0) 0 4 n 4 = be 4 n := by
  simp [putL, be, List.set, List.replicate, List.range, List.range.loop]
theorem num_be1 {n : Nat} (h : n < 256) : numB (be 1 n) = n := by rw [be_one h]; simp [numB]
theorem num_be4 {n : Nat} (h : n < 4294967296) : numB (be 4 n) = n := by
  simp [numB, be, List.range, List.range.loop]
  omega
theorem num_be8 {n : Nat} (h : n < 18446744073709551616) : numB (be 8 n) = n := by
  simp [numB, be, List.range, List.range.loop]
  omega
/-- A text's bytes. -/
def sB (s : ByteArray) : List Nat := s.data.toList.map UInt8.toNat
theorem sB_len (s : ByteArray) : (sB s).length = s.size := by
  unfold sB
  rw [List.length_map, Array.length_toList]
  rfl
theorem sB_mem (s : ByteArray) : ∀ b ∈ sB s, b < 256 := fun b hb => by
  unfold sB at hb
  obtain ⟨x, _, rfl⟩ := List.mem_map.1 hb
  exact x.toNat_lt
theorem sB_cells (s : ByteArray) : Lib.strCells s = cellsB (sB s) := by
  unfold Lib.strCells cellsB sB
  rw [List.map_map]
  rfl
theorem strB_sB (s : ByteArray) : strB (sB s) = s := by
  apply ByteArray.ext
  apply Array.ext'
  unfold strB sB strOfNums
  simp [List.map_map, Function.comp_def]
theorem sB_strB {L : List Nat} (h : ∀ b ∈ L, b < 256) : sB (strB L) = L := by
  unfold sB strB strOfNums
  simp only [List.map_map]
  refine (List.map_congr_left (g := id) fun b hb => ?_).trans (List.map_id _)
  have := h b hb
  simp
  omega
theorem strB_size (L : List Nat) : (strB L).size = L.length := by
  unfold strB
  rw [strOfNums_size, List.length_map]
/-- A call. -/
structure Cl where
  op : Int
  a : ByteArray
  b : ByteArray
  c : ByteArray
  n : Int
  t : ByteArray
def clC (C : Cl) : Array Value := #[.int .i64 C.op, .string C.a, .string C.b, .string C.c, .int .i64 C.n, .string C.t]
def uN (n : Int) : Nat := (n % 18446744073709551616).toNat
theorem uN_lt (n : Int) : uN n < 18446744073709551616 := by unfold uN; omega
theorem uN_wrap (n : Int) : IntKind.u64.wrap n = (uN n : Int) := by
  unfold IntKind.wrap uN
  simp [IntKind.bits, IntKind.signed]
  omega
/-- Is a call one that can be written? -/
def fitN (C : Cl) : Bool := decide (C.a.size ≤ 255) && decide (C.b.size ≤ 255) && decide (C.c.size ≤ 255) && decide (C.t.size ≤ 65536)
def wrE (C : Cl) : Int := if C.op < 1 ∨ 255 < C.op then 1 else if fitN C then 0 else 2
def wr0 (C : Cl) : List Nat := be 1 C.op.toNat ++ be 8 (uN C.n)
def wr1 (C : Cl) : List Nat := wr0 C ++ be 1 C.a.size ++ sB C.a
def wr2 (C : Cl) : List Nat := wr1 C ++ be 1 C.b.size ++ sB C.b
def wr3 (C : Cl) : List Nat := wr2 C ++ be 1 C.c.size ++ sB C.c
def wr4 (C : Cl) : List Nat := wr3 C ++ be 4 C.t.size ++ sB C.t
def wrJ (C : Cl) : Nat → List Nat
  | 0 => wr0 C
  | 1 => wr1 C
  | 2 => wr2 C
  | 3 => wr3 C
  | _ => wr4 C
def wrL (C : Cl) : List Nat := wrJ C 4
theorem wrJ_len {C : Cl} (h : fitN C = true) (j : Nat) (hj : j < 4) : (wrJ C j).length ≤ 1000 := by
  unfold fitN at h
  simp at h
  obtain rfl | rfl | rfl | rfl : j = 0 ∨ j = 1 ∨ j = 2 ∨ j = 3 := by omega
  all_goals
    simp [wrJ, wr0, wr1, wr2, wr3, be_len, sB_len]
    try omega
theorem wrL_len (C : Cl) : (wrL C).length = 16 + C.a.size + C.b.size + C.c.size + C.t.size := by
  simp [wrL, wrJ, wr0, wr1, wr2, wr3, wr4, be_len, sB_len]
  omega
/-- The parts. -/
def ptS (C : Cl) (j : Nat) : ByteArray := if j = 0 then C.a else if j = 1 then C.b else if j = 2 then C.c else C.t
def ptW (j : Nat) : Nat := if j < 3 then 1 else 4
theorem wrJ_succ (C : Cl) (j : Nat) (hj : j < 4) : wrJ C (j + 1) = wrJ C j ++ be (ptW j) (ptS C j).size ++ sB (ptS C j) := by
  obtain rfl | rfl | rfl | rfl : j = 0 ∨ j = 1 ∨ j = 2 ∨ j = 3 := by omega
  all_goals rfl
theorem ptS_len {C : Cl} (h : fitN C = true) (j : Nat) : (ptS C j).size ≤ 65536 := by
  unfold fitN at h
  simp at h
  unfold ptS
  split
  · omega
  · split
    · omega
    · split <;> omega
/-- The package's tables. -/
structure Tb (W : World) : Prop where
  w0 : W.cell? ⟨0, 0, none⟩ = some (.int .i64 1)
  w1 : W.cell? ⟨0, 1, none⟩ = some (.int .i64 1)
  w2 : W.cell? ⟨0, 2, none⟩ = some (.int .i64 1)
  w3 : W.cell? ⟨0, 3, none⟩ = some (.int .i64 4)
  l0 : W.cell? ⟨1, 0, none⟩ = some (.int .i64 255)
  l1 : W.cell? ⟨1, 1, none⟩ = some (.int .i64 255)
  l2 : W.cell? ⟨1, 2, none⟩ = some (.int .i64 255)
  l3 : W.cell? ⟨1, 3, none⟩ = some (.int .i64 65536)
theorem Tb.lt {W : World} (h : Tb W) : 0 < W.heap.size ∧ 1 < W.heap.size := ⟨cell_lt h.w0, cell_lt h.l0⟩
theorem Tb.below {W W' : World} {B : Nat} (h : Tb W) (k : Below B W W') (hB : 2 ≤ B) : Tb W' := by
  refine ⟨?_, ?_, ?_, ?_, ?_, ?_, ?_, ?_⟩
  · exact (k.cell (p := ⟨0, 0, none⟩) (Nat.lt_of_lt_of_le (by decide) hB)).trans h.w0
  · exact (k.cell (p := ⟨0, 1, none⟩) (Nat.lt_of_lt_of_le (by decide) hB)).trans h.w1
  · exact (k.cell (p := ⟨0, 2, none⟩) (Nat.lt_of_lt_of_le (by decide) hB)).trans h.w2
  · exact (k.cell (p := ⟨0, 3, none⟩) (Nat.lt_of_lt_of_le (by decide) hB)).trans h.w3
  · exact (k.cell (p := ⟨1, 0, none⟩) (Nat.lt_of_lt_of_le (by decide) hB)).trans h.l0
  · exact (k.cell (p := ⟨1, 1, none⟩) (Nat.lt_of_lt_of_le (by decide) hB)).trans h.l1
  · exact (k.cell (p := ⟨1, 2, none⟩) (Nat.lt_of_lt_of_le (by decide) hB)).trans h.l2
  · exact (k.cell (p := ⟨1, 3, none⟩) (Nat.lt_of_lt_of_le (by decide) hB)).trans h.l3
theorem Tb.two {W : World} (h : Tb W) : 2 ≤ W.heap.size := by
  have h1 := h.lt
  have : max 0 1 + 1 = 2 := by decide
  omega
theorem Tb.up {W W' : World} {B : Nat} (h : Tb W) (k : Below B W W') (hB : W.heap.size ≤ B) : Tb W' := h.below k (Nat.le_trans h.two hB)
theorem Tb.alloc {W : World} (h : Tb W) (o : Obj) : Tb (W.alloc o) := h.up ((Below.refl _ W).alloc (Nat.le_refl _) o) (Nat.le_refl _)
theorem Tb.wd {W : World} (h : Tb W) (j : Nat) (hj : j < 4) : W.cell? ⟨0, j, none⟩ = some (.int .i64 (ptW j : Int)) := by
  obtain rfl | rfl | rfl | rfl : j = 0 ∨ j = 1 ∨ j = 2 ∨ j = 3 := by omega
  · exact h.w0
  · exact h.w1
  · exact h.w2
  · exact h.w3
theorem wrap_id {x : Int} (h1 : -9223372036854775808 ≤ x) (h2 : x < 9223372036854775808) : IntKind.i64.wrap x = x := by
  unfold IntKind.wrap
  simp [IntKind.bits, IntKind.signed]
  omega
theorem own_same {w w' : World} {b : Nat} {e : TypeId} {size : Nat} {v : Value} {n : Nat} {xs : List Value} (h : w.ownsRow b e size v n xs) (hs : ∀ g, g < w.heap.size → v.ownBlock = some g → w'.heap[g]? = w.heap[g]?) : w'.ownsRow b e size v n xs := by
  rcases h with ⟨h1, h2⟩
  refine ⟨h1, ?_⟩
  rcases h2 with h2 | ⟨g, cap, cur, hv, hb, hg, c⟩
  · exact .inl h2
  · subst hv
    exact .inr ⟨g, cap, cur, rfl, hb, (hs g (Array.getElem?_eq_some_iff.1 hg).1 rfl).trans hg, c⟩
theorem own_up {W W' : World} {B : Nat} {e : TypeId} {sz : Nat} {v : Value} {n : Nat} {xs : List Value} (h : W.ownsRow B e sz v n xs) (hb : Below W.heap.size W W') : W'.ownsRow B e sz v n xs := own_same h fun g hg _ => hb.block g hg
end Go.Proofs.YtgfnfbbiojnhaaaDoor

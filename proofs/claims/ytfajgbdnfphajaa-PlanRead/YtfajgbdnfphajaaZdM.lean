/- A certificate read: plain. -/
import Derived.Test.YtfajgbdnfphajaaZpC
namespace Go.Proofs.Ytfajgbdnfphajaa.S
open Go.RowKit Go.Shelf
/-- The number that bytes are. -/
def valB (l : List Nat) : Nat := l.foldl (fun n b => 256 * n + b) 0
theorem valB_snoc (l : List Nat) (b : Nat) : valB (l ++ [b]) = 256 * valB l + b := by simp [valB]
theorem valB_lt (l : List Nat) (h : ∀ b ∈ l, b < 256) : valB l < 256 ^ l.length := by
  have key : ∀ n, ∀ l : List Nat, l.length = n → (∀ b ∈ l, b < 256) → valB l < 256 ^ n := by
    intro n
    induction n with
    | zero => intro l hl _; rw [List.eq_nil_of_length_eq_zero hl]; decide
    | succ n ih =>
      intro l hl hb
      have hne : l ≠ [] := fun e => by rw [e] at hl; cases hl
      have e : l = l.dropLast ++ [l.getLast hne] := (List.dropLast_concat_getLast hne).symm
      have h1 := ih l.dropLast (by rw [List.length_dropLast]; omega) (fun b hb' => hb b ((List.dropLast_sublist l).subset hb'))
      have h2 := hb (l.getLast hne) (List.getLast_mem hne)
      rw [e, valB_snoc, Nat.pow_succ]
      omega
  exact key _ l rfl h
/-- What is left to read, and whether anything was wrong. -/
abbrev RdS := List Nat × Bool
/-- The next number, and what is left behind it. -/
def tkN (wd : Nat) (s : RdS) : Nat := if s.1.length < wd then 0 else valB (s.1.take wd)
def tkS (wd : Nat) (s : RdS) : RdS := if s.1.length < wd then ([], true) else (s.1.drop wd, s.2)
theorem tkN_lt {wd : Nat} {s : RdS} (h : ∀ b ∈ s.1, b < 256) : tkN wd s < 256 ^ wd := by
  unfold tkN
  split
  · exact Nat.pow_pos (by decide)
  · rename_i hl
    have := valB_lt (s.1.take wd) (fun b hb => h b (List.mem_of_mem_take hb))
    rwa [List.length_take, Nat.min_eq_left (by omega)] at this
theorem tkS_mem {wd : Nat} {s : RdS} (h : ∀ b ∈ s.1, b < 256) : ∀ b ∈ (tkS wd s).1, b < 256 := by
  unfold tkS
  split
  · intro b hb; cases hb
  · exact fun b hb => h b (List.mem_of_mem_drop hb)
theorem tkS_len (wd : Nat) (s : RdS) : (tkS wd s).1.length ≤ s.1.length := by
  unfold tkS
  split
  · exact Nat.zero_le _
  · simp
/-- A frame but for one block. -/
structure FrG (g : Nat) (W W' : World) : Prop where
  os : W'.os = W.os
  tape : W'.tape = W.tape
  output : W'.output = W.output
  size : W.heap.size ≤ W'.heap.size
  block : ∀ k, k < W.heap.size → k ≠ g → W'.heap[k]? = W.heap[k]?
theorem FrG.refl (g : Nat) (W : World) : FrG g W W := ⟨rfl, rfl, rfl, Nat.le_refl _, fun _ _ _ => rfl⟩
theorem FrG.trans {g : Nat} {W W' W2 : World} (h : FrG g W W') (k : FrG g W' W2) : FrG g W W2 :=
  ⟨k.os.trans h.os, k.tape.trans h.tape, k.output.trans h.output, Nat.le_trans h.size k.size, fun x hx h1 => (k.block x (Nat.lt_of_lt_of_le hx h.size) h1).trans (h.block x hx h1)⟩
theorem FrG.below {g : Nat} {W W' : World} (h : Below W.heap.size W W') : FrG g W W' := ⟨h.os, h.tape, h.output, h.size, fun k hk _ => h.block k hk⟩
theorem FrG.set (W : World) (g o : Nat) (v : Value) : FrG g W (W.setCell ⟨g, o, none⟩ v) := ⟨rfl, rfl, rfl, by simp [World.setCell], fun k _ h1 => Below.heap_setCell _ _ _ _ h1⟩
theorem FrG.new {g n : Nat} {W W' W0 : World} (h : FrG g W W') (hw : Below n W0 W) (hg : n ≤ g) (hn : n ≤ W.heap.size) : Below n W0 W' :=
  ⟨h.os.trans hw.os, h.tape.trans hw.tape, h.output.trans hw.output, Nat.le_trans hw.size h.size, fun k hk => (h.block k (by omega) (by omega)).trans (hw.block k hk)⟩
/-- The reader as it lies. -/
def rdF (v : Value) (b : Bool) : Nat → Value := fun i => if i = 0 then v else .bool b
structure Rd (B : Nat) (W : World) (gr : Nat) (v : Value) (s : RdS) : Prop where
  at_ : W.rowIs gr 45 2 (rdF v s.2)
  row : RowB W v s.1
  byte : ∀ b ∈ s.1, b < 256
  room : ∀ (oa : Option Addr) (n c : Nat), v = .slice oa n c → n ≤ c
  low : ∀ (ad : Addr) (n c : Nat), v = .slice (some ad) n c → ad.block < B
  lowr : gr < B
theorem Rd.c0 {B : Nat} {W : World} {gr : Nat} {v : Value} {s : RdS} (h : Rd B W gr v s) : W.cell? ⟨gr, 0, none⟩ = some v := World.rowIs.cell h.at_ (i := 0) (by decide)
theorem Rd.c1 {B : Nat} {W : World} {gr : Nat} {v : Value} {s : RdS} (h : Rd B W gr v s) : W.cell? ⟨gr, 1, none⟩ = some (.bool s.2) := World.rowIs.cell h.at_ (i := 1) (by decide)
theorem Rd.fz {B : Nat} {W : World} {gr : Nat} {v : Value} {s : RdS} (h : Rd B W gr v s) (i : Nat) : W.frozen? ⟨gr, i, none⟩ = false := World.rowIs.frozen h.at_ i
theorem Rd.lt {B : Nat} {W : World} {gr : Nat} {v : Value} {s : RdS} (h : Rd B W gr v s) : gr < W.heap.size := World.rowIs.lt h.at_
theorem Rd.shp {B : Nat} {W : World} {gr : Nat} {v : Value} {s : RdS} (h : Rd B W gr v s) : ∃ oa cap, v = .slice oa s.1.length cap := by obtain ⟨oa, cap, e, _⟩ := h.row; exact ⟨oa, cap, e⟩
/-- The reader's block is no block of bytes. -/
theorem rd_kind {W : World} {gr : Nat} {v : Value} {b : Bool} (h : W.rowIs gr 45 2 (rdF v b)) (hv : ∃ oa n cap, v = .slice oa n cap) {o : Nat} {k : IntKind} {x : Int} : W.cell? ⟨gr, o, none⟩ ≠ some (.int k x) := by
  obtain ⟨oa, n, cap, rfl⟩ := hv
  intro e
  obtain ⟨c, hc, hs, hf⟩ := h
  have e2 := e
  simp only [World.cell?, hc] at e2
  have ho : o < c.size := by
    rcases Nat.lt_or_ge o c.size with q | q
    · exact q
    · simp [Array.getElem?_eq_none q] at e2
  have ho2 : o < 2 := by omega
  have h2 := hf o ho2
  have h3 : c[o]? = some (.int k x) := by simpa using e2
  rw [h3] at h2
  injection h2 with h2
  unfold rdF at h2
  split at h2 <;> cases h2
theorem RowB.frg {W W' : World} {gr : Nat} {v : Value} {L : List Nat} (h : RowB W v L) (hf : FrG gr W W') (hk : ∀ (o : Nat) (x : Int), W.cell? ⟨gr, o, none⟩ ≠ some (.int .u8 x)) : RowB W' v L := by
  obtain ⟨oa, cap, e, hc⟩ := h
  refine ⟨oa, cap, e, fun i z hz => ?_⟩
  obtain ⟨g, o, e1, e2⟩ := hc i z hz
  refine ⟨g, o, e1, ?_⟩
  have hne : g ≠ gr := fun q => by rw [q] at e2; exact hk _ _ e2
  have hb := hf.block g (cell_lt e2) hne
  simp only [World.cell?] at e2 ⊢
  rw [hb]; exact e2
theorem RowB.drop {W : World} {oa : Option Addr} {cap : Nat} {L : List Nat} (h : RowB W (.slice oa L.length cap) L) (k : Nat) (_ : k ≤ L.length) (g o : Nat) (ho : oa = some ⟨g, o, none⟩) : RowB W (.slice (some ⟨g, o + k, none⟩) (L.length - k) (cap - k)) (L.drop k) := by
  obtain ⟨oa', cap', e, hc⟩ := h
  injection e with e1 e2 e3
  subst e1
  refine ⟨_, _, by rw [List.length_drop], fun i z hz => ⟨_, _, rfl, ?_⟩⟩
  rw [List.getElem?_drop] at hz
  obtain ⟨g', o', e', hcell⟩ := hc (k + i) z hz
  rw [ho] at e'
  cases e'
  rw [Nat.add_assoc]
  exact hcell
theorem or_byte {n b : Nat} (h : b < 256) (hn : n < 72057594037927936) : bits .or .u64 ((n : Int) * 256) (b : Int) = ((256 * n + b : Nat) : Int) := by
  rw [show (n : Int) * 256 = ((256 * n : Nat) : Int) by omega, u64_or_nat (256 * n) b (by omega) (by omega), show 256 * n ||| b = 2 ^ 8 * n ||| b from rfl, ← Nat.two_pow_add_eq_or_of_lt (i := 8) h n]
theorem Rd.over {B : Nat} {W W' : World} {gr : Nat} {v : Value} {s : RdS} (h : Rd B W gr v s) (hb : Below B W W') : Rd B W' gr v s := by
  refine ⟨World.rowIs.of_block h.at_ (hb.block gr h.lowr), ?_, h.byte, h.room, h.low, h.lowr⟩
  obtain ⟨oa, cap, e, hc⟩ := h.row
  refine ⟨oa, cap, e, fun i z hz => ?_⟩
  obtain ⟨g, o, e1, e2⟩ := hc i z hz
  refine ⟨g, o, e1, ?_⟩
  have hl := h.low ⟨g, o, none⟩ _ _ (by rw [e, e1])
  have hb2 := hb.block g hl
  simp only [World.cell?] at e2 ⊢
  rw [hb2]; exact e2
/-- Steps, one behind the other. -/
def rsS : Nat → RdS → RdS
  | 0, s => s
  | n + 1, s => tkS 1 (rsS n s)
def rsL : Nat → RdS → List Int
  | 0, _ => []
  | n + 1, s => rsL n s ++ [(tkN 1 (rsS n s) : Int)]
theorem rsL_len (n : Nat) (s : RdS) : (rsL n s).length = n := by
  induction n with
  | zero => rfl
  | succ n ih => simp [rsL, ih]
theorem rsS_len (n : Nat) (s : RdS) : (rsS n s).1.length ≤ s.1.length := by
  induction n with
  | zero => exact Nat.le_refl _
  | succ n ih => exact Nat.le_trans (tkS_len 1 _) ih
/-- A rule. -/
def rdR (s : RdS) : Rl := ⟨(tkN 1 s : Int), (tkN 4 (tkS 1 s) : Int), rsL (tkN 1 (tkS 4 (tkS 1 s))) (tkS 1 (tkS 4 (tkS 1 s)))⟩
def rdRS (s : RdS) : RdS := rsS (tkN 1 (tkS 4 (tkS 1 s))) (tkS 1 (tkS 4 (tkS 1 s)))
end Go.Proofs.Ytfajgbdnfphajaa.S

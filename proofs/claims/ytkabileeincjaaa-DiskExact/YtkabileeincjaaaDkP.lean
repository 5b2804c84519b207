/- One call of both disks. -/
import Derived.Test.YtkabileeincjaaaDkR
import Derived.Deep.QuietTactic
import Derived.BigQuiet
namespace Go.Proofs.Ytkabileeincjaaa
open Go.RowKit
/-- What a write answers and makes. -/
def wrC (D : Dk) (n : Nat) (b : Int) (L : List Nat) : Int × Dk := if (0 ≤ b ∧ b < (n : Int)) ∧ L.length = 16 then (if D.power = true then (0, wrD D b.toNat L) else (50, D)) else (1, D)
theorem writeAll {W : World} {g gb : Nat} {D : Dk} {n : Nat} (h : DkA W g gb D) (hk : DkO D n) (b : Int) (L : List Nat) (v : Value) (hv : RowC W v L) (hw : D.writes < 1000000000000) : Calls Try.prog 19 #[.pointer (some ⟨g, 0, none⟩), .int .i64 b, v] W (ChP W g gb (wrC D n b L).2 (.int .i64 (wrC D n b L).1)) := by
  unfold wrC
  by_cases hb : (0 ≤ b ∧ b < (n : Int)) ∧ L.length = 16
  · rw [if_pos hb]
    by_cases hp : D.power = true
    · rw [if_pos hp]
      obtain ⟨b', rfl⟩ : ∃ b' : Nat, b = (b' : Int) := ⟨b.toNat, by omega⟩
      exact writeF h hk b' (by omega) hp L v hv hb.2 hw
    · rw [if_neg hp]
      refine (writeDown h hk.len hk.most b L v hv hb.1 hb.2 (by simpa using hp)).mono ?_
      rintro e w' ⟨rfl, rfl⟩
      exact ⟨rfl, h, Kp.refl _ _ _⟩
  · rw [if_neg hb]
    refine (writeBad h hk.len hk.most b L v hv hb).mono ?_
    rintro e w' ⟨rfl, rfl⟩
    exact ⟨rfl, h, Kp.refl _ _ _⟩
theorem rWriteAll {W : World} {r rb cap : Nat} {D : Dk} {n : Nat} (h : RkA W r rb cap D) (hk : DkO D n) (b : Int) (L : List Nat) (v : Value) (hv : ∀ V, Kp r rb W V → RowC V v L) (hw : D.writes < 1000000000000) : Calls Try.prog 26 #[.pointer (some ⟨r, 0, none⟩), .int .i64 b, v] W (RcP W r rb cap (wrC D n b L).2 (.int .i64 (wrC D n b L).1)) := by
  unfold wrC
  by_cases hb : (0 ≤ b ∧ b < (n : Int)) ∧ L.length = 16
  · rw [if_pos hb]
    by_cases hp : D.power = true
    · rw [if_pos hp]
      obtain ⟨b', rfl⟩ : ∃ b' : Nat, b = (b' : Int) := ⟨b.toNat, by omega⟩
      exact rWriteF h hk b' (by omega) hp L v hv hb.2 hw
    · rw [if_neg hp]
      refine (rWriteDown h hk b L v (hv W (Kp.refl _ _ _)) hb.1 hb.2 (by simpa using hp)).mono ?_
      rintro e w' ⟨rfl, rfl⟩
      exact ⟨rfl, h, Kp.refl _ _ _⟩
  · rw [if_neg hb]
    refine (rWriteBad h hk b L v (hv W (Kp.refl _ _ _)) hb).mono ?_
    rintro e w' ⟨rfl, rfl⟩
    exact ⟨rfl, h, Kp.refl _ _ _⟩
theorem wrC_ok {D : Dk} {n : Nat} (hk : DkO D n) (b : Int) (L : List Nat) (hw : D.writes < 1000000000000) : DkO (wrC D n b L).2 n := by
  unfold wrC
  by_cases hb : (0 ≤ b ∧ b < (n : Int)) ∧ L.length = 16
  · rw [if_pos hb]
    by_cases hp : D.power = true
    · rw [if_pos hp]
      exact wrD_ok hk (by omega) hb.2 hw
    · rw [if_neg hp]
      exact hk
  · rw [if_neg hb]
    exact hk
theorem wrC_wr (D : Dk) (n : Nat) (b : Int) (L : List Nat) : (wrC D n b L).2.writes ≤ D.writes + 1 := by
  unfold wrC
  by_cases hb : (0 ≤ b ∧ b < (n : Int)) ∧ L.length = 16
  · rw [if_pos hb]
    by_cases hp : D.power = true
    · rw [if_pos hp]
      exact Int.le_refl _
    · rw [if_neg hp]
      show D.writes ≤ D.writes + 1
      omega
  · rw [if_neg hb]
    show D.writes ≤ D.writes + 1
    omega
/-- What a read answers. -/
def rdC (D : Dk) (n : Nat) (b : Int) : Int × List Nat := if 0 ≤ b ∧ b < (n : Int) then (if D.power = true then (0, blkB D.bytes b.toNat) else (50, [])) else (1, [])
def RaP (W : World) (D : Dk) (n : Nat) (b : Int) (e : Ending) (w' : World) : Prop :=
  ∃ oa m cap, e = .returned (.tuple #[.slice oa m cap, .int .i64 (rdC D n b).1]) ∧ Hid (RowC w' (.slice oa m cap) (rdC D n b).2) ∧ Hid (Below W.heap.size W w')
theorem row_nil (W : World) : RowC W (.slice none 0 0) [] := ⟨none, 0, rfl, ⟨Nat.le_refl _, fun _ => rfl⟩, fun i z h => by cases h⟩
theorem readAll {W : World} {g gb : Nat} {D : Dk} {n : Nat} (h : DkA W g gb D) (hk : DkO D n) (b : Int) : Calls Try.prog 22 #[.pointer (some ⟨g, 0, none⟩), .int .i64 b] W (RaP W D n b) := by
  unfold RaP rdC
  by_cases hb : 0 ≤ b ∧ b < (n : Int)
  · rw [if_pos hb]
    by_cases hp : D.power = true
    · rw [if_pos hp]
      obtain ⟨b', rfl⟩ : ∃ b' : Nat, b = (b' : Int) := ⟨b.toNat, by omega⟩
      refine (readF h hk.len hk.most b' (by omega) hp).mono ?_
      rintro e w' ⟨rfl, h1, h2⟩
      exact ⟨_, _, _, rfl, row16 h1.out (blkB_len hk.len (by omega)), h2⟩
    · rw [if_neg hp]
      refine (readDown h hk.len hk.most b hb (by simpa using hp)).mono ?_
      rintro e w' ⟨rfl, rfl⟩
      exact ⟨_, _, _, rfl, row_nil _, Below.refl _ _⟩
  · rw [if_neg hb]
    refine (readBad h hk.len hk.most b hb).mono ?_
    rintro e w' ⟨rfl, rfl⟩
    exact ⟨_, _, _, rfl, row_nil _, Below.refl _ _⟩
theorem rReadAll {W : World} {r rb cap : Nat} {D : Dk} {n : Nat} (h : RkA W r rb cap D) (hk : DkO D n) (b : Int) : Calls Try.prog 25 #[.pointer (some ⟨r, 0, none⟩), .int .i64 b] W (RaP W D n b) := by
  unfold RaP rdC
  by_cases hb : 0 ≤ b ∧ b < (n : Int)
  · rw [if_pos hb]
    by_cases hp : D.power = true
    · rw [if_pos hp]
      obtain ⟨b', rfl⟩ : ∃ b' : Nat, b = (b' : Int) := ⟨b.toNat, by omega⟩
      refine (rReadF h hk b' (by omega) hp).mono ?_
      rintro e w' ⟨oa, cp, rfl, h1, h2⟩
      exact ⟨_, _, _, rfl, h1, h2⟩
    · rw [if_neg hp]
      refine (rReadDown h hk b hb (by simpa using hp)).mono ?_
      rintro e w' ⟨rfl, rfl⟩
      exact ⟨_, _, _, rfl, row_nil _, Below.refl _ _⟩
  · rw [if_neg hb]
    refine (rReadBad h hk b hb).mono ?_
    rintro e w' ⟨rfl, rfl⟩
    exact ⟨_, _, _, rfl, row_nil _, Below.refl _ _⟩
theorem fuD_ok {D : Dk} {n : Nat} (hk : DkO D n) {f : Int} (hf : f < 9223372036854775808) : DkO (fuD D f) n := by
  unfold fuD
  by_cases hp : D.power = true
  · rw [if_pos hp]
    refine ⟨hk.len, hk.pos, hk.most, hk.wr0, hk.wr1, ?_, ?_, ?_⟩
    · show -1 ≤ max f (-1)
      omega
    · show max f (-1) < _
      omega
    · show decide (f ≠ 0) = decide (max f (-1) ≠ 0)
      simp only [decide_eq_decide]
      omega
  · rw [if_neg hp]
    exact hk
theorem fuD_wr (D : Dk) (f : Int) : (fuD D f).writes = D.writes := by
  unfold fuD
  split <;> rfl
theorem reD_ok {D : Dk} {n : Nat} (hk : DkO D n) : DkO (reD D) n := ⟨hk.len, hk.pos, hk.most, hk.wr0, hk.wr1, by simp [reD], by simp [reD], by simp [reD]⟩
/-- Only blocks from lo to hi are written. -/
structure Kr (lo hi : Nat) (W W' : World) : Prop where
  os : W'.os = W.os
  tape : W'.tape = W.tape
  output : W'.output = W.output
  size : W.heap.size ≤ W'.heap.size
  block : ∀ k, k < W.heap.size → (k < lo ∨ hi ≤ k) → W'.heap[k]? = W.heap[k]?
theorem Kr.refl (lo hi : Nat) (W : World) : Kr lo hi W W := ⟨rfl, rfl, rfl, Nat.le_refl _, fun _ _ _ => rfl⟩
theorem Kr.trans {lo hi : Nat} {a b c : World} (h : Kr lo hi a b) (k : Kr lo hi b c) : Kr lo hi a c :=
  ⟨k.os.trans h.os, k.tape.trans h.tape, k.output.trans h.output, Nat.le_trans h.size k.size, fun i hi h1 => (k.block i (Nat.lt_of_lt_of_le hi h.size) h1).trans (h.block i hi h1)⟩
theorem Kr.of_below {lo hi : Nat} {W W' : World} (h : Below W.heap.size W W') : Kr lo hi W W' := ⟨h.os, h.tape, h.output, h.size, fun k hk _ => h.block k hk⟩
theorem Kr.of_kp {lo hi g gb : Nat} {W W' : World} (h : Kp g gb W W') (h1 : lo ≤ g ∧ g < hi) (h2 : lo ≤ gb ∧ gb < hi) : Kr lo hi W W' := ⟨h.os, h.tape, h.output, h.size, fun k hk h3 => h.block k hk (by omega) (by omega)⟩
theorem Kr.below {lo hi : Nat} {W W' : World} (h : Kr lo hi W W') (hl : lo ≤ W.heap.size) : Below lo W W' := ⟨h.os, h.tape, h.output, h.size, fun k hk => h.block k (by omega) (.inl hk)⟩
/-- A disk and the document's, beside a box. -/
structure Py (lo hi g gb r rb cap n c : Nat) (D E : Dk) (W : World) (gO : Nat) (bx : Array Value) (V : World) : Prop where
  dk : DkA V g gb D
  rk : RkA V r rb cap E
  ok : DkO D n
  ok2 : DkO E n
  wr : D.writes ≤ (c : Int)
  wr2 : E.writes ≤ (c : Int)
  ne : gb ≠ rb
  b1 : lo ≤ g ∧ g < hi
  b2 : lo ≤ gb ∧ gb < hi
  b3 : lo ≤ r ∧ r < hi
  b4 : lo ≤ rb ∧ rb < hi
  top : hi ≤ V.heap.size
  box : V.heap[gO]? = some (.cells bx 36 (0, 0))
  gOh : hi ≤ gO
  kr : Kr lo hi W V
theorem Py.apart {lo hi g gb r rb cap n c : Nat} {D E : Dk} {W : World} {gO : Nat} {bx : Array Value} {V : World} (h : Py lo hi g gb r rb cap n c D E W gO bx V) : g ≠ r ∧ g ≠ rb ∧ gb ≠ r := by
  obtain ⟨cs, hb⟩ := h.rk.blk
  have h1 := h.dk.1
  have h2 := h.dk.2
  have h3 := h.rk.bx
  unfold BkB at h2
  refine ⟨?_, ?_, ?_⟩
  · rintro rfl
    rw [h1] at h3
    injection h3 with h3
    injection h3 with _ h3
    exact absurd h3 (by decide)
  · rintro rfl
    rw [h1] at hb
    injection hb with hb
    injection hb with _ hb
    exact absurd hb (by decide)
  · rintro rfl
    rw [h2] at h3
    injection h3 with h3
    injection h3 with _ h3
    exact absurd h3 (by decide)
theorem Py.up {lo hi g gb r rb cap n c : Nat} {D E : Dk} {W : World} {gO : Nat} {bx : Array Value} {V V' : World} (h : Py lo hi g gb r rb cap n c D E W gO bx V) (hb : Below V.heap.size V V') : Py lo hi g gb r rb cap n c D E W gO bx V' :=
  ⟨h.dk.below hb (Nat.le_refl _), by
    obtain ⟨cs, hk⟩ := h.rk.blk
    exact ⟨(hb.block r (blk_lt h.rk.bx)).trans h.rk.bx, own_same h.rk.row (hb.block rb (blk_lt hk))⟩, h.ok, h.ok2, h.wr, h.wr2, h.ne, h.b1, h.b2, h.b3, h.b4, Nat.le_trans h.top hb.size, (hb.block gO (blk_lt h.box)).trans h.box, h.gOh, h.kr.trans (Kr.of_below hb)⟩
theorem Py.drew {lo hi g gb r rb cap n c : Nat} {D E : Dk} {W : World} {gO : Nat} {bx : Array Value} {V : World} (h : Py lo hi g gb r rb cap n c D E W gO bx V) : Py lo hi g gb r rb cap n c D E W gO bx V.drew := h.up (Below.refl _ V).drew
theorem Py.dskP {lo hi g gb r rb cap n c c' : Nat} {D D' E : Dk} {W : World} {gO : Nat} {bx : Array Value} {V V' : World} (h : Py lo hi g gb r rb cap n c D E W gO bx V) (hd : DkA V' g gb D') (hk : DkO D' n) (hw : D'.writes ≤ (c' : Int)) (hc : c ≤ c') (kp : Kp g gb V V') : Py lo hi g gb r rb cap n c' D' E W gO bx V' := by
  obtain ⟨n1, n2, n3⟩ := h.apart
  have hne := h.ne
  have h2 := h.wr2
  have b1 := h.b1
  have b2 := h.b2
  have b4 := h.gOh
  exact ⟨hd, h.rk.kp kp n1.symm n3.symm n2.symm hne.symm, hk, h.ok2, hw, by omega, h.ne, h.b1, h.b2, h.b3, h.b4, Nat.le_trans h.top kp.size, (kp.block gO (blk_lt h.box) (by omega) (by omega)).trans h.box, h.gOh, h.kr.trans (Kr.of_kp kp h.b1 h.b2)⟩
theorem Py.refP {lo hi g gb r rb cap n c c' : Nat} {D E E' : Dk} {W : World} {gO : Nat} {bx : Array Value} {V V' : World} (h : Py lo hi g gb r rb cap n c D E W gO bx V) (hd : RkA V' r rb cap E') (hk : DkO E' n) (hw : E'.writes ≤ (c' : Int)) (hc : c ≤ c') (kp : Kp r rb V V') : Py lo hi g gb r rb cap n c' D E' W gO bx V' := by
  obtain ⟨n1, n2, n3⟩ := h.apart
  have hne := h.ne
  have h2 := h.wr
  have b1 := h.b3
  have b2 := h.b4
  have b4 := h.gOh
  exact ⟨h.dk.kp kp n1 n2 n3 hne, hd, h.ok, hk, by omega, hw, h.ne, h.b1, h.b2, h.b3, h.b4, Nat.le_trans h.top kp.size, (kp.block gO (blk_lt h.box) (by omega) (by omega)).trans h.box, h.gOh, h.kr.trans (Kr.of_kp kp h.b3 h.b4)⟩
theorem Py.cells {lo hi g gb r rb cap n c : Nat} {D E : Dk} {W : World} {gO : Nat} {a0 a1 a2 a3 : Value} {V : World} (h : Py lo hi g gb r rb cap n c D E W gO #[a0, a1, a2, a3] V) : V.cell? ⟨gO, 1, none⟩ = some a1 ∧ V.cell? ⟨gO, 2, none⟩ = some a2 ∧ V.cell? ⟨gO, 3, none⟩ = some a3 := by
  have h1 := h.box
  refine ⟨?_, ?_, ?_⟩ <;> simp [World.cell?, h1]
end Go.Proofs.Ytkabileeincjaaa

/- Slices of rows of bytes. -/
import Derived.Test.YtgfnfbbiojnhaaaDoorImF
namespace Go.Proofs.YtgfnfbbiojnhaaaDoor
open Go.RowKit
theorem elemB : Tryd.prog.underlying 24 = some (.slice (Tryd.prog.elem 24)) := by kernel_rfl
theorem sizeB1 (V : World) : (sizeOf (Tryd.prog.elem 24)).run Tryd.prog V = .ok 1 V := by kernel_rfl
/-- Where a piece begins. -/
def adr (oa : Option Addr) (c lo : Nat) : Option Addr := if c = lo then oa else oa.map (·.add (lo * 1))
theorem cutLo (ki : IntKind) (oa : Option Addr) (n c lo : Nat) (x : Int) (hx : x = (lo : Int)) (h : lo ≤ n) (V : World) : (Instr.sliceAt 24 (.slice oa n c) (some (.int ki x)) none none).run Tryd.prog V = .ok (.slice (adr oa c lo) (n - lo) (c - lo)) V := by
  subst hx
  rw [run_sliceAt_slice _ _ _ _ _ _ elemB, run_slice_l _ _ _ _ _ elemB _ _ (by omega) (by omega), sizeB1]
  rfl
theorem cutHi (oa : Option Addr) (n c hi : Nat) (x : Int) (hx : x = (hi : Int)) (h : hi ≤ c) (V : World) : (Instr.sliceAt 24 (.slice oa n c) none (some (.int .i64 x)) none).run Tryd.prog V = .ok (.slice oa hi c) V := by
  subst hx
  rw [run_sliceAt_slice _ _ _ _ _ _ elemB, run_slice_h _ _ _ _ _ elemB _ _ (by omega) (by omega), sizeB1]
  show Result.ok (sliced oa 0 (hi : Int).toNat c 1) V = _
  unfold sliced
  rw [Int.toNat_natCast, Nat.sub_zero, Nat.sub_zero]
  cases oa with
  | none => simp
  | some a => simp [Addr.add]
theorem cutLh (oa : Option Addr) (n c lo hi : Nat) (x y : Int) (hx : x = (lo : Int)) (hy : y = (hi : Int)) (h1 : lo ≤ hi) (h : hi ≤ c) (V : World) : (Instr.sliceAt 24 (.slice oa n c) (some (.int .i64 x)) (some (.int .i64 y)) none).run Tryd.prog V = .ok (.slice (adr oa c lo) (hi - lo) (c - lo)) V := by
  subst hx
  subst hy
  rw [run_sliceAt_slice _ _ _ _ _ _ elemB, run_slice_lh _ _ _ _ _ elemB _ _ _ _ (by omega) (by omega) (by omega), sizeB1]
  rfl
/-- A piece of a row. -/
theorem RowC.piece {W : World} {oa : Option Addr} {n c : Nat} {L : List Nat} (h : RowC W (.slice oa n c) L) (lo m : Nat) (hm : lo + m ≤ n) : RowC W (.slice (adr oa c lo) m (c - lo)) ((L.drop lo).take m) := by
  obtain ⟨oa', c', e, ⟨h1, h2⟩, hc⟩ := h
  injection e with e1 e2 e3
  subst e1 e2 e3
  have hl : ((L.drop lo).take m).length = m := by rw [List.length_take, List.length_drop]; omega
  refine ⟨_, _, by rw [hl], ⟨by rw [hl]; omega, fun e => ?_⟩, fun i z hz => ?_⟩
  · unfold adr at e
    split at e
    · omega
    · cases oa with
      | none => have := h2 rfl; omega
      | some a => cases e
  · rw [List.getElem?_take] at hz
    split at hz
    · rename_i hi
      rw [List.getElem?_drop] at hz
      obtain ⟨g, o, e1, e2⟩ := hc _ z hz
      subst e1
      have hlt := (List.getElem?_eq_some_iff.1 hz).1
      have hne : ¬ c = lo := by omega
      refine ⟨g, o + lo, ?_, ?_⟩
      · unfold adr
        rw [if_neg hne]
        simp [Addr.add_lit]
      · rw [Nat.add_assoc]; exact e2
    · cases hz
theorem RowC.rest {W : World} {oa : Option Addr} {n c : Nat} {L : List Nat} (h : RowC W (.slice oa n c) L) (lo : Nat) (hm : lo ≤ n) : RowC W (.slice (adr oa c lo) (n - lo) (c - lo)) (L.drop lo) := by
  have k := h.piece lo (n - lo) (by omega)
  obtain ⟨oa', c', e, _⟩ := h
  injection e with e1 e2 e3
  rwa [List.take_of_length_le (by rw [List.length_drop]; omega)] at k
theorem RowC.head {W : World} {oa : Option Addr} {n c : Nat} {L : List Nat} (h : RowC W (.slice oa n c) L) (m : Nat) (hm : m ≤ n) : RowC W (.slice oa m c) (L.take m) := by
  have k := h.piece 0 m (by omega)
  have e : adr oa c 0 = oa := by
    unfold adr
    split
    · rfl
    · cases oa with
      | none => rfl
      | some a => simp [Addr.add]
  rwa [e, Nat.sub_zero, List.drop_zero] at k
theorem RowC.len {W : World} {oa : Option Addr} {n c : Nat} {L : List Nat} (h : RowC W (.slice oa n c) L) : n = L.length ∧ n ≤ c := by
  obtain ⟨oa', c', e, ⟨h1, _⟩, _⟩ := h
  injection e with e1 e2 e3
  subst e1 e2 e3
  exact ⟨rfl, h1⟩
/-- What stands of a part: its length in so many bytes, and it. -/
def ptL (wd : Nat) (R : List Nat) : Nat := numB (R.take wd)
def ptB (wd : Nat) (R : List Nat) : Bool := decide (wd + ptL wd R ≤ R.length)
def ptR (wd : Nat) (R : List Nat) : List Nat := R.drop (wd + ptL wd R)
def ptT (wd : Nat) (R : List Nat) : List Nat := (R.drop wd).take (ptL wd R)
theorem ptR_eq (wd : Nat) (R : List Nat) : (R.drop wd).drop (ptL wd R) = ptR wd R := by unfold ptR; rw [List.drop_drop]
/-- What is left behind the first parts. -/
def rem (R : List Nat) : Nat → List Nat
  | 0 => R
  | j + 1 => ptR (ptW j) (rem R j)
def lenJ (R : List Nat) (j : Nat) : Nat := ptL (ptW j) (rem R j)
def okJ (R : List Nat) (j : Nat) : Bool := ptB (ptW j) (rem R j)
/-- Are these bytes four parts, and nothing more? -/
def msr (R : List Nat) : Bool := okJ R 0 && okJ R 1 && okJ R 2 && okJ R 3 && decide (lenJ R 3 ≤ 65536) && decide (rem R 4 = [])
theorem ptL_lt {wd : Nat} {R : List Nat} (h : ∀ b ∈ R, b < 256) (hw : wd ≤ 4) : ptL wd R < 4294967296 := by
  have h1 := numB_lt (R.take wd) fun b hb => h b (List.mem_of_mem_take hb)
  rw [List.length_take] at h1
  have h2 : 256 ^ min wd R.length ≤ 256 ^ 4 := Nat.pow_le_pow_right (by omega) (by omega)
  exact Nat.lt_of_lt_of_le h1 h2
theorem ptL_one {R : List Nat} (h : ∀ b ∈ R, b < 256) : ptL 1 R < 256 := by
  have h1 := numB_lt (R.take 1) fun b hb => h b (List.mem_of_mem_take hb)
  rw [List.length_take] at h1
  have h2 : 256 ^ min 1 R.length ≤ 256 ^ 1 := Nat.pow_le_pow_right (by omega) (by omega)
  exact Nat.lt_of_lt_of_le h1 h2
theorem rem_mem {R : List Nat} (h : ∀ b ∈ R, b < 256) : ∀ j, ∀ b ∈ rem R j, b < 256
  | 0 => h
  | j + 1 => fun b hb => by
    unfold rem ptR at hb
    exact rem_mem h j b (List.mem_of_mem_drop hb)
theorem rem_len (R : List Nat) : ∀ j, (rem R j).length ≤ R.length
  | 0 => Nat.le_refl _
  | j + 1 => by
    unfold rem ptR
    rw [List.length_drop]
    have := rem_len R j
    omega
end Go.Proofs.YtgfnfbbiojnhaaaDoor

/- A bit of a word, as the walk spells it. -/
import Derived.Test.YtlijlelejobchaaGreatDoorJ03
import Derived.Test.YtlijlelejobchaaGreatDoorJ06
import Derived.Deep.OwnRows
import Derived.Deep.RegionHeld3
namespace Go.Proofs.YtlijlelejobchaaGreatDoor.M
open Go.RowKit
def owZ : Option Nat → Int
  | none => -1
  | some r => (r : Int)
/-- A matching's cells. -/
def mval (rv : Value) (pl : Nat → Nat) (ow : Nat → Option Nat) : Nat → Value := fun i => if i = 0 then rv else if i < 13 then .int .i64 (pl (i - 1) : Int) else .int .i64 (owZ (ow (i - 13)))
def MAt (W : World) (g : Nat) (rv : Value) (pl : Nat → Nat) (ow : Nat → Option Nat) : Prop := W.rowIs g 128 77 (mval rv pl ow)
def KAt (W : World) (g : Nat) (K : Nat → Bool) : Prop := W.rowIs g 123 64 (fun u => .bool (K u))
/-- Two blocks alone may have been turned. -/
structure Fr2 (W W' : World) (a b : Nat) : Prop where
  os : W'.os = W.os
  tape : W'.tape = W.tape
  output : W'.output = W.output
  size : W.heap.size ≤ W'.heap.size
  block : ∀ k, k < W.heap.size → k ≠ a → k ≠ b → W'.heap[k]? = W.heap[k]?
section
variable {W W' W2 : World} {g gm gk : Nat} {rv : Value} {pl : Nat → Nat} {ow : Nat → Option Nat} {K : Nat → Bool}
theorem Fr2.refl (W : World) (a b : Nat) : Fr2 W W a b := ⟨rfl, rfl, rfl, Nat.le_refl _, fun _ _ _ _ => rfl⟩
theorem Fr2.trans {a b : Nat} (h : Fr2 W W' a b) (k : Fr2 W' W2 a b) : Fr2 W W2 a b :=
  ⟨k.os.trans h.os, k.tape.trans h.tape, k.output.trans h.output, Nat.le_trans h.size k.size, fun x hx h1 h2 => (k.block x (Nat.lt_of_lt_of_le hx h.size) h1 h2).trans (h.block x hx h1 h2)⟩
theorem Fr2.below {a b : Nat} (h : Below W.heap.size W W') : Fr2 W W' a b := ⟨h.os, h.tape, h.output, h.size, fun k hk _ _ => h.block k hk⟩
theorem Fr2.setA (W : World) (a b o : Nat) (v : Value) : Fr2 W (W.setCell ⟨a, o, none⟩ v) a b := ⟨rfl, rfl, rfl, by simp [World.setCell], fun k _ h1 _ => Below.heap_setCell _ _ _ _ h1⟩
theorem Fr2.setB (W : World) (a b o : Nat) (v : Value) : Fr2 W (W.setCell ⟨b, o, none⟩ v) a b := ⟨rfl, rfl, rfl, by simp [World.setCell], fun k _ _ h2 => Below.heap_setCell _ _ _ _ h2⟩
/-- Blocks that are new are nobody's concern. -/
theorem Fr2.new {a b n : Nat} (h : Fr2 W W' a b) (hw : Below n W2 W) (ha : n ≤ a) (hb : n ≤ b) (hn : n ≤ W.heap.size) : Below n W2 W' :=
  ⟨h.os.trans hw.os, h.tape.trans hw.tape, h.output.trans hw.output, Nat.le_trans hw.size h.size, fun k hk => (h.block k (by omega) (by omega) (by omega)).trans (hw.block k hk)⟩
theorem MAt.cell0 (h : MAt W g rv pl ow) : W.cell? ⟨g, 0, none⟩ = some rv := World.rowIs.cell h (by decide)
theorem MAt.cellP (h : MAt W g rv pl ow) {r : Nat} (hr : r < 12) : W.cell? ⟨g, 1 + r, none⟩ = some (.int .i64 (pl r : Int)) := by
  have := World.rowIs.cell h (i := 1 + r) (by omega)
  rw [this]
  unfold mval
  rw [if_neg (by omega), if_pos (by omega), show 1 + r - 1 = r by omega]
theorem MAt.cellO (h : MAt W g rv pl ow) {u : Nat} (hu : u < 64) : W.cell? ⟨g, 13 + u, none⟩ = some (.int .i64 (owZ (ow u))) := by
  have := World.rowIs.cell h (i := 13 + u) (by omega)
  rw [this]
  unfold mval
  rw [if_neg (by omega), if_neg (by omega), show 13 + u - 13 = u by omega]
theorem MAt.frz (h : MAt W g rv pl ow) (i : Nat) : W.frozen? ⟨g, i, none⟩ = false := World.rowIs.frozen h i
theorem MAt.lt (h : MAt W g rv pl ow) : g < W.heap.size := World.rowIs.lt h
theorem MAt.of (h : MAt W g rv pl ow) (e : W'.heap[g]? = W.heap[g]?) : MAt W' g rv pl ow := World.rowIs.of_block h e
theorem MAt.below (h : MAt W g rv pl ow) (hb : Below W.heap.size W W') : MAt W' g rv pl ow := h.of (hb.block g h.lt)
theorem MAt.setO (h : MAt W g rv pl ow) (u : Nat) (o : Option Nat) : MAt (W.setCell ⟨g, 13 + u, none⟩ (.int .i64 (owZ o))) g rv pl (upd ow u o) :=
  World.rowIs.congr (World.rowIs.set h (13 + u) _) fun i hi => by
    unfold mval
    by_cases e : i = 13 + u
    · subst e
      rw [if_pos rfl, if_neg (by omega), if_neg (by omega), show 13 + u - 13 = u by omega, upd_same]
    · rw [if_neg e]
      by_cases h0 : i = 0
      · rw [if_pos h0, if_pos h0]
      · rw [if_neg h0, if_neg h0]
        by_cases h1 : i < 13
        · rw [if_pos h1, if_pos h1]
        · rw [if_neg h1, if_neg h1, upd_ne _ _ (by omega)]
theorem MAt.setP (h : MAt W g rv pl ow) {r : Nat} (hr : r < 12) (p : Nat) : MAt (W.setCell ⟨g, 1 + r, none⟩ (.int .i64 (p : Int))) g rv (upd pl r p) ow :=
  World.rowIs.congr (World.rowIs.set h (1 + r) _) fun i hi => by
    unfold mval
    by_cases e : i = 1 + r
    · subst e
      rw [if_pos rfl, if_neg (by omega), if_pos (by omega), show 1 + r - 1 = r by omega, upd_same]
    · rw [if_neg e]
      by_cases h0 : i = 0
      · rw [if_pos h0, if_pos h0]
      · rw [if_neg h0, if_neg h0]
        by_cases h1 : i < 13
        · rw [if_pos h1, if_pos h1, upd_ne _ _ (by omega)]
        · rw [if_neg h1, if_neg h1]
theorem KAt.cell (h : KAt W g K) {u : Nat} (hu : u < 64) : W.cell? ⟨g, u, none⟩ = some (.bool (K u)) := World.rowIs.cell h hu
theorem KAt.frz (h : KAt W g K) (i : Nat) : W.frozen? ⟨g, i, none⟩ = false := World.rowIs.frozen h i
theorem KAt.lt (h : KAt W g K) : g < W.heap.size := World.rowIs.lt h
theorem KAt.of (h : KAt W g K) (e : W'.heap[g]? = W.heap[g]?) : KAt W' g K := World.rowIs.of_block h e
theorem KAt.below (h : KAt W g K) (hb : Below W.heap.size W W') : KAt W' g K := h.of (hb.block g h.lt)
theorem KAt.set (h : KAt W g K) (u : Nat) (b : Bool) : KAt (W.setCell ⟨g, u, none⟩ (.bool b)) g (upd K u b) :=
  World.rowIs.congr (World.rowIs.set h u _) fun i hi => by
    by_cases e : i = u
    · subst e; rw [if_pos rfl, upd_same]
    · rw [if_neg e, upd_ne _ _ e]
theorem MAt.setOther (h : MAt W g rv pl ow) {a o : Nat} (ha : g ≠ a) (v : Value) : MAt (W.setCell ⟨a, o, none⟩ v) g rv pl ow := World.rowIs.setOther h ha v
theorem KAt.setOther (h : KAt W g K) {a o : Nat} (ha : g ≠ a) (v : Value) : KAt (W.setCell ⟨a, o, none⟩ v) g K := World.rowIs.setOther h ha v
end
/-- The rows, and the table of the machine's bits, apart from the blocks that are written. -/
structure Cxt (W : World) (gm gk : Nat) (rv : Value) (n : Nat) (R : Nat → Nat) : Prop where
  rw : ∃ oa cap, rv = .slice oa n cap ∧ ∀ r, r < n → ∃ g o, oa = some ⟨g, o, none⟩ ∧ g ≠ gm ∧ g ≠ gk ∧ W.cell? ⟨g, o + r, none⟩ = some (.int .u64 (R r : Int))
  tab : Tab W
  farm : 1 ≤ gm
  fark : 1 ≤ gk
  nek : gm ≠ gk
  word : ∀ r, R r < 18446744073709551616
  few : n ≤ 12
theorem Tab.fr2 {W W' : World} {a b : Nat} (h : Tab W) (hf : Fr2 W W' a b) (ha : 1 ≤ a) (hb : 1 ≤ b) : Tab W' :=
  Tab.below h (Nat.le_refl _) ⟨hf.os, hf.tape, hf.output, hf.size, fun k hk => hf.block k (Nat.lt_of_lt_of_le hk h.2) (by omega) (by omega)⟩
section
variable {W W' : World} {gm gk n : Nat} {rv : Value} {R : Nat → Nat}
theorem Cxt.fr (h : Cxt W gm gk rv n R) (hf : Fr2 W W' gm gk) : Cxt W' gm gk rv n R := by
  obtain ⟨oa, cap, e, hc⟩ := h.rw
  refine ⟨⟨oa, cap, e, fun r hr => ?_⟩, Tab.fr2 h.tab hf h.farm h.fark, h.farm, h.fark, h.nek, h.word, h.few⟩
  obtain ⟨g, o, e1, h1, h2, hcell⟩ := hc r hr
  have hl := cell_lt hcell
  refine ⟨g, o, e1, h1, h2, ?_⟩
  have := hf.block g hl h1 h2
  rw [← hcell]
  simp only [World.cell?, this]
theorem Cxt.bit (h : Cxt W gm gk rv n R) : ∀ r v, (R r).testBit v = true → v < 64 := fun r v hb => by
  rcases Nat.lt_or_ge v 64 with e | e
  · exact e
  · have := Nat.testBit_lt_two_pow (x := R r) (i := v) (Nat.lt_of_lt_of_le (h.word r) (Nat.pow_le_pow_right (n := 2) (by decide) e))
    rw [this] at hb
    cases hb
end
/-- What way answers. -/
def WayP (W : World) (gm gk : Nat) (rv : Value) (n : Nat) (R : Nat → Nat) (ow : Nat → Option Nat) (pl : Nat → Nat) (K : Nat → Bool) (E D : Nat → Prop) (i : Nat) (e : Ending) (w' : World) : Prop :=
  Fr2 W w' gm gk ∧ ((e = .returned (.bool true) ∧ ∃ ow' pl' K', MAt w' gm rv pl' ow' ∧ KAt w' gk K' ∧ Way n R ow K E D i ow' pl' K') ∨
    (e = .returned (.bool false) ∧ ∃ K', MAt w' gm rv pl ow ∧ KAt w' gk K' ∧ NoW R (Ow ow D) K K' i 64))
end Go.Proofs.YtlijlelejobchaaGreatDoor.M
namespace Go.Proofs.YtlijlelejobchaaGreatDoor.M
open Go.RowKit Go.Shelf
theorem cell_over {W W' : World} {p : Addr} {v : Value} (h : W.cell? p = some v) (hb : Below W.heap.size W W') : W'.cell? p = some v := by
  obtain ⟨b, o, f⟩ := p
  cases f with
  | none => exact (hb.cell (p := ⟨b, o, none⟩) (cell_lt h)).trans h
  | some f => exact (hb.cell (p := ⟨b, o, some f⟩) (by
      simp only [World.cell?] at h
      split at h
      · rename_i e; exact (Array.getElem?_eq_some_iff.1 e).1
      · cases h)).trans h
theorem hide' {p : Prop} (h : p) : Hid p := h
set_option maxHeartbeats 400000 in
theorem ofC (x : Int) (w : World) : Calls Tryz.prog 100 #[.int .u64 x] w fun e w' => e = .returned (.agg #[.int .u64 x]) ∧ Below w.heap.size w w' := by
  go_enter Tryz.func100, Tryz.ntmps100
  go_wp2_with (go_at_call 108; refine (of64 _ _ _).mono ?_; rintro e w1 ⟨rfl, hb⟩; obtain ⟨hc, hf⟩ := bcell hb)
  exact bodyPost_ret (v := .agg #[.int .u64 x]) (by simp [results, Tryz.results100, go_sem, hc]) rfl ⟨rfl, (((Below.refl _ w).alloc (Nat.le_refl _) _).trans (hb.mono (by simp))).setCell (by simp) _⟩
theorem fewC (oa : Option Addr) (n cap : Nat) (w : World) : Calls Tryz.prog 97 #[.slice oa n cap] w fun e w' => e = .returned (.bool (decide ((n : Int) ≤ 12))) ∧ w' = w := by
  go_enter Tryz.func97, Tryz.ntmps97
  go_wp2
  go_ret
  exact ⟨ret_bool (by simp), rfl⟩
end Go.Proofs.YtlijlelejobchaaGreatDoor.M
namespace Go.Proofs.YtlijlelejobchaaGreatDoor.M
open Go.RowKit
theorem shr_bit (x i : Nat) (hx : x < 18446744073709551616) : bits .and .u64 ((x : Int) / 2 ^ i) 1 = ((x.testBit i).toNat : Int) := by
  have h1 : ((x : Int) / 2 ^ i) = ((x / 2 ^ i : Nat) : Int) := by simp
  have h2 : x / 2 ^ i < 18446744073709551616 := Nat.lt_of_le_of_lt (Nat.div_le_self _ _) hx
  have h3 := u64_and_nat (x / 2 ^ i) 1 h2 (by decide)
  rw [h1, show (1 : Int) = ((1 : Nat) : Int) from rfl, h3, Nat.and_one_is_mod, Nat.testBit_eq_decide_div_mod_eq]
  rcases Nat.mod_two_eq_zero_or_one (x / 2 ^ i) with e | e <;> rw [e] <;> rfl
theorem shr_bitT {x i : Nat} (hx : x < 18446744073709551616) (h : x.testBit i = true) : bits .and .u64 ((x : Int) / 2 ^ i) 1 = 1 := by rw [shr_bit x i hx, h]; rfl
theorem shr_bitF {x i : Nat} (hx : x < 18446744073709551616) (h : x.testBit i = false) : bits .and .u64 ((x : Int) / 2 ^ i) 1 = 0 := by rw [shr_bit x i hx, h]; rfl
end Go.Proofs.YtlijlelejobchaaGreatDoor.M

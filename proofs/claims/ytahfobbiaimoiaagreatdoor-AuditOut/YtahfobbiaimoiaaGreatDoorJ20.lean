/- The document's Legal. -/
import Derived.Test.YtahfobbiaimoiaaGreatDoorJ01
import Derived.WalkKit
import Derived.WalkSpells
import Derived.WalkLawsBesides
import Derived.BigRegion
import Derived.OwnWalk
import Derived.Laws.Externs
import Derived.Laws.EntriesVeiled
import Derived.Lib.Strings
import Derived.Lib.Bytealg
import Derived.Shelf.Abstract
import Derived.LoopN
import Derived.Deep.CutRange
import Derived.Deep.AppendLies
import Derived.Deep.RegionHeld3
import Derived.Deep.QuietTactic
import Derived.BigQuiet
namespace Go.Proofs.YtahfobbiaimoiaaGreatDoor.L
open Go.RowKit Go.Shelf
theorem hide' {p : Prop} (h : p) : Hid p := h
/-- A list's bytes as a string. -/
def bs (l : List UInt8) : ByteArray := ⟨l.toArray⟩
theorem bs_size (l : List UInt8) : (bs l).size = l.length := by simp [bs, ByteArray.size]
theorem bs_at {l : List UInt8} {i : Nat} {x : UInt8} (hx : l[i]? = some x) : ∃ h : i < (bs l).size, (bs l)[i]'h = x := by
  obtain ⟨hl, e⟩ := List.getElem?_eq_some_iff.1 hx
  refine ⟨by rw [bs_size]; exact hl, ?_⟩
  rw [← e]
  rfl
theorem bs_list (l : List UInt8) : (bs l).data.toList = l := by simp [bs]
theorem bs_of (s : ByteArray) : s = bs s.data.toList := by cases s; simp [bs]
/-- The blocks from lo on are kept. -/
def Kp (lo : Nat) (w W : World) : Prop := w.heap.size ≤ W.heap.size ∧ ∀ k, lo ≤ k → k < w.heap.size → W.heap[k]? = w.heap[k]?
theorem Kp.refl (lo : Nat) (w : World) : Kp lo w w := ⟨Nat.le_refl _, fun _ _ _ => rfl⟩
theorem Kp.trans {lo : Nat} {w W V : World} (h : Kp lo w W) (h' : Kp lo W V) : Kp lo w V :=
  ⟨Nat.le_trans h.1 h'.1, fun k h1 h2 => (h'.2 k h1 (Nat.lt_of_lt_of_le h2 h.1)).trans (h.2 k h1 h2)⟩
theorem Kp.of {w W : World} (lo : Nat) (h : Below w.heap.size w W) : Kp lo w W := ⟨h.size, fun k _ h2 => h.block k h2⟩
theorem Kp.cell {lo : Nat} {w W : World} (h : Kp lo w W) {p : Addr} (h1 : lo ≤ p.block) (h2 : p.block < w.heap.size) : W.cell? p = w.cell? p := by
  simp [World.cell?, h.2 p.block h1 h2]
/-- A function value that tells a kind of bytes, in any later world that keeps the blocks from lo on. -/
def PK (lo : Nat) (g : Nat) (lb : Array Value) (p : UInt8 → Bool) (w : World) : Prop :=
  (∀ args w, (callFunc g args).run Tryz.prog w = .ok (.enter g args) w) ∧ ∀ (W : World) (x : UInt8), Kp lo w W → Calls Tryz.prog g (#[.int .u8 (x.toNat : Int)] ++ lb) W fun e w' => e = .returned (.bool (p x)) ∧ Below W.heap.size W w'
theorem PK.laterK {lo g : Nat} {lb : Array Value} {p : UInt8 → Bool} {w W : World} (h : PK lo g lb p w) (hb : Kp lo w W) : PK lo g lb p W :=
  ⟨h.1, fun W' x hb' => h.2 W' x (hb.trans hb')⟩
theorem PK.later {lo g : Nat} {lb : Array Value} {p : UInt8 → Bool} {w W : World} (h : PK lo g lb p w) (hb : Below w.heap.size w W) : PK lo g lb p W := h.laterK (.of lo hb)
theorem ent47 : ∀ args w, (callFunc 187 args).run Tryz.prog w = .ok (.enter 187 args) w := enters_of Tryz.func187 (by kernel_rfl) rfl
theorem ent48 : ∀ args w, (callFunc 188 args).run Tryz.prog w = .ok (.enter 188 args) w := enters_of Tryz.func188 (by kernel_rfl) rfl
theorem ent50 : ∀ args w, (callFunc 190 args).run Tryz.prog w = .ok (.enter 190 args) w := enters_of Tryz.func190 (by kernel_rfl) rfl
theorem ent51 : ∀ args w, (callFunc 191 args).run Tryz.prog w = .ok (.enter 191 args) w := enters_of Tryz.func191 (by kernel_rfl) rfl
set_option maxHeartbeats 1000000 in
theorem betw (a b : Nat) (B1 B2 : Nat) (x : UInt8) (w : World) (h1 : w.cell? ⟨B1, 0, none⟩ = some (.int .u8 (a : Int))) (h2 : w.cell? ⟨B2, 0, none⟩ = some (.int .u8 (b : Int))) :
    Calls Tryz.prog 187 #[.int .u8 (x.toNat : Int), .pointer (some ⟨B1, 0, none⟩), .pointer (some ⟨B2, 0, none⟩)] w fun e w' => e = .returned (.bool (decide (a ≤ x.toNat ∧ x.toNat ≤ b))) ∧ Below w.heap.size w w' := by
  generalize x.toNat = n
  by_cases ha : a ≤ n
  · by_cases hb : n ≤ b
    · have hr : Hid (decide (a ≤ n ∧ n ≤ b) = true) := by show _ = _; simp [ha, hb]
      rw [hr.out]
      go_enter Tryz.func187, Tryz.ntmps187
      go_wp2
      go_ret
      exact ⟨rfl, by first | exact Below.refl _ _ | exact (Below.refl _ w).drew⟩
    · have hr : Hid (decide (a ≤ n ∧ n ≤ b) = false) := by show _ = _; simp [ha, hb]
      rw [hr.out]
      go_enter Tryz.func187, Tryz.ntmps187
      go_wp2
      go_ret
      exact ⟨rfl, by first | exact Below.refl _ _ | exact (Below.refl _ w).drew⟩
  · have hr : Hid (decide (a ≤ n ∧ n ≤ b) = false) := by show _ = _; simp [ha]
    rw [hr.out]
    go_enter Tryz.func187, Tryz.ntmps187
    go_wp2
    go_ret
    exact ⟨rfl, by first | exact Below.refl _ _ | exact (Below.refl _ w).drew⟩
set_option maxHeartbeats 1000000 in
set_option maxRecDepth 100000 in
theorem idxB (s : ByteArray) (x : UInt8) (w : World) : Calls Tryz.prog 192 #[.string s, .int .u8 (x.toNat : Int)] w fun e w' => e = .returned (.int .i64 (Lib.indexByte s.data.toList x)) ∧ w' = w := by
  go_enter Tryz.func192, Tryz.ntmps192
  go_wp2
  rw [run_callFunc_extern Tryz.func193 (by kernel_rfl) (by kernel_rfl) (by kernel_rfl) (e := Extern.BytealgIndexByte.indexByte) (by kernel_rfl), Lib.run_indexByteString]
  simp only [Result.andThen]
  rw [Oper.upon_value]
  go_wp2
  go_ret
  exact ⟨by simp, rfl⟩
set_option maxHeartbeats 1000000 in
theorem idxS (s : ByteArray) (x : UInt8) (w : World) : Calls Tryz.prog 189 #[.string s, .int .u8 (x.toNat : Int)] w fun e w' => e = .returned (.int .i64 (Lib.indexByte s.data.toList x)) ∧ w' = w := by
  have K := hide' (idxB s x w)
  generalize Lib.indexByte s.data.toList x = i at *
  go_enter Tryz.func189, Tryz.ntmps189
  go_wp2_with (go_at_call 192; refine K.out.mono ?_; rintro e w1 ⟨rfl, rfl⟩)
  go_ret
  exact ⟨rfl, rfl⟩
theorem idx_mem (x : UInt8) : ∀ (T : List UInt8), decide ((0 : Int) ≤ Lib.indexByte T x) = decide (x ∈ T) ∧ -1 ≤ Lib.indexByte T x
  | [] => ⟨rfl, (by show (-1 : Int) ≤ -1; omega)⟩
  | c :: T => by
    obtain ⟨ih, ih2⟩ := idx_mem x T
    unfold Lib.indexByte
    by_cases hc : c = x
    · subst hc
      simp
    · have hb : (c == x) = false := by simpa using hc
      have hx : decide (x ∈ c :: T) = decide (x ∈ T) := by
        rw [decide_eq_decide, List.mem_cons]
        exact ⟨fun h => h.elim (fun e => absurd e.symm hc) id, .inr⟩
      rw [hx, ← ih, hb]
      by_cases hm : Lib.indexByte T x = -1
      · rw [hm]; decide
      · have hne : (Lib.indexByte T x == -1) = false := by simpa using hm
        rw [hne]
        simp only [Bool.false_eq_true, if_false]
        refine ⟨?_, by omega⟩
        rw [decide_eq_decide]
        omega
set_option maxHeartbeats 1000000 in
theorem amng (l : List UInt8) (B1 : Nat) (x : UInt8) (w : World) (h1 : w.cell? ⟨B1, 0, none⟩ = some (.string (bs l))) :
    Calls Tryz.prog 188 #[.int .u8 (x.toNat : Int), .pointer (some ⟨B1, 0, none⟩)] w fun e w' => e = .returned (.bool (decide (x ∈ l))) ∧ Below w.heap.size w w' := by
  have K := hide' (idxS (bs l) x w)
  rw [bs_list] at K
  have hr := (idx_mem x l).1
  generalize Lib.indexByte l x = i at *
  rw [← hr]
  clear hr
  generalize bs l = s at *
  go_enter Tryz.func188, Tryz.ntmps188
  go_wp2_with (go_at_call 189; refine K.out.mono ?_; rintro e w1 ⟨rfl, rfl⟩)
  go_ret
  exact ⟨by simp, by first | exact Below.refl _ _ | exact (Below.refl _ w).drew⟩
set_option maxHeartbeats 1000000 in
theorem exc (g : Nat) (lb : Array Value) (p : UInt8 → Bool) (B1 : Nat) (x : UInt8) (w : World) (h1 : w.cell? ⟨B1, 0, none⟩ = some (.func (.func g) #[] lb)) (lo : Nat) (hk : PK lo g lb p w) :
    Calls Tryz.prog 190 #[.int .u8 (x.toNat : Int), .pointer (some ⟨B1, 0, none⟩)] w fun e w' => e = .returned (.bool (!p x)) ∧ Below w.heap.size w w' := by
  obtain ⟨eg, hk2⟩ := hk
  have K := hide' (hk2 w x (Kp.refl _ _))
  clear hk2
  generalize x.toNat = n at *
  generalize p x = q at *
  go_enter Tryz.func190, Tryz.ntmps190
  go_wp2_with (go_at_fn g; refine K.out.mono ?_; rintro e w1 ⟨rfl, hb⟩)
  go_ret
  exact ⟨rfl, by first | exact hb | exact hb.drew⟩
end Go.Proofs.YtahfobbiaimoiaaGreatDoor.L
namespace Go.Proofs.YtahfobbiaimoiaaGreatDoor.L
open Go.RowKit Go.Shelf
/-- A function value that answers q at the byte n, in any world behind w. -/
def ans (g : Nat) (lb : Array Value) (n : Nat) (q : Bool) (w : World) : Prop := ∀ W, Below w.heap.size w W → Calls Tryz.prog g (#[.int .u8 (n : Int)] ++ lb) W fun e w' => e = .returned (.bool q) ∧ Below W.heap.size W w'
set_option maxHeartbeats 2000000 in
theorem eith0 (g1 g2 g3 : Nat) (l1 l2 l3 : Array Value) (q1 q2 q3 : Bool) (B1 B2 : Nat) (n : Nat) (w : World) (h0 : w.cell? ⟨B1, 0, none⟩ = some (.slice (some ⟨B2, 0, none⟩) 3 3))
    (h1 : w.cell? ⟨B2, 0, none⟩ = some (.func (.func g1) #[] l1)) (h2 : w.cell? ⟨B2, 1, none⟩ = some (.func (.func g2) #[] l2)) (h3 : w.cell? ⟨B2, 2, none⟩ = some (.func (.func g3) #[] l3))
    (eg1 : ∀ args w, (callFunc g1 args).run Tryz.prog w = .ok (.enter g1 args) w) (eg2 : ∀ args w, (callFunc g2 args).run Tryz.prog w = .ok (.enter g2 args) w) (eg3 : ∀ args w, (callFunc g3 args).run Tryz.prog w = .ok (.enter g3 args) w)
    (k1 : Hid (ans g1 l1 n q1 w)) (k2 : Hid (ans g2 l2 n q2 w)) (k3 : Hid (ans g3 l3 n q3 w)) (hlt : Hid (B2 < w.heap.size)) :
    Calls Tryz.prog 191 #[.int .u8 (n : Int), .pointer (some ⟨B1, 0, none⟩)] w fun e w' => e = .returned (.bool (q1 || (q2 || q3))) ∧ Below w.heap.size w w' := by
  have C : Hid (∀ W i v, Below w.heap.size w W → w.cell? ⟨B2, i, none⟩ = some v → W.cell? ⟨B2, i, none⟩ = some v) := fun W i v hb h => (hb.cell (p := ⟨B2, i, none⟩) hlt.out).trans h
  go_enter Tryz.func191, Tryz.ntmps191
  go_wp2
  go_loopw [8] (fun k wr => ∃ c : Nat, k = .int .i64 c ∧ c ≤ 3 ∧ Hid (Below w.heap.size w wr) ∧ Hid ((q1 || (q2 || q3)) = if c = 0 then (q1 || (q2 || q3)) else if c = 1 then (q2 || q3) else if c = 2 then q3 else false)) (fun k _ => ((3 : Int) - intOf k).toNat)
  case atStart => exact ⟨0, rfl, by decide, Below.refl _ _, rfl⟩
  case round =>
    obtain ⟨c, rfl, hc, hB, hq⟩ := hrel
    match c, hc with
    | 0, _ =>
        have K := hide' (k1.out _ hB.out)
        have c1 := C.out _ 0 _ hB.out h1
        clear k1 k2 k3 C h1 h2 h3
        cases q1
        · go_wp2_with (go_at_fn g1; refine K.out.mono ?_; rintro e w1 ⟨rfl, hb⟩)
          exact ⟨⟨1, by go_num, by decide, hB.out.trans (hb.mono hB.out.size), by simpa using hq⟩, by simp [intOf]⟩
        · go_wp2_with (go_at_fn g1; refine K.out.mono ?_; rintro e w1 ⟨rfl, hb⟩)
          go_ret
          exact ⟨by rw [hq.out]; rfl, hB.out.trans (hb.mono hB.out.size)⟩
    | 1, _ =>
        have K := hide' (k2.out _ hB.out)
        have c1 := C.out _ 1 _ hB.out h2
        clear k1 k2 k3 C h1 h2 h3
        cases q2
        · go_wp2_with (go_at_fn g2; refine K.out.mono ?_; rintro e w1 ⟨rfl, hb⟩)
          exact ⟨⟨2, by go_num, by decide, hB.out.trans (hb.mono hB.out.size), by simpa using hq⟩, by simp [intOf]⟩
        · go_wp2_with (go_at_fn g2; refine K.out.mono ?_; rintro e w1 ⟨rfl, hb⟩)
          go_ret
          exact ⟨by rw [hq.out]; rfl, hB.out.trans (hb.mono hB.out.size)⟩
    | 2, _ =>
        have K := hide' (k3.out _ hB.out)
        have c1 := C.out _ 2 _ hB.out h3
        clear k1 k2 k3 C h1 h2 h3
        cases q3
        · go_wp2_with (go_at_fn g3; refine K.out.mono ?_; rintro e w1 ⟨rfl, hb⟩)
          exact ⟨⟨3, by go_num, by decide, hB.out.trans (hb.mono hB.out.size), by simpa using hq⟩, by simp [intOf]⟩
        · go_wp2_with (go_at_fn g3; refine K.out.mono ?_; rintro e w1 ⟨rfl, hb⟩)
          go_ret
          exact ⟨by rw [hq.out]; rfl, hB.out.trans (hb.mono hB.out.size)⟩
    | 3, _ =>
        clear k1 k2 k3 C h1 h2 h3
        go_wp2
        go_ret
        exact ⟨by rw [hq.out]; rfl, hB.out⟩
theorem cell_box (w : World) (t : TypeId) (v : Value) : (w.alloc (.cells #[v] t)).cell? ⟨w.heap.size, 0, none⟩ = some v := by simp
set_option maxHeartbeats 1000000 in
theorem mkBetw (lo : Nat) (a b : Nat) (w : World) (hlo : lo ≤ w.heap.size) : Calls Tryz.prog 177 #[.int .u8 (a : Int), .int .u8 (b : Int)] w fun e w' => ∃ lb, e = .returned (.func (.func 187) #[] lb) ∧ PK lo 187 lb (fun x => decide (a ≤ x.toNat ∧ x.toNat ≤ b)) w' ∧ Below w.heap.size w w' := by
  have hlo' := hide' hlo
  clear hlo
  go_enter Tryz.func177, Tryz.ntmps177
  go_wp2
  go_ret
  have hlo := hlo'.out
  refine ⟨_, rfl, ⟨ent47, fun W x hb => ?_⟩, ((Below.refl _ w).alloc (Nat.le_refl _) _).alloc (by simp) _⟩
  refine betw a b _ _ x W ?_ ?_
  · rw [hb.cell hlo (by simp; omega)]; simp
  · rw [hb.cell (by show lo ≤ w.heap.size + 1; omega) (by simp)]; simp
set_option maxHeartbeats 1000000 in
theorem mkAmong (lo : Nat) (l : List UInt8) (w : World) (hlo : lo ≤ w.heap.size) : Calls Tryz.prog 178 #[.string (bs l)] w fun e w' => ∃ lb, e = .returned (.func (.func 188) #[] lb) ∧ PK lo 188 lb (fun x => decide (x ∈ l)) w' ∧ Below w.heap.size w w' := by
  obtain ⟨s, hs⟩ : ∃ s, bs l = s := ⟨_, rfl⟩
  rw [hs]
  have hlo' := hide' hlo
  clear hlo
  go_enter Tryz.func178, Tryz.ntmps178
  go_wp2
  go_ret
  have hlo := hlo'.out
  refine ⟨_, rfl, ⟨ent48, fun W x hb => ?_⟩, (Below.refl _ w).alloc (Nat.le_refl _) _⟩
  refine amng l _ x W ?_
  rw [hb.cell hlo (by simp)]; simp [hs]
set_option maxHeartbeats 1000000 in
theorem mkExc (lo g : Nat) (lc : Array Value) (p : UInt8 → Bool) (w : World) (hlo : lo ≤ w.heap.size) (hk : PK lo g lc p w) : Calls Tryz.prog 179 #[.func (.func g) #[] lc] w fun e w' => ∃ lb, e = .returned (.func (.func 190) #[] lb) ∧ PK lo 190 lb (fun x => !p x) w' ∧ Below w.heap.size w w' := by
  have hk' := hide' (And.intro hk hlo)
  clear hk hlo
  go_enter Tryz.func179, Tryz.ntmps179
  go_wp2
  go_ret
  have hlo := hk'.out.2
  have hB : Below w.heap.size w (w.alloc (.cells #[.func (.func g) #[] lc] 199)) := (Below.refl _ w).alloc (Nat.le_refl _) _
  refine ⟨_, rfl, ⟨ent50, fun W x hb => ?_⟩, hB⟩
  refine exc g lc p _ x W ?_ lo (hk'.out.1.laterK ((Kp.of lo hB).trans hb))
  rw [hb.cell hlo (by simp)]; simp
set_option maxHeartbeats 1000000 in
theorem mkEith (lo g1 g2 g3 : Nat) (l1 l2 l3 : Array Value) (p1 p2 p3 : UInt8 → Bool) (B2 : Nat) (w : World)
    (h1 : w.cell? ⟨B2, 0, none⟩ = some (.func (.func g1) #[] l1)) (h2 : w.cell? ⟨B2, 1, none⟩ = some (.func (.func g2) #[] l2)) (h3 : w.cell? ⟨B2, 2, none⟩ = some (.func (.func g3) #[] l3))
    (k1 : PK lo g1 l1 p1 w) (k2 : PK lo g2 l2 p2 w) (k3 : PK lo g3 l3 p3 w) (hlt : B2 < w.heap.size) (hlo : lo ≤ B2) :
    Calls Tryz.prog 180 #[.slice (some ⟨B2, 0, none⟩) 3 3] w fun e w' => ∃ lb, e = .returned (.func (.func 191) #[] lb) ∧ PK lo 191 lb (fun x => p1 x || (p2 x || p3 x)) w' ∧ Below w.heap.size w w' := by
  have H := hide' (And.intro h1 (And.intro h2 (And.intro h3 (And.intro k1 (And.intro k2 (And.intro k3 (And.intro hlt hlo)))))))
  clear h1 h2 h3 k1 k2 k3 hlt hlo
  go_enter Tryz.func180, Tryz.ntmps180
  go_wp2
  go_ret
  obtain ⟨h1, h2, h3, k1, k2, k3, hlt, hlo⟩ := H.out
  have hB : Below w.heap.size w (w.alloc (.cells #[.slice (some ⟨B2, 0, none⟩) 3 3] 218)) := (Below.refl _ w).alloc (Nat.le_refl _) _
  refine ⟨_, rfl, ⟨ent51, fun W x hb => ?_⟩, hB⟩
  have hBW := (Kp.of lo hB).trans hb
  have hz := hBW.1
  refine eith0 g1 g2 g3 l1 l2 l3 (p1 x) (p2 x) (p3 x) _ B2 x.toNat W ?_ ?_ ?_ ?_ k1.1 k2.1 k3.1 (fun W' h => (k1.laterK hBW).2 W' x (.of lo h)) (fun W' h => (k2.laterK hBW).2 W' x (.of lo h)) (fun W' h => (k3.laterK hBW).2 W' x (.of lo h)) (by show B2 < _; omega)
  · rw [hb.cell (by show lo ≤ w.heap.size; omega) (by simp)]; simp
  · exact (hBW.cell (p := ⟨B2, 0, none⟩) hlo hlt).trans h1
  · exact (hBW.cell (p := ⟨B2, 1, none⟩) hlo hlt).trans h2
  · exact (hBW.cell (p := ⟨B2, 2, none⟩) hlo hlt).trans h3
end Go.Proofs.YtahfobbiaimoiaaGreatDoor.L
namespace Go.Proofs.YtahfobbiaimoiaaGreatDoor.L
open Go.RowKit Go.Shelf
/-- Eight kinds, as function values. -/
structure Kd where
  g0 : Nat
  g1 : Nat
  g2 : Nat
  g3 : Nat
  g4 : Nat
  g5 : Nat
  g6 : Nat
  g7 : Nat
  l0 : Array Value
  l1 : Array Value
  l2 : Array Value
  l3 : Array Value
  l4 : Array Value
  l5 : Array Value
  l6 : Array Value
  l7 : Array Value
abbrev fv (g : Nat) (l : Array Value) : Value := .func (.func g) #[] l
def Kd.v (K : Kd) : Value := .agg #[fv K.g0 K.l0, fv K.g1 K.l1, fv K.g2 K.l2, fv K.g3 K.l3, fv K.g4 K.l4, fv K.g5 K.l5, fv K.g6 K.l6, fv K.g7 K.l7]
structure KOk (K : Kd) (w : World) : Prop where
  bl : PK 0 K.g0 K.l0 isBl w
  rm : PK 0 K.g1 K.l1 isRm w
  en : PK 0 K.g2 K.l2 isEnd w
  ln : PK 0 K.g3 K.l3 inLn w
  le : PK 0 K.g4 K.l4 isLet w
  di : PK 0 K.g5 K.l5 isDig w
  nm : PK 0 K.g6 K.l6 isIn w
  mr : PK 0 K.g7 K.l7 isMk w
/-- The same, with the blocks from lo on alone. -/
structure KOkL (lo : Nat) (K : Kd) (w : World) : Prop where
  bl : PK lo K.g0 K.l0 isBl w
  rm : PK lo K.g1 K.l1 isRm w
  en : PK lo K.g2 K.l2 isEnd w
  ln : PK lo K.g3 K.l3 inLn w
  le : PK lo K.g4 K.l4 isLet w
  di : PK lo K.g5 K.l5 isDig w
  nm : PK lo K.g6 K.l6 isIn w
  mr : PK lo K.g7 K.l7 isMk w
theorem PK.low {lo g : Nat} {lb : Array Value} {p : UInt8 → Bool} {w W : World} (h : PK lo g lb p w) (hb : Kp lo w W) : PK 0 g lb p W :=
  ⟨h.1, fun W' x hb' => h.2 W' x (hb.trans ⟨hb'.1, fun k _ h2 => hb'.2 k (Nat.zero_le _) h2⟩)⟩
theorem KOkL.low {lo : Nat} {K : Kd} {w W : World} (h : KOkL lo K w) (hb : Kp lo w W) : KOk K W :=
  ⟨h.bl.low hb, h.rm.low hb, h.en.low hb, h.ln.low hb, h.le.low hb, h.di.low hb, h.nm.low hb, h.mr.low hb⟩
theorem Kp.setCell {lo : Nat} {w W : World} (h : Kp lo w W) {p : Addr} (hp : p.block < lo) (v : Value) : Kp lo w (W.setCell p v) := by
  refine ⟨by simpa using h.1, fun k h1 h2 => ?_⟩
  rw [← h.2 k h1 h2]
  exact Below.heap_setCell W p v k (by omega)
theorem KOk.later {K : Kd} {w W : World} (h : KOk K w) (hb : Below w.heap.size w W) : KOk K W :=
  ⟨h.bl.later hb, h.rm.later hb, h.en.later hb, h.ln.later hb, h.le.later hb, h.di.later hb, h.nm.later hb, h.mr.later hb⟩
theorem PK.cong {lo g : Nat} {lb : Array Value} {p q : UInt8 → Bool} {w : World} (h : PK lo g lb p w) (e : ∀ x, p x = q x) : PK lo g lb q w := by
  have : p = q := funext e
  rwa [this] at h
set_option maxRecDepth 100000 in
set_option maxHeartbeats 2000000 in
theorem kindsOB (w : World) : Calls Tryz.prog 165 #[] w fun e w' => ∃ K : Kd, e = .returned K.v ∧ KOk K w' ∧ Below w.heap.size w w' := by
  obtain ⟨lo, hlo⟩ : ∃ lo, lo = w.heap.size + 1 := ⟨_, rfl⟩
  go_enter Tryz.func165, Tryz.ntmps165
  go_wp2_with fail
  refine (mkBetw lo 97 122 _ (by simp [hlo])).mono ?_
  rintro e w1 ⟨l4, rfl, k4, b1⟩
  have z1 : lo ≤ w1.heap.size := Nat.le_trans (by simp [hlo]) b1.size
  go_wp2_with fail
  refine (mkBetw lo 48 57 _ z1).mono ?_
  rintro e w2 ⟨l5, rfl, k5, b2⟩
  have z2 : lo ≤ w2.heap.size := Nat.le_trans z1 b2.size
  go_wp2_with fail
  refine (mkAmong lo [10] _ z2).mono ?_
  rintro e w3 ⟨l2, rfl, k2, b3⟩
  have z3 : lo ≤ w3.heap.size := Nat.le_trans z2 b3.size
  go_wp2_with fail
  refine (mkAmong lo [32, 9] _ z3).mono ?_
  rintro e w4 ⟨l0, rfl, k0, b4⟩
  have z4 : lo ≤ w4.heap.size := Nat.le_trans z3 b4.size
  go_wp2_with fail
  refine (mkAmong lo [35] _ z4).mono ?_
  rintro e w5 ⟨l1, rfl, k1, b5⟩
  have z5 : lo ≤ w5.heap.size := Nat.le_trans z4 b5.size
  have k2' := k2.later (b4.trans (b5.mono b4.size))
  go_wp2_with fail
  refine (mkExc lo 188 l2 _ w5 z5 k2').mono ?_
  rintro e w6 ⟨l3, rfl, k3, b6⟩
  have z6 : lo ≤ w6.heap.size := Nat.le_trans z5 b6.size
  go_wp2_with fail
  refine (mkAmong lo [45] _ z6).mono ?_
  rintro e w7 ⟨l8, rfl, k8, b7⟩
  have z7 : lo ≤ w7.heap.size := Nat.le_trans z6 b7.size
  have B37 : Below w3.heap.size w3 w7 := ((b4.trans (b5.mono b4.size)).trans (b6.mono (Nat.le_trans b4.size b5.size))).trans (b7.mono (Nat.le_trans (Nat.le_trans b4.size b5.size) b6.size))
  have k4' := (k4.later (b2.trans (b3.mono b2.size))).later B37
  have k5' := (k5.later b3).later B37
  have k2'' := k2.later B37
  have hz1 := b1.size
  simp only [World.size_alloc] at hz1
  go_wp2_with fail
  have a7 : Below w7.heap.size w7 (w7.alloc (.cells #[.func (.func 187) #[] l4, .func (.func 187) #[] l5, .func (.func 188) #[] l8] 199)) := (Below.refl _ w7).alloc (Nat.le_refl _) _
  refine (mkEith lo 187 187 188 l4 l5 l8 _ _ _ w7.heap.size _ (by simp) (by simp) (by simp) (k4'.later a7) (k5'.later a7) (k8.later a7) (by simp) z7).mono ?_
  rintro e w8 ⟨l6, rfl, k6, b8⟩
  have z8 : lo ≤ w8.heap.size := Nat.le_trans z7 (Nat.le_trans a7.size b8.size)
  go_wp2_with fail
  refine (mkAmong lo [44, 58, 60, 62, 61, 40, 41] _ z8).mono ?_
  rintro e w9 ⟨l7, rfl, k7, b9⟩
  have B79 : Below w7.heap.size w7 w9 := (a7.trans (b8.mono a7.size)).trans (b9.mono (Nat.le_trans a7.size b8.size))
  have B39 := B37.trans (B79.mono B37.size)
  have B19 := (b2.trans (b3.mono b2.size)).trans (B39.mono (Nat.le_trans b2.size b3.size))
  have B09 := b1.trans (B19.mono b1.size)
  have hblk : w9.heap[w.heap.size]? = some (.cells #[.nilFunc, .nilFunc, .nilFunc, .nilFunc, .nilFunc, .nilFunc, .nilFunc, .nilFunc] 201) := by
    rw [B09.block _ (by simp)]
    exact heap_alloc_new w _
  have BB : Hid (Below w.heap.size w w9) := (((Below.refl _ w).alloc (Nat.le_refl _) _).trans (B09.mono (by simp)))
  have KK : Hid (KOkL lo ⟨188, 188, 188, 190, 187, 187, 191, 188, l0, l1, l2, l3, l4, l5, l6, l7⟩ w9) := by
    refine ⟨?_, ?_, ?_, ?_, ?_, ?_, ?_, ?_⟩
    · exact ((k0.later b5).later (b6.trans (b7.mono b6.size))).later B79 |>.cong fun x => by simp [isBl]
    · exact ((k1.later (b6.trans (b7.mono b6.size))).later B79).cong fun x => by simp [isRm]
    · exact (k2''.later B79).cong fun x => by simp [isEnd]
    · exact ((k3.later b7).later B79).cong fun x => by simp [inLn, isEnd]
    · exact (k4'.later B79).cong fun x => rfl
    · exact (k5'.later B79).cong fun x => rfl
    · exact (k6.later b9).cong fun x => by simp [isIn, isLet, isDig]
    · exact k7
  clear k0 k1 k2 k2' k2'' k3 k4 k4' k5 k5' k6 k7 k8 b1 b2 b3 b4 b5 b6 b7 b8 b9 B37 B79 B39 B19 B09 a7 hz1
  have c0 : w9.cell? ⟨w.heap.size, 0, none⟩ = some .nilFunc := by simp [World.cell?, hblk]
  have f0 : w9.frozen? ⟨w.heap.size, 0, none⟩ = false := by simp [World.frozen?, hblk]
  have c1 : w9.cell? ⟨w.heap.size, 1, none⟩ = some .nilFunc := by simp [World.cell?, hblk]
  have f1 : w9.frozen? ⟨w.heap.size, 1, none⟩ = false := by simp [World.frozen?, hblk]
  have c2 : w9.cell? ⟨w.heap.size, 2, none⟩ = some .nilFunc := by simp [World.cell?, hblk]
  have f2 : w9.frozen? ⟨w.heap.size, 2, none⟩ = false := by simp [World.frozen?, hblk]
  have c3 : w9.cell? ⟨w.heap.size, 3, none⟩ = some .nilFunc := by simp [World.cell?, hblk]
  have f3 : w9.frozen? ⟨w.heap.size, 3, none⟩ = false := by simp [World.frozen?, hblk]
  have c4 : w9.cell? ⟨w.heap.size, 4, none⟩ = some .nilFunc := by simp [World.cell?, hblk]
  have f4 : w9.frozen? ⟨w.heap.size, 4, none⟩ = false := by simp [World.frozen?, hblk]
  have c5 : w9.cell? ⟨w.heap.size, 5, none⟩ = some .nilFunc := by simp [World.cell?, hblk]
  have f5 : w9.frozen? ⟨w.heap.size, 5, none⟩ = false := by simp [World.frozen?, hblk]
  have c6 : w9.cell? ⟨w.heap.size, 6, none⟩ = some .nilFunc := by simp [World.cell?, hblk]
  have f6 : w9.frozen? ⟨w.heap.size, 6, none⟩ = false := by simp [World.frozen?, hblk]
  have c7 : w9.cell? ⟨w.heap.size, 7, none⟩ = some .nilFunc := by simp [World.cell?, hblk]
  have f7 : w9.frozen? ⟨w.heap.size, 7, none⟩ = false := by simp [World.frozen?, hblk]
  clear hblk
  go_wp2_with fail
  refine bodyPost_ret (v := Kd.v ⟨188, 188, 188, 190, 187, 187, 191, 188, l0, l1, l2, l3, l4, l5, l6, l7⟩) ?_ rfl ⟨_, rfl, KK.out.low ?_, ?_⟩
  · simp [results, Tryz.results165, go_sem, Kd.v, c0, c1, c2, c3, c4, c5, c6, c7]
  · exact ((((((((Kp.refl lo w9).setCell (by simp [hlo]) _).setCell (by simp [hlo]) _).setCell (by simp [hlo]) _).setCell (by simp [hlo]) _).setCell (by simp [hlo]) _).setCell (by simp [hlo]) _).setCell (by simp [hlo]) _).setCell (by simp [hlo]) _
  · exact (((((((BB.out.setCell (by simp) _).setCell (by simp) _).setCell (by simp) _).setCell (by simp) _).setCell (by simp) _).setCell (by simp) _).setCell (by simp) _).setCell (by simp) _
end Go.Proofs.YtahfobbiaimoiaaGreatDoor.L
namespace Go.Proofs.YtahfobbiaimoiaaGreatDoor.L
open Go.RowKit Go.Shelf
theorem drop_at {T : List UInt8} {n : Nat} {x : UInt8} (hx : T[n]? = some x) : T.drop n = x :: T.drop (n + 1) := by
  obtain ⟨hl, e⟩ := List.getElem?_eq_some_iff.1 hx
  rw [List.drop_eq_getElem_cons hl, e]
set_option maxRecDepth 100000 in
set_option maxHeartbeats 2000000 in
theorem lengthF (T : List UInt8) (g : Nat) (lb : Array Value) (p : UInt8 → Bool) (w : World) (hk : PK 0 g lb p w) (hm : T.length ≤ 9223372036854775807) :
    Calls Tryz.prog 166 #[.string (bs T), .func (.func g) #[] lb] w fun e w' => e = .returned (.int .i64 (len p T : Nat)) ∧ Below w.heap.size w w' := by
  have hsz := bs_size T
  have hat : Hid (∀ c x, T[c]? = some x → ∃ h : c < (bs T).size, (bs T)[c]'h = x) := fun c x h => bs_at h
  obtain ⟨eg, hk2⟩ := hk
  have K : Hid (∀ (W : World) (x : UInt8), Kp 0 w W → Calls Tryz.prog g (#[.int .u8 (x.toNat : Int)] ++ lb) W fun e w' => e = .returned (.bool (p x)) ∧ Below W.heap.size W w') := hk2
  clear hk2
  generalize hs : bs T = s at *
  clear hs
  go_enter Tryz.func166, Tryz.ntmps166
  go_wp2
  go_loopw [5] (fun k wr => ∃ n : Nat, k = .int .i64 n ∧ n ≤ T.length ∧ Hid (Below w.heap.size w wr) ∧ Hid (len p T = n + len p (T.drop n))) (fun k _ => ((T.length : Int) - intOf k).toNat)
  case atStart => exact ⟨0, rfl, Nat.zero_le _, Below.refl _ _, by show _ = _; simp⟩
  case round =>
    obtain ⟨n, rfl, hn, hB, hl⟩ := hrel
    by_cases hlt : n < T.length
    · obtain ⟨x, hx⟩ : ∃ x, T[n]? = some x := ⟨_, List.getElem?_eq_getElem hlt⟩
      obtain ⟨q1, e1⟩ := hat.out n x hx
      have hd := hide' (drop_at hx)
      have K1 := hide' (K.out wr x (Kp.of 0 hB.out))
      cases hp : p x
      · have hr : Hid (len p T = n) := by show _ = _; rw [hl.out, hd.out, len_cons_false hp]; rfl
        rw [hp] at K1
        clear hx hd K hat hp hl
        go_wp2_with (go_at_fn g; refine K1.out.mono ?_; rintro e w1 ⟨rfl, hb⟩)
        go_ret
        exact ⟨by rw [hr.out]; rfl, hB.out.trans (hb.mono hB.out.size)⟩
      · have hr : Hid (len p T = n + 1 + len p (T.drop (n + 1))) := by show _ = _; rw [hl.out, hd.out, len_cons_true hp]; omega
        rw [hp] at K1
        clear hx hd K hat hp hl
        go_wp2_with (go_at_fn g; refine K1.out.mono ?_; rintro e w1 ⟨rfl, hb⟩)
        exact ⟨⟨n + 1, by go_num, by omega, hB.out.trans (hb.mono hB.out.size), hr.out⟩, by simp [intOf]; omega⟩
    · obtain rfl : n = T.length := by omega
      have hr : Hid (len p T = T.length) := by show _ = _; rw [hl.out]; simp [len]
      clear K hat hl
      go_wp2
      go_ret
      exact ⟨by rw [hr.out]; rfl, hB.out⟩
end Go.Proofs.YtahfobbiaimoiaaGreatDoor.L
namespace Go.Proofs.YtahfobbiaimoiaaGreatDoor.L
open Go.RowKit Go.Shelf
theorem drew_below (w : World) (n : Nat) : Below w.heap.size w (w.drewN n) := ⟨rfl, rfl, rfl, Nat.le_refl _, fun _ _ => rfl⟩
def kblk (K : Kd) (w : World) (B : Nat) : Prop := w.heap[B]? = some (.cells #[fv K.g0 K.l0, fv K.g1 K.l1, fv K.g2 K.l2, fv K.g3 K.l3, fv K.g4 K.l4, fv K.g5 K.l5, fv K.g6 K.l6, fv K.g7 K.l7] 201)
theorem kblk_cells {K : Kd} {w : World} {B : Nat} (h : kblk K w B) : w.cell? ⟨B, 0, none⟩ = some (fv K.g0 K.l0) ∧ w.cell? ⟨B, 1, none⟩ = some (fv K.g1 K.l1) ∧ w.cell? ⟨B, 2, none⟩ = some (fv K.g2 K.l2) ∧ w.cell? ⟨B, 3, none⟩ = some (fv K.g3 K.l3) ∧ w.cell? ⟨B, 4, none⟩ = some (fv K.g4 K.l4) ∧ w.cell? ⟨B, 5, none⟩ = some (fv K.g5 K.l5) ∧ w.cell? ⟨B, 6, none⟩ = some (fv K.g6 K.l6) ∧ w.cell? ⟨B, 7, none⟩ = some (fv K.g7 K.l7) := by
  unfold kblk at h
  simp [World.cell?, h]
theorem len_all (p : UInt8 → Bool) : ∀ T : List UInt8, (len p T = T.length ↔ T.all p = true)
  | [] => by simp [len]
  | c :: T => by
    cases h : p c
    · rw [len_cons_false h]; simp [h]
    · rw [len_cons_true h]
      have := len_all p T
      simp [h]
      simpa using this
theorem legal_nil : legalT [] = false := rfl
theorem legal_big {T : List UInt8} (h : 24 < T.length) : legalT T = false := by
  cases T with
  | nil => rfl
  | cons c r =>
    unfold legalT
    have h' : decide ((c :: r).length ≤ 24) = false := decide_eq_false (by omega)
    simp only [h', Bool.false_and]
theorem legal_one {c : UInt8} {r : List UInt8} (h : (c :: r).length ≤ 24) : legalT (c :: r) = (isLet c && (((len isIn (c :: r) : Nat) : Int) == (((c :: r).length : Nat) : Int))) := by
  have e : (((len isIn (c :: r) : Nat) : Int) == (((c :: r).length : Nat) : Int)) = (c :: r).all isIn := by
    rw [Bool.eq_iff_iff, beq_iff_eq, ← len_all]
    omega
  rw [e]
  unfold legalT
  have h' : decide ((c :: r).length ≤ 24) = true := by simpa using h
  simp only [h', Bool.true_and]
theorem kblk_new (K : Kd) (w : World) : kblk K (w.alloc (.cells #[fv K.g0 K.l0, fv K.g1 K.l1, fv K.g2 K.l2, fv K.g3 K.l3, fv K.g4 K.l4, fv K.g5 K.l5, fv K.g6 K.l6, fv K.g7 K.l7] 201)) w.heap.size := heap_alloc_new w _
set_option maxRecDepth 100000 in
set_option maxHeartbeats 4000000 in
theorem legalF (T : List UInt8) (w : World) (hm : T.length ≤ 9223372036854775807) : Calls Tryz.prog 136 #[.string (bs T)] w fun e w' => e = .returned (.bool (legalT T)) ∧ Below w.heap.size w w' := by
  have hsz := bs_size T
  by_cases h0 : T = []
  · rw [h0] at hsz ⊢
    rw [legal_nil]
    have hl0 : (bs []).size = 0 := hsz
    clear h0 hsz hm
    generalize bs [] = st at *
    go_enter Tryz.func136, Tryz.ntmps136
    go_wp2_with fail
    refine (kindsOB _).mono ?_
    rintro e w1 ⟨K, rfl, hK, hb1⟩
    have B1 := hide' hb1
    clear hK hb1
    unfold Kd.v
    go_upto_region 2 with fail
    go_quiet (fail)
    go_wp2
    go_ret
    exact ⟨rfl, (B1.out.alloc B1.out.size _).trans ((drew_below _ _).mono (by have := B1.out.size; simp; omega))⟩
  · by_cases h24 : 24 < T.length
    · rw [legal_big h24]
      have g0 : (((T.length : Nat) : Int) == 0) = false := by rw [beq_eq_false_iff_ne]; omega
      have g1 : decide ((24 : Int) < (T.length : Int)) = true := by simp; omega
      have g2 : decide (24 < T.length) = true := by simp; omega
      clear h0
      generalize bs T = st at *
      go_enter Tryz.func136, Tryz.ntmps136
      go_wp2_with fail
      refine (kindsOB _).mono ?_
      rintro e w1 ⟨K, rfl, hK, hb1⟩
      have B1 := hide' hb1
      clear hK hb1
      unfold Kd.v
      go_upto_region 2 with fail
      go_quiet (fail)
      go_wp2
      go_ret
      exact ⟨rfl, (B1.out.alloc B1.out.size _).trans ((drew_below _ _).mono (by have := B1.out.size; simp; omega))⟩
    · obtain ⟨c, r, rfl⟩ : ∃ c r, T = c :: r := by
        cases T with
        | nil => exact absurd rfl h0
        | cons c r => exact ⟨c, r, rfl⟩
      rw [legal_one (by omega)]
      obtain ⟨q0, e0⟩ := bs_at (l := c :: r) (i := 0) (x := c) rfl
      have KL : Hid (∀ (K : Kd) (W : World), KOk K W → Calls Tryz.prog 166 #[.string (bs (c :: r)), .func (.func K.g6) #[] K.l6] W fun e w' => e = .returned (.int .i64 (len isIn (c :: r) : Nat)) ∧ Below W.heap.size W w') := fun K W h => lengthF (c :: r) _ _ _ W h.nm hm
      generalize len isIn (c :: r) = nn at *
      have g0 : ((((c :: r).length : Nat) : Int) == 0) = false := by rw [beq_eq_false_iff_ne]; simp only [List.length_cons]; omega
      generalize (c :: r).length = m at *
      clear h0
      generalize bs (c :: r) = st at *
      go_enter Tryz.func136, Tryz.ntmps136
      go_wp2_with fail
      refine (kindsOB _).mono ?_
      rintro e w1 ⟨K, rfl, hK, hb1⟩
      have B1 := hide' hb1
      have eg4 := hK.le.1
      have a1 : Hid (Below w1.heap.size w1 (w1.alloc (.cells #[fv K.g0 K.l0, fv K.g1 K.l1, fv K.g2 K.l2, fv K.g3 K.l3, fv K.g4 K.l4, fv K.g5 K.l5, fv K.g6 K.l6, fv K.g7 K.l7] 201))) := (Below.refl _ w1).alloc (Nat.le_refl _) _
      have hK2 : Hid (KOk K (w1.alloc (.cells #[fv K.g0 K.l0, fv K.g1 K.l1, fv K.g2 K.l2, fv K.g3 K.l3, fv K.g4 K.l4, fv K.g5 K.l5, fv K.g6 K.l6, fv K.g7 K.l7] 201))) := hK.later a1.out
      clear hK hb1
      obtain ⟨-, -, -, -, k4, -, k6, -⟩ := kblk_cells (kblk_new K w1)
      have B2 : Hid (Below w.heap.size w (w1.alloc (.cells #[fv K.g0 K.l0, fv K.g1 K.l1, fv K.g2 K.l2, fv K.g3 K.l3, fv K.g4 K.l4, fv K.g5 K.l5, fv K.g6 K.l6, fv K.g7 K.l7] 201))) := B1.out.trans (a1.out.mono B1.out.size)
      have KB := hide' (kblk_new K w1)
      unfold Kd.v
      go_upto_region 2 with fail
      generalize (w1.alloc (.cells #[fv K.g0 K.l0, fv K.g1 K.l1, fv K.g2 K.l2, fv K.g3 K.l3, fv K.g4 K.l4, fv K.g5 K.l5, fv K.g6 K.l6, fv K.g7 K.l7] 201)) = W1 at *
      have hlt1 : Hid (w1.heap.size < W1.heap.size) := (Array.getElem?_eq_some_iff.1 KB.out).1
      have g1 : decide ((24 : Int) < (m : Int)) = false := by simp; omega
      have g2 : decide (24 < m) = false := by simp; omega
      have hS : Hid (W1.drew.cell? ⟨w1.heap.size, 4, none⟩ = some (fv K.g4 K.l4) ∧ Below W1.heap.size W1 W1.drew) := ⟨k4, (Below.refl _ _).drew⟩
      have hKeep : Hid (∀ V V' : World, (V.cell? ⟨w1.heap.size, 4, none⟩ = some (fv K.g4 K.l4) ∧ Below W1.heap.size W1 V) → Below V.heap.size V V' → (V'.cell? ⟨w1.heap.size, 4, none⟩ = some (fv K.g4 K.l4) ∧ Below W1.heap.size W1 V')) := fun V V' h hb => ⟨(hb.cell (p := ⟨w1.heap.size, 4, none⟩) (Nat.lt_of_lt_of_le hlt1.out h.2.size)).trans h.1, h.2.trans (hb.mono h.2.size)⟩
      cases hl : isLet c
      · have K4 : Hid (∀ W : World, Below W1.heap.size W1 W → Calls Tryz.prog K.g4 (#[.int .u8 (c.toNat : Int)] ++ K.l4) W fun e w' => e = .returned (.bool false) ∧ Below W.heap.size W w') := fun W hb => by
          have := hK2.out.le.2 W c (.of 0 hb)
          rwa [hl] at this
        have hl' := hide' hl
        clear KL hl hK2 KB a1 B1
        go_region_held3 (fun V => V.cell? ⟨w1.heap.size, 4, none⟩ = some (fv K.g4 K.l4) ∧ Below W1.heap.size W1 V) (first | (exact hKeep.out _ _ (by assumption) hb) | (exact hKeep.out _ _ hS.out hb) | (exact hS.out)) (first | (go_at_fn K.g4; refine (K4.out _ (by first | exact ‹_ ∧ _›.2 | exact (Below.refl _ _).drew)).mono ?_; rintro e w2 ⟨rfl, hb⟩))
        have hb2 : Below W1.heap.size W1 w2 := ((Below.refl _ W1).drew).trans hb
        have B3 := hide' (B2.out.trans (hb2.mono B2.out.size))
        clear hb hb2
        go_wp2_with fail
        go_ret
        exact ⟨by rw [hl'.out]; rfl, B3.out⟩
      · have K4 : Hid (∀ W : World, Below W1.heap.size W1 W → Calls Tryz.prog K.g4 (#[.int .u8 (c.toNat : Int)] ++ K.l4) W fun e w' => e = .returned (.bool true) ∧ Below W.heap.size W w') := fun W hb => by
          have := hK2.out.le.2 W c (.of 0 hb)
          rwa [hl] at this
        have hl' := hide' hl
        clear hl a1 B1
        go_region_held3 (fun V => V.cell? ⟨w1.heap.size, 4, none⟩ = some (fv K.g4 K.l4) ∧ Below W1.heap.size W1 V) (first | (exact hKeep.out _ _ (by assumption) hb) | (exact hKeep.out _ _ hS.out hb) | (exact hS.out)) (first | (go_at_fn K.g4; refine (K4.out _ (by first | exact ‹_ ∧ _›.2 | exact (Below.refl _ _).drew)).mono ?_; rintro e w2 ⟨rfl, hb⟩))
        have hb2 : Below W1.heap.size W1 w2 := ((Below.refl _ W1).drew).trans hb
        have B3 := hide' (B2.out.trans (hb2.mono B2.out.size))
        have k6' : w2.cell? ⟨w1.heap.size, 6, none⟩ = some (fv K.g6 K.l6) := (hb2.cell (p := ⟨w1.heap.size, 6, none⟩) hlt1.out).trans k6
        have KL2 := hide' (KL.out K w2 (hK2.out.later hb2))
        clear hb hb2 KL hK2
        go_wp2_with fail
        refine KL2.out.mono ?_
        rintro e w3 ⟨rfl, hb3⟩
        have B4 := hide' (B3.out.trans (hb3.mono B3.out.size))
        clear hb3
        go_wp2_with fail
        go_ret
        exact ⟨by rw [hl'.out]; simp, B4.out⟩
end Go.Proofs.YtahfobbiaimoiaaGreatDoor.L
namespace Go.Proofs.YtahfobbiaimoiaaGreatDoor.L
open Go.RowKit Go.Shelf
set_option maxHeartbeats 1000000 in
theorem rLetter (x : UInt8) (w : World) : Calls Tryz.prog 119 #[.int .u8 (x.toNat : Int)] w fun e w' => e = .returned (.bool (isLet x)) ∧ w' = w := by
  unfold isLet
  generalize x.toNat = n
  by_cases ha : 97 ≤ n
  · by_cases hb : n ≤ 122
    · have hr : Hid (decide (97 ≤ n ∧ n ≤ 122) = true) := by show _ = _; simp [ha, hb]
      rw [hr.out]
      go_enter Tryz.func119, Tryz.ntmps119
      go_wp2
      go_ret
      exact ⟨by first | rfl | (simp; omega), rfl⟩
    · have hr : Hid (decide (97 ≤ n ∧ n ≤ 122) = false) := by show _ = _; simp [hb]
      rw [hr.out]
      go_enter Tryz.func119, Tryz.ntmps119
      go_wp2
      go_ret
      exact ⟨by first | rfl | (simp; omega), rfl⟩
  · have hr : Hid (decide (97 ≤ n ∧ n ≤ 122) = false) := by show _ = _; simp [ha]
    rw [hr.out]
    go_enter Tryz.func119, Tryz.ntmps119
    go_wp2
    go_ret
    exact ⟨by first | rfl | (simp; omega), rfl⟩
set_option maxHeartbeats 1000000 in
theorem rDigit (x : UInt8) (w : World) : Calls Tryz.prog 142 #[.int .u8 (x.toNat : Int)] w fun e w' => e = .returned (.bool (isDig x)) ∧ w' = w := by
  unfold isDig
  generalize x.toNat = n
  by_cases ha : 48 ≤ n
  · by_cases hb : n ≤ 57
    · have hr : Hid (decide (48 ≤ n ∧ n ≤ 57) = true) := by show _ = _; simp [ha, hb]
      rw [hr.out]
      go_enter Tryz.func142, Tryz.ntmps142
      go_wp2
      go_ret
      exact ⟨by first | rfl | (simp; omega), rfl⟩
    · have hr : Hid (decide (48 ≤ n ∧ n ≤ 57) = false) := by show _ = _; simp [hb]
      rw [hr.out]
      go_enter Tryz.func142, Tryz.ntmps142
      go_wp2
      go_ret
      exact ⟨by first | rfl | (simp; omega), rfl⟩
  · have hr : Hid (decide (48 ≤ n ∧ n ≤ 57) = false) := by show _ = _; simp [ha]
    rw [hr.out]
    go_enter Tryz.func142, Tryz.ntmps142
    go_wp2
    go_ret
    exact ⟨by first | rfl | (simp; omega), rfl⟩
theorem u8_eq (x y : UInt8) : decide (x = y) = ((x.toNat : Int) == (y.toNat : Int)) := by
  rw [Bool.eq_iff_iff, decide_eq_true_eq, beq_iff_eq]
  constructor
  · rintro rfl; rfl
  · intro h; exact UInt8.toNat_inj.1 (by omega)
set_option maxHeartbeats 2000000 in
theorem rInner (x : UInt8) (w : World) : Calls Tryz.prog 120 #[.int .u8 (x.toNat : Int)] w fun e w' => e = .returned (.bool (isIn x)) ∧ w' = w := by
  have K1 : Hid (∀ W, Calls Tryz.prog 119 #[.int .u8 (x.toNat : Int)] W fun e w' => e = .returned (.bool (isLet x)) ∧ w' = W) := fun W => rLetter x W
  have K2 : Hid (∀ W, Calls Tryz.prog 142 #[.int .u8 (x.toNat : Int)] W fun e w' => e = .returned (.bool (isDig x)) ∧ w' = W) := fun W => rDigit x W
  unfold isIn
  have h45 : Hid (decide (x = 45) = ((x.toNat : Int) == 45)) := u8_eq x 45
  rw [h45.out]
  generalize x.toNat = n at *
  cases hl : isLet x
  · rw [hl] at K1
    cases hd : isDig x
    · rw [hd] at K2
      clear h45
      go_enter Tryz.func120, Tryz.ntmps120
      go_wp2_with (first | (go_at_call 119; refine (K1.out _).mono ?_; rintro e w1 ⟨rfl, rfl⟩) | (go_at_call 142; refine (K2.out _).mono ?_; rintro e w2 ⟨rfl, rfl⟩))
      go_ret
      exact ⟨by simp, rfl⟩
    · rw [hd] at K2
      clear h45
      go_enter Tryz.func120, Tryz.ntmps120
      go_wp2_with (first | (go_at_call 119; refine (K1.out _).mono ?_; rintro e w1 ⟨rfl, rfl⟩) | (go_at_call 142; refine (K2.out _).mono ?_; rintro e w2 ⟨rfl, rfl⟩))
      go_ret
      exact ⟨rfl, rfl⟩
  · rw [hl] at K1
    clear h45 K2
    go_enter Tryz.func120, Tryz.ntmps120
    go_wp2_with (go_at_call 119; refine (K1.out _).mono ?_; rintro e w1 ⟨rfl, rfl⟩)
    go_ret
    exact ⟨by simp, rfl⟩
theorem isMk_eq (x : UInt8) : isMk x = (((x.toNat : Int) == 44) || (((x.toNat : Int) == 58) || (((x.toNat : Int) == 60) || (((x.toNat : Int) == 62) || (((x.toNat : Int) == 61) || (((x.toNat : Int) == 40) || ((x.toNat : Int) == 41))))))) := by
  have h : isMk x = (decide (x = 44) || (decide (x = 58) || (decide (x = 60) || (decide (x = 62) || (decide (x = 61) || (decide (x = 40) || decide (x = 41))))))) := by simp [isMk]
  rw [h, u8_eq x 44, u8_eq x 58, u8_eq x 60, u8_eq x 62, u8_eq x 61, u8_eq x 40, u8_eq x 41]
  rfl
theorem all_split {p : UInt8 → Bool} {T : List UInt8} {n : Nat} {x : UInt8} (hx : T[n]? = some x) : (T.drop n).all p = (p x && (T.drop (n + 1)).all p) := by
  rw [drop_at hx, List.all_cons]
theorem legal_nil' : legalT [] = false := rfl
theorem legal_big' {T : List UInt8} (h : 24 < T.length) : legalT T = false := by
  cases T with
  | nil => rfl
  | cons c r =>
    unfold legalT
    have h' : decide ((c :: r).length ≤ 24) = false := decide_eq_false (by omega)
    simp only [h', Bool.false_and]
theorem legal_one' {c : UInt8} {r : List UInt8} (h : (c :: r).length ≤ 24) : legalT (c :: r) = (isLet c && (c :: r).all isIn) := by
  unfold legalT
  have h' : decide ((c :: r).length ≤ 24) = true := decide_eq_true h
  simp only [h', Bool.true_and]
set_option maxRecDepth 100000 in
set_option maxHeartbeats 4000000 in
theorem rLegal (T : List UInt8) (w : World) (hm : T.length ≤ 9223372036854775807) :
    Calls Tryz.prog 79 #[.string (bs T)] w fun e w' => e = .returned (.bool (legalT T)) ∧ w' = w := by
  have hsz := bs_size T
  by_cases h0 : T = []
  · subst h0
    rw [legal_nil']
    have hl0 : (bs []).size = 0 := hsz
    clear hsz hm
    generalize bs [] = st at *
    go_enter Tryz.func79, Tryz.ntmps79
    go_wp2
    go_ret
    exact ⟨rfl, rfl⟩
  · by_cases h9 : 24 < T.length
    · rw [legal_big' h9]
      clear h0
      generalize bs T = st at *
      go_enter Tryz.func79, Tryz.ntmps79
      go_wp2
      go_ret
      exact ⟨rfl, rfl⟩
    · obtain ⟨c, r, rfl⟩ : ∃ c r, T = c :: r := by
        cases T with
        | nil => exact absurd rfl h0
        | cons c r => exact ⟨c, r, rfl⟩
      rw [legal_one' (by omega)]
      obtain ⟨q0, e0⟩ := bs_at (l := c :: r) (i := 0) (x := c) rfl
      have hat : Hid (∀ i x, (c :: r)[i]? = some x → ∃ h : i < (bs (c :: r)).size, (bs (c :: r))[i]'h = x) := fun c x h => bs_at h
      have KD : Hid (∀ (x : UInt8) W, Calls Tryz.prog 120 #[.int .u8 (x.toNat : Int)] W fun e w' => e = .returned (.bool (isIn x)) ∧ w' = W) := fun x W => rInner x W
      have K4 := hide' (rLetter c w)
      have hpos : 1 ≤ (c :: r).length := by simp
      generalize hT : c :: r = T at *
      clear h0 hT
      generalize hst : bs T = st at *
      clear hst
      cases hl : isLet c
      · rw [hl] at K4
        clear hat KD hl
        rw [Bool.false_and]
        go_enter Tryz.func79, Tryz.ntmps79
        go_wp2_with (go_at_call 119; refine K4.out.mono ?_; rintro e w1 ⟨rfl, hw⟩; obtain rfl : w = w1 := hw.symm)
        go_ret
        exact ⟨rfl, rfl⟩
      · rw [hl] at K4
        clear hl
        rw [Bool.true_and]
        go_enter Tryz.func79, Tryz.ntmps79
        go_wp2_with (go_at_call 119; refine K4.out.mono ?_; rintro e w1 ⟨rfl, hw⟩; obtain rfl : w = w1 := hw.symm)
        go_loopw [3] (fun k wr => ∃ n : Nat, k = .int .i64 n ∧ n ≤ T.length ∧ w = wr ∧ Hid (T.all isIn = (T.drop n).all isIn)) (fun k _ => ((T.length : Int) - intOf k).toNat)
        case atStart => exact ⟨0, rfl, Nat.zero_le _, rfl, rfl⟩
        case round =>
          obtain ⟨n, rfl, hn, rfl, hl⟩ := hrel
          by_cases hlt : n < T.length
          · obtain ⟨x, hx⟩ : ∃ x, T[n]? = some x := ⟨_, List.getElem?_eq_getElem hlt⟩
            obtain ⟨q1, e1⟩ := hat.out n x hx
            have hsp := hide' (hl.out.trans (all_split hx))
            have KD1 := hide' (KD.out x w)
            cases hdx : isIn x
            · have hr : Hid (T.all isIn = false) := by show _ = _; rw [hsp.out, hdx]; rfl
              rw [hdx] at KD1
              clear hx hsp hat KD hdx hl e0
              go_wp2_with (go_at_call 120; refine KD1.out.mono ?_; rintro e w1 ⟨rfl, rfl⟩)
              go_ret
              exact ⟨by rw [hr.out]; rfl, rfl⟩
            · have hr : Hid (T.all isIn = (T.drop (n + 1)).all isIn) := by show _ = _; rw [hsp.out, hdx]; rfl
              rw [hdx] at KD1
              clear hx hsp hat KD hdx hl e0
              go_wp2_with (go_at_call 120; refine KD1.out.mono ?_; rintro e w1 ⟨rfl, hw⟩; obtain rfl : w = w1 := hw.symm)
              exact ⟨⟨n + 1, by go_num, by omega, trivial, hr.out⟩, by simp [intOf]; omega⟩
          · obtain rfl : n = T.length := by omega
            have hr : Hid (T.all isIn = true) := by show _ = _; rw [hl.out, List.drop_eq_nil_of_le (Nat.le_refl _)]; rfl
            clear hat KD hl
            go_wp2
            go_ret
            exact ⟨by rw [hr.out]; rfl, rfl⟩
end Go.Proofs.YtahfobbiaimoiaaGreatDoor.L

/- either's closure over three kinds; what makes kinds. -/
import Derived.Test.YtghodeggobgclaaLFn
namespace Go.Proofs.Ytghodeggobgclaa
open Go.RowKit Go.Shelf
/-- A function value that answers q at the byte n, in any world behind w. -/
def ans (g : Nat) (lb : Array Value) (n : Nat) (q : Bool) (w : World) : Prop := ∀ W, Below w.heap.size w W → Calls Try.prog g (#[.int .u8 (n : Int)] ++ lb) W fun e w' => e = .returned (.bool q) ∧ Below W.heap.size W w'
set_option maxHeartbeats 2000000 in
theorem eith0 (g1 g2 g3 : Nat) (l1 l2 l3 : Array Value) (q1 q2 q3 : Bool) (B1 B2 : Nat) (n : Nat) (w : World) (h0 : w.cell? ⟨B1, 0, none⟩ = some (.slice (some ⟨B2, 0, none⟩) 3 3))
    (h1 : w.cell? ⟨B2, 0, none⟩ = some (.func (.func g1) #[] l1)) (h2 : w.cell? ⟨B2, 1, none⟩ = some (.func (.func g2) #[] l2)) (h3 : w.cell? ⟨B2, 2, none⟩ = some (.func (.func g3) #[] l3))
    (eg1 : ∀ args w, (callFunc g1 args).run Try.prog w = .ok (.enter g1 args) w) (eg2 : ∀ args w, (callFunc g2 args).run Try.prog w = .ok (.enter g2 args) w) (eg3 : ∀ args w, (callFunc g3 args).run Try.prog w = .ok (.enter g3 args) w)
    (k1 : Hid (ans g1 l1 n q1 w)) (k2 : Hid (ans g2 l2 n q2 w)) (k3 : Hid (ans g3 l3 n q3 w)) (hlt : Hid (B2 < w.heap.size)) :
    Calls Try.prog 99 #[.int .u8 (n : Int), .pointer (some ⟨B1, 0, none⟩)] w fun e w' => e = .returned (.bool (q1 || (q2 || q3))) ∧ Below w.heap.size w w' := by
  have C : Hid (∀ W i v, Below w.heap.size w W → w.cell? ⟨B2, i, none⟩ = some v → W.cell? ⟨B2, i, none⟩ = some v) := fun W i v hb h => (hb.cell (p := ⟨B2, i, none⟩) hlt.out).trans h
  go_enter Try.func99, Try.ntmps99
  go_wp2
  go_loopw [8] (fun k wr => ∃ c : Nat, k = .int .i64 c ∧ c ≤ 3 ∧ Hid (Below w.heap.size w wr) ∧ Hid ((q1 || (q2 || q3)) = if c = 0 then (q1 || (q2 || q3)) else if c = 1 then (q2 || q3) else if c = 2 then q3 else false)) (fun k _ => ((3 : Int) - intOf k).toNat)
  case atStart => exact ⟨0, rfl, by decide, Below.refl _ _, rfl⟩
  case round =>
    obtain ⟨c, rfl, hc, hB, hq⟩ := hrel
    match c, hc with
    | 0, _ =>
        have K := hide' (k1.out _ hB.out)
        have c1 := C.out _ 0 _ hB.out h1
        clear k1 k2 k3 C h1 h2 h3
        cases q1
        · go_wp2_with (go_at_fn g1; refine K.out.mono ?_; rintro e w1 ⟨rfl, hb⟩)
          exact ⟨⟨1, by go_num, by decide, hB.out.trans (hb.mono hB.out.size), by simpa using hq⟩, by simp [intOf]⟩
        · go_wp2_with (go_at_fn g1; refine K.out.mono ?_; rintro e w1 ⟨rfl, hb⟩)
          go_ret
          exact ⟨by rw [hq.out]; rfl, hB.out.trans (hb.mono hB.out.size)⟩
    | 1, _ =>
        have K := hide' (k2.out _ hB.out)
        have c1 := C.out _ 1 _ hB.out h2
        clear k1 k2 k3 C h1 h2 h3
        cases q2
        · go_wp2_with (go_at_fn g2; refine K.out.mono ?_; rintro e w1 ⟨rfl, hb⟩)
          exact ⟨⟨2, by go_num, by decide, hB.out.trans (hb.mono hB.out.size), by simpa using hq⟩, by simp [intOf]⟩
        · go_wp2_with (go_at_fn g2; refine K.out.mono ?_; rintro e w1 ⟨rfl, hb⟩)
          go_ret
          exact ⟨by rw [hq.out]; rfl, hB.out.trans (hb.mono hB.out.size)⟩
    | 2, _ =>
        have K := hide' (k3.out _ hB.out)
        have c1 := C.out _ 2 _ hB.out h3
        clear k1 k2 k3 C h1 h2 h3
        cases q3
        · go_wp2_with (go_at_fn g3; refine K.out.mono ?_; rintro e w1 ⟨rfl, hb⟩)
          exact ⟨⟨3, by go_num, by decide, hB.out.trans (hb.mono hB.out.size), by simpa using hq⟩, by simp [intOf]⟩
        · go_wp2_with (go_at_fn g3; refine K.out.mono ?_; rintro e w1 ⟨rfl, hb⟩)
          go_ret
          exact ⟨by rw [hq.out]; rfl, hB.out.trans (hb.mono hB.out.size)⟩
    | 3, _ =>
        clear k1 k2 k3 C h1 h2 h3
        go_wp2
        go_ret
        exact ⟨by rw [hq.out]; rfl, hB.out⟩
theorem cell_box (w : World) (t : TypeId) (v : Value) : (w.alloc (.cells #[v] t)).cell? ⟨w.heap.size, 0, none⟩ = some v := by simp
set_option maxHeartbeats 1000000 in
theorem mkBetw (lo : Nat) (a b : Nat) (w : World) (hlo : lo ≤ w.heap.size) : Calls Try.prog 68 #[.int .u8 (a : Int), .int .u8 (b : Int)] w fun e w' => ∃ lb, e = .returned (.func (.func 95) #[] lb) ∧ PK lo 95 lb (fun x => decide (a ≤ x.toNat ∧ x.toNat ≤ b)) w' ∧ Below w.heap.size w w' := by
  have hlo' := hide' hlo
  clear hlo
  go_enter Try.func68, Try.ntmps68
  go_wp2
  go_ret
  have hlo := hlo'.out
  refine ⟨_, rfl, ⟨ent47, fun W x hb => ?_⟩, ((Below.refl _ w).alloc (Nat.le_refl _) _).alloc (by simp) _⟩
  refine betw a b _ _ x W ?_ ?_
  · rw [hb.cell hlo (by simp; omega)]; simp
  · rw [hb.cell (by show lo ≤ w.heap.size + 1; omega) (by simp)]; simp
set_option maxHeartbeats 1000000 in
theorem mkAmong (lo : Nat) (l : List UInt8) (w : World) (hlo : lo ≤ w.heap.size) : Calls Try.prog 69 #[.string (bs l)] w fun e w' => ∃ lb, e = .returned (.func (.func 96) #[] lb) ∧ PK lo 96 lb (fun x => decide (x ∈ l)) w' ∧ Below w.heap.size w w' := by
  obtain ⟨s, hs⟩ : ∃ s, bs l = s := ⟨_, rfl⟩
  rw [hs]
  have hlo' := hide' hlo
  clear hlo
  go_enter Try.func69, Try.ntmps69
  go_wp2
  go_ret
  have hlo := hlo'.out
  refine ⟨_, rfl, ⟨ent48, fun W x hb => ?_⟩, (Below.refl _ w).alloc (Nat.le_refl _) _⟩
  refine amng l _ x W ?_
  rw [hb.cell hlo (by simp)]; simp [hs]
set_option maxHeartbeats 1000000 in
theorem mkExc (lo g : Nat) (lc : Array Value) (p : UInt8 → Bool) (w : World) (hlo : lo ≤ w.heap.size) (hk : PK lo g lc p w) : Calls Try.prog 70 #[.func (.func g) #[] lc] w fun e w' => ∃ lb, e = .returned (.func (.func 98) #[] lb) ∧ PK lo 98 lb (fun x => !p x) w' ∧ Below w.heap.size w w' := by
  have hk' := hide' (And.intro hk hlo)
  clear hk hlo
  go_enter Try.func70, Try.ntmps70
  go_wp2
  go_ret
  have hlo := hk'.out.2
  have hB : Below w.heap.size w (w.alloc (.cells #[.func (.func g) #[] lc] 86)) := (Below.refl _ w).alloc (Nat.le_refl _) _
  refine ⟨_, rfl, ⟨ent50, fun W x hb => ?_⟩, hB⟩
  refine exc g lc p _ x W ?_ lo (hk'.out.1.laterK ((Kp.of lo hB).trans hb))
  rw [hb.cell hlo (by simp)]; simp
set_option maxHeartbeats 1000000 in
theorem mkEith (lo g1 g2 g3 : Nat) (l1 l2 l3 : Array Value) (p1 p2 p3 : UInt8 → Bool) (B2 : Nat) (w : World)
    (h1 : w.cell? ⟨B2, 0, none⟩ = some (.func (.func g1) #[] l1)) (h2 : w.cell? ⟨B2, 1, none⟩ = some (.func (.func g2) #[] l2)) (h3 : w.cell? ⟨B2, 2, none⟩ = some (.func (.func g3) #[] l3))
    (k1 : PK lo g1 l1 p1 w) (k2 : PK lo g2 l2 p2 w) (k3 : PK lo g3 l3 p3 w) (hlt : B2 < w.heap.size) (hlo : lo ≤ B2) :
    Calls Try.prog 71 #[.slice (some ⟨B2, 0, none⟩) 3 3] w fun e w' => ∃ lb, e = .returned (.func (.func 99) #[] lb) ∧ PK lo 99 lb (fun x => p1 x || (p2 x || p3 x)) w' ∧ Below w.heap.size w w' := by
  have H := hide' (And.intro h1 (And.intro h2 (And.intro h3 (And.intro k1 (And.intro k2 (And.intro k3 (And.intro hlt hlo)))))))
  clear h1 h2 h3 k1 k2 k3 hlt hlo
  go_enter Try.func71, Try.ntmps71
  go_wp2
  go_ret
  obtain ⟨h1, h2, h3, k1, k2, k3, hlt, hlo⟩ := H.out
  have hB : Below w.heap.size w (w.alloc (.cells #[.slice (some ⟨B2, 0, none⟩) 3 3] 143)) := (Below.refl _ w).alloc (Nat.le_refl _) _
  refine ⟨_, rfl, ⟨ent51, fun W x hb => ?_⟩, hB⟩
  have hBW := (Kp.of lo hB).trans hb
  have hz := hBW.1
  refine eith0 g1 g2 g3 l1 l2 l3 (p1 x) (p2 x) (p3 x) _ B2 x.toNat W ?_ ?_ ?_ ?_ k1.1 k2.1 k3.1 (fun W' h => (k1.laterK hBW).2 W' x (.of lo h)) (fun W' h => (k2.laterK hBW).2 W' x (.of lo h)) (fun W' h => (k3.laterK hBW).2 W' x (.of lo h)) (by show B2 < _; omega)
  · rw [hb.cell (by show lo ≤ w.heap.size; omega) (by simp)]; simp
  · exact (hBW.cell (p := ⟨B2, 0, none⟩) hlo hlt).trans h1
  · exact (hBW.cell (p := ⟨B2, 1, none⟩) hlo hlt).trans h2
  · exact (hBW.cell (p := ⟨B2, 2, none⟩) hlo hlt).trans h3
end Go.Proofs.Ytghodeggobgclaa

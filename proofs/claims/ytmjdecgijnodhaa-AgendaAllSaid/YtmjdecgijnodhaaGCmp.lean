/- compare of two entries: it lays blocks alone. -/
import Derived.Test.YtmjdecgijnodhaaGFn
import Derived.Sort.Grow
namespace Go.Proofs.Ytmjdecgijnodhaa
open Go.RowKit
/-- Some draws on, some blocks behind. -/
def GX (w V : World) : Prop := ∃ q os, V = Sort.grow (w.drewN q) os
theorem GX.refl (w : World) : GX w w := ⟨0, #[], by simp; rfl⟩
theorem GX.trans {w V U : World} (h : GX w V) (k : GX V U) : GX w U := by
  obtain ⟨q, os, rfl⟩ := h
  obtain ⟨q', os', rfl⟩ := k
  refine ⟨q + q', os ++ os', ?_⟩
  rw [← Sort.grow_grow]
  unfold Sort.grow World.drewN
  simp [Nat.add_assoc]
theorem GX.drew {w V : World} (h : GX w V) : GX w V.drew := h.trans ⟨1, #[], by simp; rfl⟩
theorem GX.alloc {w V : World} (h : GX w V) (o : Obj) : GX w (V.alloc o) := h.trans ⟨0, #[o], Sort.alloc_eq_grow _ _⟩
theorem GX.below {w V : World} (h : GX w V) : Below w.heap.size w V := by
  obtain ⟨q, os, rfl⟩ := h
  refine ⟨rfl, rfl, rfl, by simp [Sort.grow, World.drewN], fun k hk => ?_⟩
  simp [Sort.grow, World.drewN, Array.getElem?_append, hk]
theorem keepX {W0 W w1 : World} {b1 b2 : Nat} {u1 u2 u3 u4 : Value} (h : W.cell? ⟨b1, 1, none⟩ = some u1 ∧ W.cell? ⟨b2, 1, none⟩ = some u2 ∧ W.cell? ⟨b1, 2, none⟩ = some u3 ∧ W.cell? ⟨b2, 2, none⟩ = some u4 ∧ GX W0 W) (hx : GX W w1) :
    w1.cell? ⟨b1, 1, none⟩ = some u1 ∧ w1.cell? ⟨b2, 1, none⟩ = some u2 ∧ w1.cell? ⟨b1, 2, none⟩ = some u3 ∧ w1.cell? ⟨b2, 2, none⟩ = some u4 ∧ GX W0 w1 :=
  have hb := hx.below
  ⟨cell_over h.1 hb, cell_over h.2.1 hb, cell_over h.2.2.1 hb, cell_over h.2.2.2.1 hb, h.2.2.2.2.trans hx⟩
set_option maxRecDepth 100000 in
set_option maxHeartbeats 4000000 in
theorem compareX (x y : Ent) (p q : Nat) (w : World) (a1 : w.cell? ⟨p, 1, none⟩ = some (.int .i64 x.tm)) (a2 : w.cell? ⟨q, 1, none⟩ = some (.int .i64 y.tm)) (a3 : w.cell? ⟨p, 2, none⟩ = some (.int .i64 x.turn)) (a4 : w.cell? ⟨q, 2, none⟩ = some (.int .i64 y.turn)) :
    Calls Try.prog 24 #[.pointer (some ⟨p, 0, none⟩), .pointer (some ⟨q, 0, none⟩)] w fun e w' => e = .returned (.int .i64 (orI (cmpI x.tm y.tm) (cmpI x.turn y.turn))) ∧ GX w w' := by
  have K1 : Hid (∀ W, Calls Try.prog 33 #[.int .i64 x.tm, .int .i64 y.tm] W fun e w' => e = .returned (.int .i64 (cmpI x.tm y.tm)) ∧ GX W w') := fun W => (compareI _ _ W).mono fun e w' ⟨h, hw⟩ => ⟨h, by rw [hw]; exact GX.refl _⟩
  have K2 : Hid (∀ W, Calls Try.prog 33 #[.int .i64 x.turn, .int .i64 y.turn] W fun e w' => e = .returned (.int .i64 (cmpI x.turn y.turn)) ∧ GX W w') := fun W => (compareI _ _ W).mono fun e w' ⟨h, hw⟩ => ⟨h, by rw [hw]; exact GX.refl _⟩
  generalize cmpI x.tm y.tm = c1 at *
  generalize cmpI x.turn y.turn = c2 at *
  generalize x.tm = xt at *
  generalize y.tm = yt at *
  generalize x.turn = xn at *
  generalize y.turn = yn at *
  have KO : Hid (∀ W : World, Calls Try.prog 32 #[.slice (some ⟨W.heap.size, 0, none⟩) 2 2] (W.alloc (.cells #[.int .i64 c1, .int .i64 c2] 3)) fun e w' => e = .returned (.int .i64 (orI c1 c2)) ∧ GX (W.alloc (.cells #[.int .i64 c1, .int .i64 c2] 3)) w') := fun W => (orT c1 c2 W.heap.size _ (by simp) (by simp)).mono fun e w' ⟨h, hw⟩ => ⟨h, by rw [hw]; exact GX.refl _⟩
  have hi0 : Hid (w.drew.cell? ⟨p, 1, none⟩ = some (.int .i64 xt) ∧ w.drew.cell? ⟨q, 1, none⟩ = some (.int .i64 yt) ∧ w.drew.cell? ⟨p, 2, none⟩ = some (.int .i64 xn) ∧ w.drew.cell? ⟨q, 2, none⟩ = some (.int .i64 yn) ∧ GX w w.drew) := ⟨a1, a2, a3, a4, (GX.refl _).drew⟩
  go_enter Try.func24, Try.ntmps24
  go_wp2
  go_region_held3 (fun V => V.cell? ⟨p, 1, none⟩ = some (.int .i64 xt) ∧ V.cell? ⟨q, 1, none⟩ = some (.int .i64 yt) ∧ V.cell? ⟨p, 2, none⟩ = some (.int .i64 xn) ∧ V.cell? ⟨q, 2, none⟩ = some (.int .i64 yn) ∧ GX w V) (first | (exact keepX (by assumption) hb) | (exact keepX hi0.out hb) | (exact keepX (by assumption) ((GX.refl _).alloc _)) | (exact hi0.out)) (first | (go_at_call_of 33 (Value.int IntKind.i64 xt); refine (K1.out _).mono ?_; rintro e w1 ⟨rfl, hb⟩) | (go_at_call_of 33 (Value.int IntKind.i64 xn); refine (K2.out _).mono ?_; clear hb; rintro e w2 ⟨rfl, hb⟩) | (go_at_call 32; refine (KO.out _).mono ?_; clear hb; rintro e w3 ⟨rfl, hb⟩))
  go_wp2
  go_ret
  exact ⟨rfl, ‹_ ∧ _ ∧ _ ∧ _ ∧ GX w w3›.2.2.2.2⟩
end Go.Proofs.Ytmjdecgijnodhaa

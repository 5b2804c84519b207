/- wakes answers true. -/
import Derived.Test.YtmjdecgijnodhaaGDue
namespace Go.Proofs.Ytmjdecgijnodhaa
open Go.RowKit Go.Maps
theorem Mv.toBelow {F : Nat → Prop} {w w' : World} {B : Nat} (h : Mv F w w') (hF : ∀ k, F k → B ≤ k) (hB : B ≤ w.heap.size) : Below B w w' := ⟨h.os, h.tape, h.output, h.size, fun k hk => h.block k (by omega) (fun x => by have := hF k x; omega)⟩
theorem set_count {S : Ent → Prop} {n n' : Nat} {id : Int} (h : ∃ b : Bool, n + 1 = n' + b.toNat ∧ (b = true ↔ ∃ x, S x ∧ x.id = id)) (hno : ¬ ∃ x, S x ∧ x.id = id) : n' = n + 1 := by
  obtain ⟨b, h1, h2⟩ := h
  cases b with
  | true => exact absurd (h2.1 rfl) hno
  | false => exact h1.symm
theorem set_count' {S : Ent → Prop} {n n' : Nat} {id : Int} (h : ∃ b : Bool, n + 1 = n' + b.toNat ∧ (b = true ↔ ∃ x, S x ∧ x.id = id)) (hyes : ∃ x, S x ∧ x.id = id) : n' = n := by
  obtain ⟨b, h1, h2⟩ := h
  have := h2.2 hyes
  subst this
  have h3 : n + 1 = n' + 1 := h1
  omega
theorem AgS.congr {w : World} {a : Nat} {F : Nat → Prop} {S S2 : Ent → Prop} {n sets : Nat} (H : AgS w a F S n sets) (e : ∀ x, S2 x ↔ S x) : AgS w a F S2 n sets := by
  obtain ⟨h, rowv, mb, D, h1, h2, h3⟩ := H
  exact ⟨h, rowv, mb, D, h1, fun x => (e x).trans (h2 x), h3⟩
set_option maxRecDepth 100000 in
set_option maxHeartbeats 2000000 in
theorem wakes4 (w : World) : Calls Try.prog 9 #[] w fun e w' => e = .returned (.bool true) ∧ Below w.heap.size w w' := by
  have KS1 : Hid (∀ W F, AgS W (w.heap.size + 1) F (fun _ => False) 0 0 → Calls Try.prog 10 #[.pointer (some ⟨w.heap.size + 1, 0, none⟩), .int .i64 3, .int .i64 9] W (fun e w' => e = .returned (.tuple #[]) ∧ ∃ F', AgS w' (w.heap.size + 1) F' (fun x => x = ⟨3, 9, 1⟩) 1 1 ∧ Mv F W w' ∧ ∀ k, F' k → F k ∨ W.heap.size ≤ k)) := fun W F H => (setA _ 0 0 F _ 3 9 (by decide) (by decide) W H).mono fun e w' ⟨he, F', n', h1, h2, h3, h4⟩ => by
    have : n' = 1 := set_count h4 (fun ⟨x, hx, _⟩ => hx)
    subst this
    exact ⟨he, F', h1.congr (fun x => ⟨fun h => .inr h, fun h => h.elim (fun y => y.1.elim) id⟩), h2, h3⟩
  have KS2 : Hid (∀ W F, AgS W (w.heap.size + 1) F (fun x => x = ⟨3, 9, 1⟩) 1 1 → Calls Try.prog 10 #[.pointer (some ⟨w.heap.size + 1, 0, none⟩), .int .i64 5, .int .i64 4] W (fun e w' => e = .returned (.tuple #[]) ∧ ∃ F', AgS w' (w.heap.size + 1) F' (fun x => x = ⟨3, 9, 1⟩ ∨ x = ⟨5, 4, 2⟩) 2 2 ∧ Mv F W w' ∧ ∀ k, F' k → F k ∨ W.heap.size ≤ k)) := fun W F H => (setA _ 1 1 F _ 5 4 (by decide) (by decide) W H).mono fun e w' ⟨he, F', n', h1, h2, h3, h4⟩ => by
    have : n' = 2 := set_count h4 (fun ⟨x, hx, e⟩ => by subst hx; exact absurd e (by decide))
    subst this
    exact ⟨he, F', h1.congr (fun x => ⟨fun h => h.elim (fun y => .inl ⟨y, by rw [y]; decide⟩) (fun y => .inr y), fun h => h.elim (fun y => .inl y.1) (fun y => .inr y)⟩), h2, h3⟩
  have KF : Hid (∀ W F, AgS W (w.heap.size + 1) F (fun x => x = ⟨3, 9, 1⟩ ∨ x = ⟨5, 4, 2⟩) 2 2 → Calls Try.prog 25 #[.pointer (some ⟨w.heap.size + 1, 0, none⟩)] W fun e w' => e = .returned (.tuple #[.int .i64 5, .int .i64 4, .bool true]) ∧ Below W.heap.size W w') := fun W F H => firstYes _ 2 2 F _ (by decide) ⟨5, 4, 2⟩ ⟨.inr rfl, fun y hy => by
    rcases hy with rfl | rfl
    · unfold ltE; decide
    · exact ltE.irrefl _⟩ W H
  have KL : Hid (∀ W F, AgS W (w.heap.size + 1) F (fun x => x = ⟨3, 9, 1⟩ ∨ x = ⟨5, 4, 2⟩) 2 2 → Calls Try.prog 16 #[.pointer (some ⟨w.heap.size + 1, 0, none⟩)] W fun e w' => e = .returned (.int .i64 2) ∧ w' = W) := fun W F H => lenA _ 2 2 F _ W H
  have KN := hide' (newA w)
  go_enter Try.func9, Try.ntmps9
  go_wp2_with (first | (go_at_call 8; refine KN.out.mono ?_; rintro e w1 ⟨rfl, hA1, hb1⟩; have hA1' := hide' hA1; have hb1' := hide' hb1; clear hA1 hb1) | (go_at_call_of 10 (Value.int IntKind.i64 3); refine (KS1.out _ _ hA1'.out).mono ?_; rintro e w2 ⟨rfl, F2, hA2, hM2, hF2⟩; have hA2' := hide' hA2; have hM2' := hide' hM2; have hF2' := hide' hF2; clear hA2 hM2 hF2) | (go_at_call_of 10 (Value.int IntKind.i64 5); refine (KS2.out _ _ hA2'.out).mono ?_; rintro e w3 ⟨rfl, F3, hA3, hM3, hF3⟩; have hA3' := hide' hA3; have hM3' := hide' hM3; have hF3' := hide' hF3; clear hA3 hM3 hF3) | (go_at_call 25; refine (KF.out _ _ hA3'.out).mono ?_; rintro e w4 ⟨rfl, hb4⟩; have hb4' := hide' hb4; have hA4' := hide' (hA3'.out.below hb4); clear hb4) | (go_at_call 16; refine (KL.out _ _ hA4'.out).mono ?_; rintro e w5 ⟨rfl, hw5⟩; obtain rfl : w4 = w5 := hw5.symm))
  go_ret
  have z1 := hb1'.out.size
  have b2 := hM2'.out.toBelow (B := w.heap.size) (fun k hk => hk.1) z1
  have z2 := b2.size
  have b3 := hM3'.out.toBelow (B := w.heap.size) (fun k hk => (hF2'.out k hk).elim (fun x => x.1) (fun x => by omega)) (by omega)
  have z3 := b3.size
  exact ⟨rfl, ((hb1'.out.trans b2).trans b3).trans (hb4'.out.mono (by omega))⟩
end Go.Proofs.Ytmjdecgijnodhaa

/- Agenda.At, Len, First: what they answer. -/
import Derived.Test.YtmjdecgijnodhaaGSet
namespace Go.Proofs.Ytmjdecgijnodhaa
open Go.RowKit Go.Maps
set_option maxHeartbeats 1000000 in
theorem lenA (a n sets : Nat) (F : Nat → Prop) (S : Ent → Prop) (w : World) (H : AgS w a F S n sets) : Calls Try.prog 16 #[.pointer (some ⟨a, 0, none⟩)] w fun e w' => e = .returned (.int .i64 n) ∧ w' = w := by
  obtain ⟨h, rowv, mb, D, HA, _⟩ := H
  have c0 := HA.box.c0
  obtain ⟨oa, cap, rfl⟩ : ∃ oa cap, rowv = .slice oa n cap := by
    rcases HA.hp.row.2 with ⟨rfl, h0⟩ | ⟨g, cap, cur, rfl, _⟩
    · exact ⟨none, 0, by rw [h0]⟩
    · exact ⟨_, _, rfl⟩
  clear HA
  go_enter Try.func16, Try.ntmps16
  go_wp2
  go_ret
  exact ⟨rfl, rfl⟩
set_option maxRecDepth 100000 in
set_option maxHeartbeats 2000000 in
theorem atYes (a n sets : Nat) (F : Nat → Prop) (S : Ent → Prop) (x : Ent) (hx : S x) (w : World) (H : AgS w a F S n sets) : Calls Try.prog 14 #[.pointer (some ⟨a, 0, none⟩), .int .i64 x.id] w fun e w' => e = .returned (.tuple #[.int .i64 x.tm, .bool true]) ∧ w' = w := by
  obtain ⟨h, rowv, mb, D, HA, hS, _⟩ := H
  obtain ⟨i, hi, rfl⟩ := (hS x).1 hx
  have hid := HA.wf i hi
  have hkey : keyOf Try.prog 3 (.int .i64 (h i).2.id) = some (.int .i64 (h i).2.id) := keyOf_int_mk Try.underlying3 hid
  have c1 := HA.box.c1
  have hown := HA.map
  obtain ⟨m1, m2, m3⟩ := HA.mapD (h i).2.id
  have hh := m1 ⟨i, hi, rfl⟩
  have hat := m3 i hi rfl
  have cp := (HA.hp.ent i hi).c1
  generalize (h i).1 = p at *
  generalize (h i).2.id = id at *
  generalize (h i).2.tm = tm at *
  clear HA hS m1 m2 m3 hx
  go_enter Try.func14, Try.ntmps14
  go_wp2_with (at_lookup; refine wpList_lookup_own_ok _ rfl _ _ 58 rfl 3 57 lawK Try.underlying58 ptrR (zeroPtr _) (.lit (.int .i64 (-1))) [] rfl mb sets D rfl hown _ _ rfl hkey ?_; intro v ps hv; rw [hat] at hv; obtain rfl := ptrR_inv hv; rw [hh])
  go_ret2
  exact ⟨rfl, rfl⟩
set_option maxRecDepth 100000 in
set_option maxHeartbeats 2000000 in
theorem atNo (a n sets : Nat) (F : Nat → Prop) (S : Ent → Prop) (id : Int) (hid : (Lit.int .i64 id).wf = true) (hx : ¬ ∃ x, S x ∧ x.id = id) (w : World) (H : AgS w a F S n sets) : Calls Try.prog 14 #[.pointer (some ⟨a, 0, none⟩), .int .i64 id] w fun e w' => e = .returned (.tuple #[.int .i64 0, .bool false]) ∧ w' = w := by
  obtain ⟨h, rowv, mb, D, HA, hS, _⟩ := H
  have hkey : keyOf Try.prog 3 (.int .i64 id) = some (.int .i64 id) := keyOf_int_mk Try.underlying3 hid
  have c1 := HA.box.c1
  have hown := HA.map
  obtain ⟨m1, m2, m3⟩ := HA.mapD id
  obtain ⟨hh, hat⟩ := m2 (fun ⟨k, hk, ek⟩ => hx ⟨(h k).2, (hS _).2 ⟨k, hk, rfl⟩, ek⟩)
  clear HA hS m1 m2 m3 hx
  go_enter Try.func14, Try.ntmps14
  go_wp2_with (at_lookup; refine wpList_lookup_own_ok _ rfl _ _ 58 rfl 3 57 lawK Try.underlying58 ptrR (zeroPtr _) (.lit (.int .i64 (-1))) [] rfl mb sets D rfl hown _ _ rfl hkey ?_; intro v ps hv; rw [hat] at hv; obtain rfl := ptrR_nil hv; rw [hh])
  go_ret2
  exact ⟨rfl, rfl⟩
/-- The one that comes first. -/
def MinS (S : Ent → Prop) (x : Ent) : Prop := S x ∧ ∀ y, S y → ¬ ltE y x
theorem first_of {w : World} {a n sets : Nat} {F : Nat → Prop} {S : Ent → Prop} (H : AgS w a F S n sets) (hn : 0 < n) : ∃ x, MinS S x := by
  obtain ⟨h, rowv, mb, D, HA, hS, _⟩ := H
  refine ⟨(h 0).2, (hS _).2 ⟨0, hn, rfl⟩, fun y hy => ?_⟩
  obtain ⟨k, hk, rfl⟩ := (hS y).1 hy
  exact heap_root HA.heap k hk
theorem MinS.uniq {S : Ent → Prop} {w : World} {a n sets : Nat} {F : Nat → Prop} (H : AgS w a F S n sets) {x y : Ent} (hx : MinS S x) (hy : MinS S y) : x = y := by
  obtain ⟨h, rowv, mb, D, HA, hS, _⟩ := H
  obtain ⟨i, hi, rfl⟩ := (hS x).1 hx.1
  obtain ⟨j, hj, rfl⟩ := (hS y).1 hy.1
  have h1 := hx.2 _ hy.1
  have h2 := hy.2 _ hx.1
  have : (h i).2.turn = (h j).2.turn := by unfold ltE at h1 h2; omega
  rw [HA.dist i j hi hj this]
set_option maxRecDepth 100000 in
set_option maxHeartbeats 2000000 in
theorem firstNo (a sets : Nat) (F : Nat → Prop) (S : Ent → Prop) (w : World) (H : AgS w a F S 0 sets) : Calls Try.prog 25 #[.pointer (some ⟨a, 0, none⟩)] w fun e w' => e = .returned (.tuple #[.int .i64 0, .int .i64 0, .bool false]) ∧ Below w.heap.size w w' := by
  obtain ⟨h, rowv, mb, D, HA, _⟩ := H
  have c0 := HA.box.c0
  obtain ⟨oa, cap, rfl⟩ : ∃ oa cap, rowv = .slice oa 0 cap := by
    rcases HA.hp.row.2 with ⟨rfl, h0⟩ | ⟨g, cap, cur, rfl, _⟩
    · exact ⟨none, 0, rfl⟩
    · exact ⟨_, _, rfl⟩
  clear HA
  go_enter Try.func25, Try.ntmps25
  go_wp2
  go_ret3
  exact ⟨rfl, Below.refl _ _⟩
set_option maxRecDepth 100000 in
set_option maxHeartbeats 4000000 in
theorem firstYes (a n sets : Nat) (F : Nat → Prop) (S : Ent → Prop) (hn : 0 < n) (x : Ent) (hx : MinS S x) (w : World) (H : AgS w a F S n sets) : Calls Try.prog 25 #[.pointer (some ⟨a, 0, none⟩)] w fun e w' => e = .returned (.tuple #[.int .i64 x.id, .int .i64 x.tm, .bool true]) ∧ Below w.heap.size w w' := by
  obtain ⟨y, hy⟩ := first_of H hn
  obtain ⟨h, rowv, mb, D, HA, hS, hrest⟩ := id H
  have hmin : MinS S (h 0).2 := ⟨(hS _).2 ⟨0, hn, rfl⟩, fun z hz => by
    obtain ⟨k, hk, rfl⟩ := (hS z).1 hz
    exact heap_root HA.heap k hk⟩
  have e0 : x = (h 0).2 := MinS.uniq H hx hmin
  subst e0
  have c0 := HA.box.c0
  have hsm := HA.small
  obtain ⟨g, cap, rfl, _, _⟩ := HA.hp.row.form hn
  have cp : w.cell? ⟨g, 0, none⟩ = some (.pointer (some ⟨(h 0).1, 0, none⟩)) := by rw [HA.hp.row.cellAt 0 (by omega)]; exact ptrs_at h hn
  have ce0 := (HA.hp.ent 0 hn).c0
  have ce1 := (HA.hp.ent 0 hn).c1
  have hne : ((n : Int) == 0) = false := by rw [beq_eq_false_iff_ne]; omega
  generalize (h 0).1 = p at *
  generalize (h 0).2.id = i0 at *
  generalize (h 0).2.tm = t0 at *
  clear HA hS hrest hmin hx hy H
  go_enter Try.func25, Try.ntmps25
  go_wp2
  go_region
  go_wp2
  go_ret3
  exact ⟨rfl, (Below.refl _ _).drew⟩
end Go.Proofs.Ytmjdecgijnodhaa

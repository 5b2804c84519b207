/- Drop of both agendas: what is left. -/
import Derived.Test.YtmjdecgijnodhaaGPlays
namespace Go.Proofs.Ytmjdecgijnodhaa
open Go.RowKit Go.Maps
section
variable {W : World} {a r sets : Nat} {F : Nat → Prop} {rv : Value} {M : List Ent}
/-- What both hold behind a change, with the entries told. -/
def AftD (W w' : World) (a r : Nat) (F : Nat → Prop) (rv : Value) (sets : Nat) (M' : List Ent) : Prop := ∃ F' rv', Sa w' a r F' rv' M' sets ∧ Nz F r rv F' rv' W w'
theorem AftD.after {W0 W' : World} (hb : Below W.heap.size W W0) (h : AftD W0 W' a r F rv sets M) : AftD W W' a r F rv sets M := by
  obtain ⟨F', rv', h1, h2⟩ := h
  exact ⟨F', rv', h1, h2.after hb⟩
theorem saDropD (h : Sa W a r F rv M sets) {id : Int} {e : Ending} {w3 : World} (hP : DropPost a M.length F (fun x => x ∈ M) sets id W e w3) :
    ∃ b, e = .returned (.bool b) ∧ RefA w3 r (M.map prE) rv ∧ Mv F W w3 ∧ ∀ e4 w4, DropR r (M.map prE) id w3 e4 w4 → e4 = .returned (.bool b) ∧ AftD W w4 a r F rv sets (remE M id) := by
  obtain ⟨b, F', n', he, hb, hA, hM, hF, hn⟩ := hP
  refine ⟨b, he, h.rf.mv hM h.nr h.nv, hM, fun e4 w4 ⟨h1, h2, rv', hR4, hM4, hf4⟩ => ⟨?_, ?_⟩⟩
  · cases b with
    | true =>
      obtain ⟨x, hx, e⟩ := hb.1 rfl
      exact h1 ⟨prE x, List.mem_map.2 ⟨x, hx, rfl⟩, e⟩
    | false =>
      refine h2 fun x hx e => ?_
      obtain ⟨y, hy, rfl⟩ := List.mem_map.1 hx
      have := hb.2 ⟨y, hy, e⟩
      cases this
  · have hl := len_rem id M h.ti.ids
    have key := sa_next h (M' := remE M id) hA (fun x => mem_remE.symm) ?_ hM (fun k hk => .inl (hF k hk)) hR4 (remE_map M id).symm hM4 (fun k e => .inr (hf4 k e)) (h.ti.rem id)
    · exact ⟨F', rv', key.1, key.2⟩
    · by_cases hx : ∃ x ∈ M, x.id = id
      · rw [if_pos hx] at hl
        have : b = true := hb.2 hx
        subst this
        simp at hn; omega
      · rw [if_neg hx] at hl
        have : b = false := by
          cases b with
          | false => rfl
          | true => exact absurd (hb.1 rfl) hx
        subst this
        simp at hn; omega
theorem Sa.idwf (h : Sa W a r F rv M sets) {x : Ent} (hx : x ∈ M) : (Lit.int .i64 x.id).wf = true := by
  obtain ⟨hh, _, _, _, hA, hS, _⟩ := h.ag
  obtain ⟨k, hk, e⟩ := (hS x).1 hx
  rw [← e]; exact hA.wf k hk
theorem Sa.fst (h : Sa W a r F rv M sets) (hp : 0 < M.length) : ∃ x, x ∈ M ∧ fstT (allP (M.map prE)) = .tuple #[.int .i64 x.id, .int .i64 x.tm, .bool true] := by
  obtain ⟨_, hm⟩ := allE_ok M h.ti.rise
  rw [← allP_map]
  have hlen := allE_len M
  cases hA : allE M with
  | nil => rw [hA] at hlen; simp at hlen; omega
  | cons x rest => exact ⟨x, (hm x).1 (by rw [hA]; exact List.mem_cons_self), rfl⟩
theorem Sa.less (h : Sa W a r F rv M sets) {x : Ent} (hx : x ∈ M) : (remE M x.id).length < M.length := by
  have := len_rem x.id M h.ti.ids
  rw [if_pos ⟨x, hx, rfl⟩] at this
  omega
/-- How long the document's row is, as it lies. -/
def lenAt (W : World) (r : Nat) : Nat := match W.cell? ⟨r, 0, none⟩ with
  | some (.slice _ l _) => l
  | _ => 0
theorem Sa.cellR (h : Sa W a r F rv M sets) : ∃ o c, W.cell? ⟨r, 0, none⟩ = some (.slice o M.length c) ∧ lenAt W r = M.length := by
  obtain ⟨o, c, e⟩ := own_shapeG h.rf.row
  rw [List.length_map] at e
  have hc : W.cell? ⟨r, 0, none⟩ = some (.slice o M.length c) := by rw [← e]; exact h.rf.c0
  exact ⟨o, c, hc, by unfold lenAt; rw [hc]⟩
end
set_option maxRecDepth 100000 in
set_option maxHeartbeats 8000000 in
theorem playsD {W : World} {a r sets : Nat} {F : Nat → Prop} {rv : Value} {M : List Ent} (h : Sa W a r F rv M sets) (on id n : Int) (hid : (Lit.int .i64 id).wf = true) :
    Calls Try.prog 5 #[.agg #[.pointer (some ⟨a, 0, none⟩), .pointer (some ⟨r, 0, none⟩)], .agg #[.int .i64 on, .int .i64 2, .int .i64 id, .int .i64 n]] W fun e w' => e = .returned (.bool true) ∧ AftD W w' a r F rv sets (remE M id) := by
  have hB0 : Below W.heap.size W ((W.alloc (.cells #[.pointer (some ⟨a, 0, none⟩), .pointer (some ⟨r, 0, none⟩)] 26)).alloc (.cells #[.int .i64 on, .int .i64 2, .int .i64 id, .int .i64 n] 32)) := ((Below.refl _ W).alloc (Nat.le_refl _) _).alloc (by simp) _
  have hS0 := hide' (h.below hB0)
  have hrl := h.rf.lt
  have hfl : Hid (∀ k, F k → k < W.heap.size) := fun k hk => h.ag.ltk hk
  have hB0' := hide' hB0
  clear hB0 h
  go_enter Try.func5, Try.ntmps5
  go_upto_region 1 with fail
  have k0 : ((W.alloc (.cells #[.pointer (some ⟨a, 0, none⟩), .pointer (some ⟨r, 0, none⟩)] 26)).alloc (.cells #[.int .i64 on, .int .i64 2, .int .i64 id, .int .i64 n] 32)).cell? ⟨W.heap.size, 0, none⟩ = some (.pointer (some ⟨a, 0, none⟩)) := by simp
  have k1 : ((W.alloc (.cells #[.pointer (some ⟨a, 0, none⟩), .pointer (some ⟨r, 0, none⟩)] 26)).alloc (.cells #[.int .i64 on, .int .i64 2, .int .i64 id, .int .i64 n] 32)).cell? ⟨W.heap.size, 1, none⟩ = some (.pointer (some ⟨r, 0, none⟩)) := by simp
  have o1 : ((W.alloc (.cells #[.pointer (some ⟨a, 0, none⟩), .pointer (some ⟨r, 0, none⟩)] 26)).alloc (.cells #[.int .i64 on, .int .i64 2, .int .i64 id, .int .i64 n] 32)).cell? ⟨W.heap.size + 1, 1, none⟩ = some (.int .i64 2) := by simp
  have o2 : ((W.alloc (.cells #[.pointer (some ⟨a, 0, none⟩), .pointer (some ⟨r, 0, none⟩)] 26)).alloc (.cells #[.int .i64 on, .int .i64 2, .int .i64 id, .int .i64 n] 32)).cell? ⟨W.heap.size + 1, 2, none⟩ = some (.int .i64 id) := by simp
  have o3 : ((W.alloc (.cells #[.pointer (some ⟨a, 0, none⟩), .pointer (some ⟨r, 0, none⟩)] 26)).alloc (.cells #[.int .i64 on, .int .i64 2, .int .i64 id, .int .i64 n] 32)).cell? ⟨W.heap.size + 1, 3, none⟩ = some (.int .i64 n) := by simp
  generalize ((W.alloc (.cells #[.pointer (some ⟨a, 0, none⟩), .pointer (some ⟨r, 0, none⟩)] 26)).alloc (.cells #[.int .i64 on, .int .i64 2, .int .i64 id, .int .i64 n] 32)) = W0 at *
  have hn0 : Hid (¬ F W.heap.size ∧ ¬ F (W.heap.size + 1)) := ⟨fun e => by have := hfl.out _ e; omega, fun e => by have := hfl.out _ e; omega⟩
  have hfin : Hid (∀ V, AftD W0 V a r F rv sets (remE M id) → AftD W V a r F rv sets (remE M id)) := fun V hV => hV.after hB0'.out
  have hSd := hS0.out.below ((Below.refl _ W0).drew)
  have KP : Hid (Calls Try.prog 12 #[.pointer (some ⟨a, 0, none⟩), .int .i64 id] W0.drew fun e w3 => ∃ b, e = .returned (.bool b) ∧ RefA w3 r (M.map prE) rv ∧ Mv F W0.drew w3 ∧ ∀ e4 w4, DropR r (M.map prE) id w3 e4 w4 → e4 = .returned (.bool b) ∧ AftD W0.drew w4 a r F rv sets (remE M id)) := (dropA a M.length sets F _ id hid W0.drew hSd.ag).mono fun _ _ hP => saDropD hSd hP
  have KR : Hid (∀ V, RefA V r (M.map prE) rv → Calls Try.prog 13 #[.pointer (some ⟨r, 0, none⟩), .int .i64 id] V fun e w' => DropR r (M.map prE) id V e w' ∧ Mv (fun k => k = r) V w') := fun V hV => (dropR r _ rv id hS0.out.nd V hV).mono fun _ _ hD => ⟨hD, by obtain ⟨_, _, _, _, hm, _⟩ := hD; exact hm⟩
  have hi0 : Hid (W0.drew.cell? ⟨W.heap.size, 0, none⟩ = some (.pointer (some ⟨a, 0, none⟩)) ∧ W0.drew.cell? ⟨W.heap.size, 1, none⟩ = some (.pointer (some ⟨r, 0, none⟩)) ∧ W0.drew.cell? ⟨W.heap.size + 1, 2, none⟩ = some (.int .i64 id) ∧ W0.drew.cell? ⟨W.heap.size + 1, 3, none⟩ = some (.int .i64 n)) := ⟨k0, k1, o2, o3⟩
  have hk1 : Hid (∀ V, Mv F W0.drew V → V.cell? ⟨W.heap.size, 0, none⟩ = some (.pointer (some ⟨a, 0, none⟩)) ∧ V.cell? ⟨W.heap.size, 1, none⟩ = some (.pointer (some ⟨r, 0, none⟩)) ∧ V.cell? ⟨W.heap.size + 1, 2, none⟩ = some (.int .i64 id) ∧ V.cell? ⟨W.heap.size + 1, 3, none⟩ = some (.int .i64 n)) := fun V hV => keepM (W := W0.drew) hi0.out hV hn0.out.1 hn0.out.2
  have hk2 : Hid (∀ V V', Mv F W0.drew V → Mv (fun k => k = r) V V' → V'.cell? ⟨W.heap.size, 0, none⟩ = some (.pointer (some ⟨a, 0, none⟩)) ∧ V'.cell? ⟨W.heap.size, 1, none⟩ = some (.pointer (some ⟨r, 0, none⟩)) ∧ V'.cell? ⟨W.heap.size + 1, 2, none⟩ = some (.int .i64 id) ∧ V'.cell? ⟨W.heap.size + 1, 3, none⟩ = some (.int .i64 n)) := fun V V' hV hV' => keepM (hk1.out V hV) hV' (by omega) (by omega)
  have hfd : Hid (∀ V, AftD W0.drew V a r F rv sets (remE M id) → AftD W V a r F rv sets (remE M id)) := fun V hV => hfin.out V (hV.after ((Below.refl _ W0).drew))
  clear hS0 hSd hfin
  as_aux_lemma =>
  go_wp2
  go_region_held3 (fun V => V.cell? ⟨W.heap.size, 0, none⟩ = some (.pointer (some ⟨a, 0, none⟩)) ∧ V.cell? ⟨W.heap.size, 1, none⟩ = some (.pointer (some ⟨r, 0, none⟩)) ∧ V.cell? ⟨W.heap.size + 1, 2, none⟩ = some (.int .i64 id) ∧ V.cell? ⟨W.heap.size + 1, 3, none⟩ = some (.int .i64 n)) (first | assumption | (exact hi0.out) | (exact hk2.out _ _ hm3'.out hm4'.out) | (exact hk1.out _ hm3'.out)) (first | (go_at_call 12; refine KP.out.mono ?_; rintro e w3 ⟨b3, rfl, hr3, hm3, hx3⟩; have hm3' := hide' hm3; have KR3 := hide' (KR.out _ hr3); have hx3' := hide' hx3; clear hr3 hm3 hx3) | (go_at_call 13; refine KR3.out.mono ?_; intro e w4 hR4; obtain ⟨he4, hA4⟩ := hx3'.out _ _ hR4.1; have hm4' := hide' hR4.2; subst he4; have hA4' := hide' hA4; clear hR4 hA4))
  go_wp2
  go_ret
  exact ⟨by simp, hfd.out _ hA4'.out⟩
end Go.Proofs.Ytmjdecgijnodhaa

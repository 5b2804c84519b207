/- One call of both agendas: like answers. -/
import Derived.Test.YtmjdecgijnodhaaGFirst
namespace Go.Proofs.Ytmjdecgijnodhaa
open Go.RowKit Go.Maps
section
variable {W : World} {a r sets : Nat} {F : Nat → Prop} {rv : Value} {M : List Ent}
theorem Sa.nd (h : Sa W a r F rv M sets) : ((M.map prE).map (·.1)).Nodup := by
  rw [List.map_map]; exact h.ti.ids
theorem Sa.sm (h : Sa W a r F rv M sets) : M.length ≤ sets ∧ sets ≤ 1000000 := h.ag.ltF.2
/-- What both hold behind a change. -/
def Aft (W w' : World) (a r : Nat) (F : Nat → Prop) (rv : Value) (sets : Nat) : Prop := ∃ F' rv' M' sets', Sa w' a r F' rv' M' sets' ∧ Nz F r rv F' rv' W w' ∧ sets' ≤ sets + 1
theorem Nz.after {W0 W' : World} {F' : Nat → Prop} {rv' : Value} (hb : Below W.heap.size W W0) (h : Nz F r rv F' rv' W0 W') : Nz F r rv F' rv' W W' :=
  ⟨(Mv.below hb).trans h.1 (fun _ _ e => e), fun k hk => (h.2.1 k hk).imp id (Nat.le_trans hb.size), fun g e => (h.2.2 g e).imp id (Nat.le_trans hb.size)⟩
theorem Aft.after {W0 W' : World} (hb : Below W.heap.size W W0) (h : Aft W0 W' a r F rv sets) : Aft W W' a r F rv sets := by
  obtain ⟨F', rv', M', s', h1, h2, h3⟩ := h
  exact ⟨F', rv', M', s', h1, h2.after hb, h3⟩
theorem Aft.same {W' : World} (h : Sa W a r F rv M sets) (hb : Below W.heap.size W W') : Aft W W' a r F rv sets := ⟨F, rv, M, sets, h.below hb, Nz.below hb, Nat.le_succ _⟩
theorem saSet (h : Sa W a r F rv M sets) {id tm : Int} {e : Ending} {w3 : World} (hP : SetPost a M.length F (fun x => x ∈ M) sets id tm W e w3) :
    e = .returned (.tuple #[]) ∧ RefA w3 r (M.map prE) rv ∧ Mv F W w3 ∧ ∀ e4 w4, SetR r (M.map prE) id tm w3 e4 w4 → e4 = .returned (.tuple #[]) ∧ Aft W w4 a r F rv sets := by
  obtain ⟨he, F', n', hA, hM, hF, b, hn, hb⟩ := hP
  refine ⟨he, h.rf.mv hM h.nr h.nv, hM, fun e4 w4 ⟨he4, rv', hR4, hM4, hf4⟩ => ⟨he4, ?_⟩⟩
  have hl := len_rem id M h.ti.ids
  have key := sa_next h (M' := remE M id ++ [⟨id, tm, (sets : Int) + 1⟩]) hA (fun x => by rw [List.mem_append, mem_remE, List.mem_singleton]) ?_ hM hF hR4 ?_ hM4 (fun k e => .inr (hf4 k e)) (h.ti.set id tm)
  · exact ⟨F', rv', _, _, key.1, key.2, Nat.le_refl _⟩
  · rw [List.length_append]
    by_cases hx : ∃ x ∈ M, x.id = id
    · rw [if_pos hx] at hl
      have : b = true := hb.2 hx
      subst this
      simp at hn ⊢; omega
    · rw [if_neg hx] at hl
      have : b = false := by
        cases b with
        | false => rfl
        | true => exact absurd (hb.1 rfl) hx
      subst this
      simp at hn ⊢; omega
  · rw [List.map_append, remE_map]; rfl
theorem saDrop (h : Sa W a r F rv M sets) {id : Int} {e : Ending} {w3 : World} (hP : DropPost a M.length F (fun x => x ∈ M) sets id W e w3) :
    ∃ b, e = .returned (.bool b) ∧ RefA w3 r (M.map prE) rv ∧ Mv F W w3 ∧ ∀ e4 w4, DropR r (M.map prE) id w3 e4 w4 → e4 = .returned (.bool b) ∧ Aft W w4 a r F rv sets := by
  obtain ⟨b, F', n', he, hb, hA, hM, hF, hn⟩ := hP
  refine ⟨b, he, h.rf.mv hM h.nr h.nv, hM, fun e4 w4 ⟨h1, h2, rv', hR4, hM4, hf4⟩ => ⟨?_, ?_⟩⟩
  · cases b with
    | true =>
      obtain ⟨x, hx, e⟩ := hb.1 rfl
      exact h1 ⟨prE x, List.mem_map.2 ⟨x, hx, rfl⟩, e⟩
    | false =>
      refine h2 fun x hx e => ?_
      obtain ⟨y, hy, rfl⟩ := List.mem_map.1 hx
      have := hb.2 ⟨y, hy, e⟩
      cases this
  · have hl := len_rem id M h.ti.ids
    have key := sa_next h (M' := remE M id) hA (fun x => mem_remE.symm) ?_ hM (fun k hk => .inl (hF k hk)) hR4 (remE_map M id).symm hM4 (fun k e => .inr (hf4 k e)) (h.ti.rem id)
    · exact ⟨F', rv', _, _, key.1, key.2, Nat.le_succ _⟩
    · by_cases hx : ∃ x ∈ M, x.id = id
      · rw [if_pos hx] at hl
        have : b = true := hb.2 hx
        subst this
        simp at hn; omega
      · rw [if_neg hx] at hl
        have : b = false := by
          cases b with
          | false => rfl
          | true => exact absurd (hb.1 rfl) hx
        subst this
        simp at hn; omega
theorem saDue (h : Sa W a r F rv M sets) {now most : Int} {e : Ending} {w3 : World} (hP : DuePost a M.length F (fun x => x ∈ M) sets now most W e w3) :
    ∃ v l, e = .returned v ∧ RefA w3 r (M.map prE) rv ∧ Mv F W w3 ∧ l.length ≤ 1000000 ∧ ∀ e4 w4, DueR r (M.map prE) now most rv w3 e4 w4 → ∃ v4, e4 = .returned v4 ∧ RowJ w4 v l ∧ RowJ w4 v4 l ∧ Aft W w4 a r F rv sets := by
  obtain ⟨L, S', F', n', v, he, hT, hrow, hA, hM, hF, hn, h1, h2⟩ := hP
  obtain ⟨hk, hpre⟩ := due_len h.ti (fun _ => Iff.rfl) hT hn h1 h2
  have hsm := h.sm
  have hlr := len_remL (fun _ => Iff.rfl) h.ti hT
  refine ⟨v, L.map (·.id), he, h.rf.mv hM h.nr h.nv, hM, by rw [List.length_map]; omega, fun e4 w4 ⟨v4, rv', he4, hrow4, hR4, hM4, hf4⟩ => ⟨v4, he4, ?_, ?_, ?_⟩⟩
  · refine RowJ.own (owns_same hrow fun g hg eg => hM4.block g hg fun e => ?_) (by simp) (by simp [cellsE])
    have := (hrow.lt g eg).1
    have := h.rf.lt
    omega
  · refine RowJ.own hrow4 (by rw [List.length_map, hk]) ?_
    rw [← hk, ← hpre]
    simp [cellsF, prE]
  · rw [← hk, ← hpre, dropN_map] at hR4
    have key := sa_next h (M' := remL M L) hA (taken_rem (fun _ => Iff.rfl) hT) (by omega) hM (fun k hk => .inl (hF k hk)) hR4 rfl hM4 hf4 (h.ti.remL L)
    exact ⟨F', rv', _, _, key.1, key.2, Nat.le_succ _⟩
end
theorem keepM {G : Nat → Prop} {W W' : World} {n0 n1 i j k l : Nat} {u0 u1 u2 u3 : Value} (h : W.cell? ⟨n0, i, none⟩ = some u0 ∧ W.cell? ⟨n0, j, none⟩ = some u1 ∧ W.cell? ⟨n1, k, none⟩ = some u2 ∧ W.cell? ⟨n1, l, none⟩ = some u3) (hf : Mv G W W') (h0 : ¬ G n0) (h1 : ¬ G n1) :
    W'.cell? ⟨n0, i, none⟩ = some u0 ∧ W'.cell? ⟨n0, j, none⟩ = some u1 ∧ W'.cell? ⟨n1, k, none⟩ = some u2 ∧ W'.cell? ⟨n1, l, none⟩ = some u3 := ⟨hf.cell h.1 h0, hf.cell h.2.1 h0, hf.cell h.2.2.1 h1, hf.cell h.2.2.2 h1⟩
set_option maxRecDepth 100000 in
set_option maxHeartbeats 8000000 in
theorem playsA {W : World} {a r sets : Nat} {F : Nat → Prop} {rv : Value} {M : List Ent} (h : Sa W a r F rv M sets) (hset : sets + 1 ≤ 1000000) (on d id n : Int) (hid : (Lit.int .i64 id).wf = true) :
    Calls Try.prog 5 #[.agg #[.pointer (some ⟨a, 0, none⟩), .pointer (some ⟨r, 0, none⟩)], .agg #[.int .i64 on, .int .i64 d, .int .i64 id, .int .i64 n]] W fun e w' => e = .returned (.bool true) ∧ Aft W w' a r F rv sets := by
  have hB0 : Below W.heap.size W ((W.alloc (.cells #[.pointer (some ⟨a, 0, none⟩), .pointer (some ⟨r, 0, none⟩)] 26)).alloc (.cells #[.int .i64 on, .int .i64 d, .int .i64 id, .int .i64 n] 32)) := ((Below.refl _ W).alloc (Nat.le_refl _) _).alloc (by simp) _
  have hS0 := hide' (h.below hB0)
  have hrl := h.rf.lt
  have hfl : Hid (∀ k, F k → k < W.heap.size) := fun k hk => h.ag.ltk hk
  have hB0' := hide' hB0
  clear hB0 h
  go_enter Try.func5, Try.ntmps5
  go_upto_region 1 with fail
  have k0 : ((W.alloc (.cells #[.pointer (some ⟨a, 0, none⟩), .pointer (some ⟨r, 0, none⟩)] 26)).alloc (.cells #[.int .i64 on, .int .i64 d, .int .i64 id, .int .i64 n] 32)).cell? ⟨W.heap.size, 0, none⟩ = some (.pointer (some ⟨a, 0, none⟩)) := by simp
  have k1 : ((W.alloc (.cells #[.pointer (some ⟨a, 0, none⟩), .pointer (some ⟨r, 0, none⟩)] 26)).alloc (.cells #[.int .i64 on, .int .i64 d, .int .i64 id, .int .i64 n] 32)).cell? ⟨W.heap.size, 1, none⟩ = some (.pointer (some ⟨r, 0, none⟩)) := by simp
  have o1 : ((W.alloc (.cells #[.pointer (some ⟨a, 0, none⟩), .pointer (some ⟨r, 0, none⟩)] 26)).alloc (.cells #[.int .i64 on, .int .i64 d, .int .i64 id, .int .i64 n] 32)).cell? ⟨W.heap.size + 1, 1, none⟩ = some (.int .i64 d) := by simp
  have o2 : ((W.alloc (.cells #[.pointer (some ⟨a, 0, none⟩), .pointer (some ⟨r, 0, none⟩)] 26)).alloc (.cells #[.int .i64 on, .int .i64 d, .int .i64 id, .int .i64 n] 32)).cell? ⟨W.heap.size + 1, 2, none⟩ = some (.int .i64 id) := by simp
  have o3 : ((W.alloc (.cells #[.pointer (some ⟨a, 0, none⟩), .pointer (some ⟨r, 0, none⟩)] 26)).alloc (.cells #[.int .i64 on, .int .i64 d, .int .i64 id, .int .i64 n] 32)).cell? ⟨W.heap.size + 1, 3, none⟩ = some (.int .i64 n) := by simp
  generalize ((W.alloc (.cells #[.pointer (some ⟨a, 0, none⟩), .pointer (some ⟨r, 0, none⟩)] 26)).alloc (.cells #[.int .i64 on, .int .i64 d, .int .i64 id, .int .i64 n] 32)) = W0 at *
  have hn0 : Hid (¬ F W.heap.size ∧ ¬ F (W.heap.size + 1)) := ⟨fun e => by have := hfl.out _ e; omega, fun e => by have := hfl.out _ e; omega⟩
  have hfin : Hid (∀ V, Aft W0 V a r F rv sets → Aft W V a r F rv sets) := fun V hV => hV.after hB0'.out
  have hsame : Hid (∀ V, Below W0.heap.size W0 V → Aft W V a r F rv sets) := fun V hV => (Aft.same hS0.out hV).after hB0'.out
  by_cases d1 : d = 1
  · subst d1
    have KP : Hid (Calls Try.prog 10 #[.pointer (some ⟨a, 0, none⟩), .int .i64 id, .int .i64 n] W0 fun e w3 => e = .returned (.tuple #[]) ∧ RefA w3 r (M.map prE) rv ∧ Mv F W0 w3 ∧ ∀ e4 w4, SetR r (M.map prE) id n w3 e4 w4 → e4 = .returned (.tuple #[]) ∧ Aft W0 w4 a r F rv sets) := (setA a M.length sets F _ id n hid hset W0 hS0.out.ag).mono fun _ _ hP => saSet hS0.out hP
    have KR : Hid (∀ V, RefA V r (M.map prE) rv → Calls Try.prog 11 #[.pointer (some ⟨r, 0, none⟩), .int .i64 id, .int .i64 n] V (SetR r (M.map prE) id n V)) := fun V hV => setR r _ rv id n hS0.out.nd (by rw [List.length_map]; have := hS0.out.sm; omega) V hV
    have hkk : Hid (∀ V, Mv F W0 V → V.cell? ⟨W.heap.size, 0, none⟩ = some (.pointer (some ⟨a, 0, none⟩)) ∧ V.cell? ⟨W.heap.size, 1, none⟩ = some (.pointer (some ⟨r, 0, none⟩)) ∧ V.cell? ⟨W.heap.size + 1, 2, none⟩ = some (.int .i64 id) ∧ V.cell? ⟨W.heap.size + 1, 3, none⟩ = some (.int .i64 n)) := fun V hV => keepM (W := W0) ⟨k0, k1, o2, o3⟩ hV hn0.out.1 hn0.out.2
    clear hS0 hsame
    as_aux_lemma =>
    go_wp2_with fail
    refine KP.out.mono ?_
    rintro e w3 ⟨rfl, hr3, hm3, hx3⟩
    obtain ⟨j0, j1, j2, j3⟩ := hkk.out _ hm3
    have KR3 := hide' (KR.out _ hr3)
    have hx3' := hide' hx3
    clear hr3 hm3 hx3 KP KR hkk
    go_wp2_with fail
    refine KR3.out.mono ?_
    intro e w4 hR4
    obtain ⟨he4, hA4⟩ := hx3'.out _ _ hR4
    subst he4
    have hA4' := hide' hA4
    clear hR4 hA4 hx3' KR3
    go_wp2
    go_ret
    exact ⟨rfl, hfin.out _ hA4'.out⟩
  by_cases d2 : d = 2
  · subst d2
    have hSd := hS0.out.below ((Below.refl _ W0).drew)
    have KP : Hid (Calls Try.prog 12 #[.pointer (some ⟨a, 0, none⟩), .int .i64 id] W0.drew fun e w3 => ∃ b, e = .returned (.bool b) ∧ RefA w3 r (M.map prE) rv ∧ Mv F W0.drew w3 ∧ ∀ e4 w4, DropR r (M.map prE) id w3 e4 w4 → e4 = .returned (.bool b) ∧ Aft W0.drew w4 a r F rv sets) := (dropA a M.length sets F _ id hid W0.drew hSd.ag).mono fun _ _ hP => saDrop hSd hP
    have KR : Hid (∀ V, RefA V r (M.map prE) rv → Calls Try.prog 13 #[.pointer (some ⟨r, 0, none⟩), .int .i64 id] V fun e w' => DropR r (M.map prE) id V e w' ∧ Mv (fun k => k = r) V w') := fun V hV => (dropR r _ rv id hS0.out.nd V hV).mono fun _ _ hD => ⟨hD, by obtain ⟨_, _, _, _, hm, _⟩ := hD; exact hm⟩
    have hi0 : Hid (W0.drew.cell? ⟨W.heap.size, 0, none⟩ = some (.pointer (some ⟨a, 0, none⟩)) ∧ W0.drew.cell? ⟨W.heap.size, 1, none⟩ = some (.pointer (some ⟨r, 0, none⟩)) ∧ W0.drew.cell? ⟨W.heap.size + 1, 2, none⟩ = some (.int .i64 id) ∧ W0.drew.cell? ⟨W.heap.size + 1, 3, none⟩ = some (.int .i64 n)) := ⟨k0, k1, o2, o3⟩
    have hk1 : Hid (∀ V, Mv F W0.drew V → V.cell? ⟨W.heap.size, 0, none⟩ = some (.pointer (some ⟨a, 0, none⟩)) ∧ V.cell? ⟨W.heap.size, 1, none⟩ = some (.pointer (some ⟨r, 0, none⟩)) ∧ V.cell? ⟨W.heap.size + 1, 2, none⟩ = some (.int .i64 id) ∧ V.cell? ⟨W.heap.size + 1, 3, none⟩ = some (.int .i64 n)) := fun V hV => keepM (W := W0.drew) hi0.out hV hn0.out.1 hn0.out.2
    have hk2 : Hid (∀ V V', Mv F W0.drew V → Mv (fun k => k = r) V V' → V'.cell? ⟨W.heap.size, 0, none⟩ = some (.pointer (some ⟨a, 0, none⟩)) ∧ V'.cell? ⟨W.heap.size, 1, none⟩ = some (.pointer (some ⟨r, 0, none⟩)) ∧ V'.cell? ⟨W.heap.size + 1, 2, none⟩ = some (.int .i64 id) ∧ V'.cell? ⟨W.heap.size + 1, 3, none⟩ = some (.int .i64 n)) := fun V V' hV hV' => keepM (hk1.out V hV) hV' (by omega) (by omega)
    have hfd : Hid (∀ V, Aft W0.drew V a r F rv sets → Aft W V a r F rv sets) := fun V hV => hfin.out V (hV.after ((Below.refl _ W0).drew))
    clear hS0 hsame hSd hfin
    as_aux_lemma =>
    go_wp2
    go_region_held3 (fun V => V.cell? ⟨W.heap.size, 0, none⟩ = some (.pointer (some ⟨a, 0, none⟩)) ∧ V.cell? ⟨W.heap.size, 1, none⟩ = some (.pointer (some ⟨r, 0, none⟩)) ∧ V.cell? ⟨W.heap.size + 1, 2, none⟩ = some (.int .i64 id) ∧ V.cell? ⟨W.heap.size + 1, 3, none⟩ = some (.int .i64 n)) (first | assumption | (exact hi0.out) | (exact hk2.out _ _ hm3'.out hm4'.out) | (exact hk1.out _ hm3'.out)) (first | (go_at_call 12; refine KP.out.mono ?_; rintro e w3 ⟨b3, rfl, hr3, hm3, hx3⟩; have hm3' := hide' hm3; have KR3 := hide' (KR.out _ hr3); have hx3' := hide' hx3; clear hr3 hm3 hx3) | (go_at_call 13; refine KR3.out.mono ?_; intro e w4 hR4; obtain ⟨he4, hA4⟩ := hx3'.out _ _ hR4.1; have hm4' := hide' hR4.2; subst he4; have hA4' := hide' hA4; clear hR4 hA4))
    go_wp2
    go_ret
    exact ⟨by simp, hfd.out _ hA4'.out⟩
  by_cases d6 : d = 6
  · subst d6
    have hSd := hS0.out.below ((Below.refl _ W0).drew)
    have KP : Hid (Calls Try.prog 19 #[.pointer (some ⟨a, 0, none⟩), .int .i64 n, .int .i64 id] W0.drew fun e w3 => ∃ v l, e = .returned v ∧ RefA w3 r (M.map prE) rv ∧ Mv F W0.drew w3 ∧ l.length ≤ 1000000 ∧ ∀ e4 w4, DueR r (M.map prE) n id rv w3 e4 w4 → ∃ v4, e4 = .returned v4 ∧ RowJ w4 v l ∧ RowJ w4 v4 l ∧ Aft W0.drew w4 a r F rv sets) := (dueA a M.length sets F _ n id W0.drew hSd.ag).mono fun _ _ hP => saDue hSd hP
    have KR : Hid (∀ V, RefA V r (M.map prE) rv → Calls Try.prog 20 #[.pointer (some ⟨r, 0, none⟩), .int .i64 n, .int .i64 id] V fun e w' => DueR r (M.map prE) n id rv V e w' ∧ Mv (fun k => k = r) V w') := fun V hV => (dueR r _ rv n id hS0.out.nd V hV).mono fun _ _ hD => ⟨hD, by obtain ⟨_, _, _, _, _, hm, _⟩ := hD; exact hm⟩
    have KE : Hid (∀ V va vb (l : List Int), RowJ V va l → RowJ V vb l → l.length ≤ 1000000 → Calls Try.prog 18 #[va, vb] V fun e w' => e = .returned (.bool true) ∧ Below V.heap.size V w') := fun V va vb l h1 h2 h3 => keepIntsT l va vb V h1 h2 h3
    have hi0 : Hid (W0.drew.cell? ⟨W.heap.size, 0, none⟩ = some (.pointer (some ⟨a, 0, none⟩)) ∧ W0.drew.cell? ⟨W.heap.size, 1, none⟩ = some (.pointer (some ⟨r, 0, none⟩)) ∧ W0.drew.cell? ⟨W.heap.size + 1, 2, none⟩ = some (.int .i64 id) ∧ W0.drew.cell? ⟨W.heap.size + 1, 3, none⟩ = some (.int .i64 n)) := ⟨k0, k1, o2, o3⟩
    have hk1 : Hid (∀ V, Mv F W0.drew V → V.cell? ⟨W.heap.size, 0, none⟩ = some (.pointer (some ⟨a, 0, none⟩)) ∧ V.cell? ⟨W.heap.size, 1, none⟩ = some (.pointer (some ⟨r, 0, none⟩)) ∧ V.cell? ⟨W.heap.size + 1, 2, none⟩ = some (.int .i64 id) ∧ V.cell? ⟨W.heap.size + 1, 3, none⟩ = some (.int .i64 n)) := fun V hV => keepM (W := W0.drew) hi0.out hV hn0.out.1 hn0.out.2
    have hk2 : Hid (∀ V V', Mv F W0.drew V → Mv (fun k => k = r) V V' → V'.cell? ⟨W.heap.size, 0, none⟩ = some (.pointer (some ⟨a, 0, none⟩)) ∧ V'.cell? ⟨W.heap.size, 1, none⟩ = some (.pointer (some ⟨r, 0, none⟩)) ∧ V'.cell? ⟨W.heap.size + 1, 2, none⟩ = some (.int .i64 id) ∧ V'.cell? ⟨W.heap.size + 1, 3, none⟩ = some (.int .i64 n)) := fun V V' hV hV' => keepM (hk1.out V hV) hV' (by omega) (by omega)
    have hk3 : Hid (∀ V V' V2, Mv F W0.drew V → Mv (fun k => k = r) V V' → Below V'.heap.size V' V2 → V2.cell? ⟨W.heap.size, 0, none⟩ = some (.pointer (some ⟨a, 0, none⟩)) ∧ V2.cell? ⟨W.heap.size, 1, none⟩ = some (.pointer (some ⟨r, 0, none⟩)) ∧ V2.cell? ⟨W.heap.size + 1, 2, none⟩ = some (.int .i64 id) ∧ V2.cell? ⟨W.heap.size + 1, 3, none⟩ = some (.int .i64 n)) := fun V V' V2 hV hV' hb => keepM (hk2.out V V' hV hV') (Mv.below (F := fun _ => False) hb) (fun h => h) (fun h => h)
    have hfd : Hid (∀ V V2, Aft W0.drew V a r F rv sets → Below V.heap.size V V2 → Aft W V2 a r F rv sets) := fun V V2 hV hb => hfin.out V2 (Aft.after ((Below.refl _ W0).drew) (by
      obtain ⟨F', rv', M', s', h1, h2, h3⟩ := hV
      exact ⟨F', rv', M', s', h1.below hb, ⟨h2.1.trans (Mv.below (F := fun k => F k ∨ k = r) hb) (fun _ _ e => e), h2.2.1, h2.2.2⟩, h3⟩))
    clear hS0 hsame hSd hfin
    as_aux_lemma =>
    go_wp2
    go_region_held3 (fun V => V.cell? ⟨W.heap.size, 0, none⟩ = some (.pointer (some ⟨a, 0, none⟩)) ∧ V.cell? ⟨W.heap.size, 1, none⟩ = some (.pointer (some ⟨r, 0, none⟩)) ∧ V.cell? ⟨W.heap.size + 1, 2, none⟩ = some (.int .i64 id) ∧ V.cell? ⟨W.heap.size + 1, 3, none⟩ = some (.int .i64 n)) (first | assumption | (exact hi0.out) | (exact hk3.out _ _ _ hm3'.out hm4'.out hb5'.out) | (exact hk2.out _ _ hm3'.out hm4'.out) | (exact hk1.out _ hm3'.out)) (first | (go_at_call 19; refine KP.out.mono ?_; rintro e w3 ⟨v3, l3, rfl, hr3, hm3, hl3, hx3⟩; have hm3' := hide' hm3; have KR3 := hide' (KR.out _ hr3); have hx3' := hide' hx3; have hl3' := hide' hl3; clear hr3 hm3 hx3 hl3) | (go_at_call 20; refine KR3.out.mono ?_; intro e w4 hR4; obtain ⟨v4, he4, hj3, hj4, hA4⟩ := hx3'.out _ _ hR4.1; have hm4' := hide' hR4.2; subst he4; have hA4' := hide' hA4; have KE4 := hide' (KE.out _ _ _ _ hj3 hj4 hl3'.out); clear hR4 hA4 hj3 hj4) | (go_at_call 18; refine KE4.out.mono ?_; rintro e w5 ⟨rfl, hb5⟩; have hb5' := hide' hb5; clear hb5))
    go_wp2
    go_ret
    exact ⟨rfl, hfd.out _ _ hA4'.out hb5'.out⟩
  by_cases d3 : d = 3
  · subst d3
    have KR := hide' (atR r (M.map prE) rv id W0 hS0.out.rf)
    by_cases hx : ∃ x ∈ M, x.id = id
    · obtain ⟨x, hx, rfl⟩ := hx
      have KP := hide' (atYes a M.length sets F _ x hx W0 hS0.out.ag)
      have hu : Hid (∀ (e : Ending) (w' : World), (w' = W0 ∧ ((∃ y, y ∈ M.map prE ∧ y.1 = x.id ∧ e = .returned (.tuple #[.int .i64 y.2, .bool true])) ∨ ((∀ y ∈ M.map prE, y.1 ≠ x.id) ∧ e = .returned (.tuple #[.int .i64 0, .bool false])))) → w' = W0 ∧ e = .returned (.tuple #[.int .i64 x.tm, .bool true])) := fun e w' ⟨h1, h2⟩ => ⟨h1, by
        rcases h2 with ⟨y, hy, e1, e2⟩ | ⟨h3, _⟩
        · obtain ⟨z, hz, rfl⟩ := List.mem_map.1 hy
          obtain rfl := hS0.out.ti.idinj hz hx e1
          exact e2
        · exact absurd rfl (h3 (prE x) (List.mem_map.2 ⟨x, hx, rfl⟩))⟩
      clear hS0 hfin hx
      generalize x.tm = xt at *
      generalize x.id = xi at *
      as_aux_lemma =>
      go_wp2_with fail
      refine KP.out.mono ?_
      rintro e w1 ⟨rfl, hw1⟩
      obtain rfl : W0 = w1 := hw1.symm
      go_wp2_with fail
      refine KR.out.mono ?_
      intro e w2 hR
      obtain ⟨hw2, he2⟩ := hu.out _ _ hR
      obtain rfl : W0 = w2 := hw2.symm
      subst he2
      clear hR hw1 hw2
      go_wp2
      go_ret
      exact ⟨by simp, hsame.out _ (Below.refl _ _)⟩
    · have KP := hide' (atNo a M.length sets F _ id hid (fun ⟨x, h1, h2⟩ => hx ⟨x, h1, h2⟩) W0 hS0.out.ag)
      have hu : Hid (∀ (e : Ending) (w' : World), (w' = W0 ∧ ((∃ y, y ∈ M.map prE ∧ y.1 = id ∧ e = .returned (.tuple #[.int .i64 y.2, .bool true])) ∨ ((∀ y ∈ M.map prE, y.1 ≠ id) ∧ e = .returned (.tuple #[.int .i64 0, .bool false])))) → w' = W0 ∧ e = .returned (.tuple #[.int .i64 0, .bool false])) := fun e w' ⟨h1, h2⟩ => ⟨h1, by
        rcases h2 with ⟨y, hy, e1, e2⟩ | ⟨_, h3⟩
        · obtain ⟨z, hz, rfl⟩ := List.mem_map.1 hy
          exact absurd ⟨z, hz, e1⟩ hx
        · exact h3⟩
      clear hS0 hfin hx
      as_aux_lemma =>
      go_wp2_with fail
      refine KP.out.mono ?_
      rintro e w1 ⟨rfl, hw1⟩
      obtain rfl : W0 = w1 := hw1.symm
      go_wp2_with fail
      refine KR.out.mono ?_
      intro e w2 hR
      obtain ⟨hw2, he2⟩ := hu.out _ _ hR
      obtain rfl : W0 = w2 := hw2.symm
      subst he2
      clear hR hw1 hw2
      go_wp2
      go_ret
      exact ⟨rfl, hsame.out _ (Below.refl _ _)⟩
  by_cases d4 : d = 4
  · subst d4
    obtain ⟨o, c, ev⟩ := own_shapeG hS0.out.rf.row
    rw [List.length_map] at ev
    have c0 := hS0.out.rf.c0
    rw [ev] at c0
    have KL : Hid (∀ n, Calls Try.prog 16 #[.pointer (some ⟨a, 0, none⟩)] (W0.drewN n) fun e w' => e = .returned (.int .i64 (M.length : Int)) ∧ w' = W0.drewN n) := fun n => lenA a M.length sets F _ _ (hS0.out.ag.below ⟨rfl, rfl, rfl, Nat.le_refl _, fun _ _ => rfl⟩)
    clear hS0 hfin ev
    generalize M.length = m at *
    as_aux_lemma =>
    go_upto_region 12 with fail
    go_quiet ((go_at_call 16; exact Calls.quiet_of_same (KL.out _)))
    go_wp2
    go_ret
    exact ⟨by simp, hsame.out _ (below_drewN (Below.refl _ _) _)⟩
  by_cases d5 : d = 5
  · subst d5
    have KF := hide' (firstS hS0.out)
    clear hS0 hfin
    as_aux_lemma =>
    go_wp2_with (go_at_call 17; refine KF.out.mono ?_; rintro e w1 ⟨rfl, hb1⟩)
    go_ret
    exact ⟨rfl, hsame.out _ hb1⟩
  have e1 : (d == 1) = false := by simpa using d1
  have e2 : (d == 2) = false := by simpa using d2
  have e3 : (d == 3) = false := by simpa using d3
  have e4 : (d == 4) = false := by simpa using d4
  have e5 : (d == 5) = false := by simpa using d5
  have e6 : (d == 6) = false := by simpa using d6
  clear d1 d2 d3 d4 d5 d6 hS0 hfin
  as_aux_lemma =>
  go_wp2
  go_ret
  exact ⟨rfl, hsame.out _ (Below.refl _ _)⟩
end Go.Proofs.Ytmjdecgijnodhaa

/- Agenda.Set, At, Len, First: what they answer. -/
import Derived.Test.YtmjdecgijnodhaaGDrop
namespace Go.Proofs.Ytmjdecgijnodhaa
open Go.RowKit Go.Maps
theorem mapD_same {D : DataW Unit} {n : Nat} {h h' : Nat → Nat × Ent} (hm : MapD D n h) (hs : Same n h h') : MapD D n h' := by
  intro id
  obtain ⟨m1, m2, m3⟩ := hm id
  refine ⟨fun ⟨k, hk, ek⟩ => ?_, fun x => ?_, fun k hk ek => ?_⟩
  · obtain ⟨l, hl, e⟩ := (hs (h' k)).2 ⟨k, hk, rfl⟩
    exact m1 ⟨l, hl, by rw [e]; exact ek⟩
  · refine m2 fun ⟨l, hl, el⟩ => x ?_
    obtain ⟨k, hk, e⟩ := (hs (h l)).1 ⟨l, hl, rfl⟩
    exact ⟨k, hk, by rw [e]; exact el⟩
  · obtain ⟨l, hl, e⟩ := (hs (h' k)).2 ⟨k, hk, rfl⟩
    rw [m3 l hl (by rw [e]; exact ek), e]
theorem mapD_put {D : DataW Unit} {n p : Nat} {h : Nat → Nat × Ent} {e : Ent} (hm : MapD D n h) (ht : IsMap D) (hno : ∀ k, k < n → (h k).2.id ≠ e.id) : MapD (D.put (.int .i64 e.id) (.lit (.int .i64 (p : Int)))) (n + 1) (addF h n p e) := by
  have hk : WideAt.IsKeyLit (.int .i64 e.id) := trivial
  intro id
  by_cases he : id = e.id
  · subst he
    refine ⟨fun _ => has_put_same ht hk _, fun x => absurd ⟨n, by omega, by rw [addF_n]⟩ x, fun k hk' ek => ?_⟩
    by_cases e1 : k = n
    · subst e1; rw [addF_n, atKey_put_same ht hk]
    · rw [addF_o h e e1] at ek
      exact absurd ek (hno k (by omega))
  · have hne : (Lit.int .i64 id) ≠ .int .i64 e.id := fun x => he (by cases x; rfl)
    obtain ⟨m1, m2, m3⟩ := hm id
    have mv : ∀ k, k < n + 1 → (addF h n p e k).2.id = id → k < n ∧ addF h n p e k = h k := fun k hk' ek => by
      by_cases e1 : k = n
      · subst e1; rw [addF_n] at ek; exact absurd ek.symm he
      · exact ⟨by omega, addF_o h e e1⟩
    refine ⟨fun ⟨k, hk', ek⟩ => ?_, fun x => ?_, fun k hk' ek => ?_⟩
    · obtain ⟨h1, h2⟩ := mv k hk' ek
      rw [has_put_other hne]
      exact m1 ⟨k, h1, by rw [← h2]; exact ek⟩
    · rw [has_put_other hne, atKey_put_other hne]
      exact m2 fun ⟨k, hk', ek⟩ => x ⟨k, by omega, by rw [addF_o h e (by omega)]; exact ek⟩
    · obtain ⟨h1, h2⟩ := mv k hk' ek
      rw [atKey_put_other hne, h2]
      exact m3 k h1 (by rw [← h2]; exact ek)
def SetPost (a n : Nat) (F : Nat → Prop) (S : Ent → Prop) (sets : Nat) (id tm : Int) (w : World) (e : Ending) (w' : World) : Prop :=
  e = .returned (.tuple #[]) ∧ ∃ F' n', AgS w' a F' (fun x => (S x ∧ x.id ≠ id) ∨ x = ⟨id, tm, (sets : Int) + 1⟩) n' (sets + 1) ∧ Mv F w w' ∧ (∀ k, F' k → F k ∨ w.heap.size ≤ k) ∧ ∃ b : Bool, n + 1 = n' + b.toNat ∧ (b = true ↔ ∃ x, S x ∧ x.id = id)
/-- The agenda behind a Set, where the id was not there. -/
theorem setEnd {w1 w4 w5 : World} {a n mb sets p g cap : Nat} {h h5 : Nat → Nat × Ent} {rowv : Value} {D : DataW Unit} {F : Nat → Prop} {S : Ent → Prop} {e : Ent} (HA : Ag w1 a n h rowv mb sets D) (hS : ∀ x, S x ↔ ∃ k, k < n ∧ (h k).2 = x) (hF : ∀ k, FA a n h rowv mb k → F k)
    (hno : ∀ k, k < n → (h k).2.id ≠ e.id) (he : e.turn = (sets : Int) + 1) (hw : (Lit.int .i64 e.id).wf = true) (hs : sets + 1 ≤ 1000000) (hp : p = w1.heap.size) (M4 : Mv F w1 w4) (hp4 : p < w4.heap.size) (hm4 : w4.ownsMap Try.prog 3 ptrR mb (sets + 1) (D.put (.int .i64 e.id) (.lit (.int .i64 (p : Int)))))
    (hfm : ¬ FH n h rowv mb ∧ mb ≠ a ∧ mb ≠ p)
    (H5 : Hp w5 (n + 1) h5 (.slice (some ⟨g, 0, none⟩) (n + 1) cap)) (B5 : AgBox w5 a (.slice (some ⟨g, 0, none⟩) (n + 1) cap) mb ((sets + 1 : Nat) : Int)) (hH5 : IsHeap (ents h5) (n + 1)) (hS5 : Same (n + 1) (addF h n p e) h5) (hg5 : rowv.ownBlock = some g ∨ w4.heap.size ≤ g) (M5 : Mv (fun k => FH n h rowv k ∨ k = a ∨ k = p) w4 w5) :
    ∃ F', AgS w5 a F' (fun x => S x ∨ x = e) (n + 1) (sets + 1) ∧ Mv F w1 w5 ∧ ∀ k, F' k → F k ∨ w1.heap.size ≤ k := by
  have fwd : ∀ k, k < n + 1 → ∃ l, l < n + 1 ∧ addF h n p e l = h5 k := fun k hk => (hS5 (h5 k)).2 ⟨k, hk, rfl⟩
  have back : ∀ k l, k < n + 1 → l < n + 1 → ∀ k' l', addF h n p e k' = h5 k → addF h n p e l' = h5 l → k' = l' → k = l := fun k l hk hl k' l' e1 e2 e3 => by
    subst e3
    exact H5.inj k l hk hl (by rw [← e1, ← e2])
  have Mx : Mv F w1 w5 := M4.trans M5 (fun k hk x => x.elim (fun y => hF k (.inl y)) (fun y => y.elim (fun z => hF k (.inr (.inl z))) (fun z => by omega)))
  have hz := M4.size
  have sub : ∀ k, FA a (n + 1) h5 (.slice (some ⟨g, 0, none⟩) (n + 1) cap) mb k → F k ∨ w1.heap.size ≤ k := by
    rintro k ((x | ⟨l, hl, x⟩) | x | x)
    · have x2 : some g = some k := x
      cases x2
      rcases hg5 with y | y
      · exact .inl (hF g (.inl (.inl y)))
      · exact .inr (by omega)
    · obtain ⟨l', hl', e1⟩ := fwd l hl
      rw [← e1] at x
      by_cases e2 : l' = n
      · subst e2; rw [addF_n] at x; exact .inr (by have : p = k := x; omega)
      · rw [addF_o h e e2] at x; exact .inl (hF k (.inl (.inr ⟨l', by omega, x⟩)))
    · exact .inl (hF k (.inr (.inl x)))
    · exact .inl (hF k (.inr (.inr x)))
  have ltF : ∀ k, FA a (n + 1) h5 (.slice (some ⟨g, 0, none⟩) (n + 1) cap) mb k → k < w5.heap.size := by
    rintro k ((x | ⟨l, hl, x⟩) | x | x)
    · exact (H5.row.lt k x).2
    · rw [← x]; exact (H5.ent l hl).lt
    · rw [x]; exact B5.lt
    · rw [x]; exact Nat.lt_of_lt_of_le (HA.map.lt) (Nat.le_trans hz M5.size)
  have hids : ∀ k l, k < n + 1 → l < n + 1 → (addF h n p e k).2.id = (addF h n p e l).2.id → k = l := fun k l hk hl x => by
    by_cases e1 : k = n
    · by_cases e2 : l = n
      · omega
      · rw [e1, addF_n, addF_o h e e2] at x; exact absurd x.symm (hno l (by omega))
    · by_cases e2 : l = n
      · rw [e2, addF_n, addF_o h e e1] at x; exact absurd x (hno k (by omega))
      · rw [addF_o h e e1, addF_o h e e2] at x; exact HA.ids k l (by omega) (by omega) x
  have hdist : ∀ k l, k < n + 1 → l < n + 1 → (addF h n p e k).2.turn = (addF h n p e l).2.turn → k = l := fun k l hk hl x => by
    by_cases e1 : k = n
    · by_cases e2 : l = n
      · omega
      · rw [e1, addF_n, addF_o h e e2] at x
        have := HA.turns l (by omega)
        have x2 : e.turn = (h l).2.turn := x
        omega
    · by_cases e2 : l = n
      · rw [e2, addF_n, addF_o h e e1] at x
        have := HA.turns k (by omega)
        have x2 : (h k).2.turn = e.turn := x
        omega
      · rw [addF_o h e e1, addF_o h e e2] at x; exact HA.dist k l (by omega) (by omega) x
  refine ⟨_, ⟨h5, _, mb, _, ⟨B5, H5, hH5, map_same hm4 (M5.block mb hm4.lt (fun x => x.elim hfm.1 (fun y => y.elim hfm.2.1 hfm.2.2))), mapD_same (mapD_put HA.mapD HA.map.isMap hno) hS5, fun k l hk hl x => ?_, fun k hk => ?_, fun k hk => ?_, fun k l hk hl x => ?_, ?_⟩, fun x => ?_, fun k hk => hk, ltF⟩, Mx, sub⟩
  · obtain ⟨k', hk', e1⟩ := fwd k hk
    obtain ⟨l', hl', e2⟩ := fwd l hl
    rw [← e1, ← e2] at x
    exact back k l hk hl k' l' e1 e2 (hids k' l' hk' hl' x)
  · obtain ⟨k', hk', e1⟩ := fwd k hk
    rw [← e1]
    by_cases e2 : k' = n
    · subst e2; rw [addF_n]; exact hw
    · rw [addF_o h e e2]; exact HA.wf k' (by omega)
  · obtain ⟨k', hk', e1⟩ := fwd k hk
    rw [← e1]
    by_cases e2 : k' = n
    · subst e2; rw [addF_n]; show e.turn ≤ _; omega
    · rw [addF_o h e e2]; have := HA.turns k' (by omega); omega
  · obtain ⟨k', hk', e1⟩ := fwd k hk
    obtain ⟨l', hl', e2⟩ := fwd l hl
    rw [← e1, ← e2] at x
    exact back k l hk hl k' l' e1 e2 (hdist k' l' hk' hl' x)
  · have := HA.small; omega
  · constructor
    · rintro (hx | rfl)
      · obtain ⟨l, hl, e1⟩ := (hS x).1 hx
        obtain ⟨k, hk, e2⟩ := (hS5 (addF h n p e l)).1 ⟨l, by omega, rfl⟩
        exact ⟨k, hk, by rw [e2, addF_o h e (by omega)]; exact e1⟩
      · obtain ⟨k, hk, e2⟩ := (hS5 (addF h n p x n)).1 ⟨n, by omega, rfl⟩
        exact ⟨k, hk, by rw [e2, addF_n]⟩
    · rintro ⟨k, hk, rfl⟩
      obtain ⟨l, hl, e1⟩ := fwd k hk
      rw [← e1]
      by_cases e2 : l = n
      · subst e2; rw [addF_n]; exact .inr rfl
      · rw [addF_o h e e2]; exact .inl ((hS _).2 ⟨l, by omega, rfl⟩)
set_option maxRecDepth 100000 in
set_option maxHeartbeats 4000000 in
theorem setA (a n sets : Nat) (F : Nat → Prop) (S : Ent → Prop) (id tm : Int) (hid : (Lit.int .i64 id).wf = true) (hs : sets + 1 ≤ 1000000) (w : World) (H : AgS w a F S n sets) :
    Calls Try.prog 10 #[.pointer (some ⟨a, 0, none⟩), .int .i64 id, .int .i64 tm] w (SetPost a n F S sets id tm w) := by
  have KD := hide' (dropA a n sets F S id hid w H)
  have hkey : keyOf Try.prog 3 (.int .i64 id) = some (.int .i64 id) := keyOf_int_mk Try.underlying3 hid
  have hid' := hide' hid
  clear H hid
  go_enter Try.func10, Try.ntmps10
  go_wp2_with fail
  refine KD.out.mono ?_
  rintro e w1 ⟨b, F1, n1, rfl, hb, ⟨h, rowv, mb, D, HA, hS, hF, hlt⟩, M1, hF1, hnb⟩
  have hno : Hid (∀ k, k < n1 → (h k).2.id ≠ id) := fun k hk e => ((hS (h k).2).2 ⟨k, hk, rfl⟩).2 e
  have c2 := HA.box.c2
  have f2 := HA.box.fz 2
  have B2 := hide' (HA.box.s2 ((sets : Int) + 1))
  have c2' := B2.out.c2
  have hal := HA.box.lt
  have B3 := hide' (B2.out.same (Below.heap_alloc (w1.setCell ⟨a, 2, none⟩ (.int .i64 ((sets : Int) + 1))) (.cells #[.int .i64 id, .int .i64 tm, .int .i64 ((sets : Int) + 1), .int .i64 0] 64) a (by rw [size_setG]; exact hal)))
  have c13 := B3.out.c1
  have E3 : Hid (EntAt ((w1.setCell ⟨a, 2, none⟩ (.int .i64 ((sets : Int) + 1))).alloc (.cells #[.int .i64 id, .int .i64 tm, .int .i64 ((sets : Int) + 1), .int .i64 0] 64)) w1.heap.size ⟨id, tm, (sets : Int) + 1⟩ 0) := by
    have := heap_newG (w1.setCell ⟨a, 2, none⟩ (.int .i64 ((sets : Int) + 1))) (.cells #[.int .i64 id, .int .i64 tm, .int .i64 ((sets : Int) + 1), .int .i64 0] 64)
    rw [size_setG] at this
    exact this
  have M3 : Hid (Mv (fun k => k = a) w1 ((w1.setCell ⟨a, 2, none⟩ (.int .i64 ((sets : Int) + 1))).alloc (.cells #[.int .i64 id, .int .i64 tm, .int .i64 ((sets : Int) + 1), .int .i64 0] 64))) := (Mv.setCell (F := fun k => k = a) (p := ⟨a, 2, none⟩) _ rfl (.inl (ne_other HA.box (by decide)))).trans (Mv.alloc (F := fun _ => False) _) (fun _ _ x => x.elim)
  have hz3 : ((w1.setCell ⟨a, 2, none⟩ (.int .i64 ((sets : Int) + 1))).alloc (.cells #[.int .i64 id, .int .i64 tm, .int .i64 ((sets : Int) + 1), .int .i64 0] 64)).heap.size = w1.heap.size + 1 := by simp [World.setCell]
  have hma := hide' (map_a HA)
  have hmf := hide' (map_fh HA)
  have hm3 := map_same (w' := (w1.setCell ⟨a, 2, none⟩ (.int .i64 ((sets : Int) + 1))).alloc (.cells #[.int .i64 id, .int .i64 tm, .int .i64 ((sets : Int) + 1), .int .i64 0] 64)) HA.map (M3.out.block mb HA.map.lt hma.out)
  have HA' := hide' HA
  have hS' := hide' hS
  have hF' := hide' hF
  have hlt' := hide' hlt
  have M1' := hide' M1
  have hF1' := hide' hF1
  have H3 : Hid (Hp ((w1.setCell ⟨a, 2, none⟩ (.int .i64 ((sets : Int) + 1))).alloc (.cells #[.int .i64 id, .int .i64 tm, .int .i64 ((sets : Int) + 1), .int .i64 0] 64)) n1 h rowv) := ⟨owns_same HA.hp.row fun g hg eg => M3.out.block g hg (fun x => box_far HA.hp HA.box (.inl (by have x2 : g = a := x; rw [← x2]; exact eg))), fun k hk => (HA.hp.ent k hk).same (M3.out.block _ (HA.hp.ent k hk).lt (fun x => box_far HA.hp HA.box (.inr ⟨k, hk, x⟩))), HA.hp.inj⟩
  have hb' := hide' hb
  clear HA hS hF hlt M1 hF1 KD hb
  go_wp2_with (at_mapUpdate; go_loud (refine wpList_mapUpdate_in _ rfl _ _ _ 58 rfl 3 57 lawK Try.underlying58 ptrR mb sets D rfl hm3 (by unfold maxLen; omega) _ _ (.int .i64 id) rfl rfl hkey _ _ (ptrR_mk w1.heap.size) ?_); intro w4 hm4 hturn4)
  have hg4 := hturn4.grown
  have same4 : ∀ k, k < w1.heap.size + 1 → k ≠ mb → w4.heap[k]? = ((w1.setCell ⟨a, 2, none⟩ (.int .i64 ((sets : Int) + 1))).alloc (.cells #[.int .i64 id, .int .i64 tm, .int .i64 ((sets : Int) + 1), .int .i64 0] 64)).heap[k]? := fun k hk hne => hg4.block k (by rw [hz3]; exact hk) (fun x => hne (Option.some.inj x))
  have hmp : mb ≠ w1.heap.size := by have := HA'.out.map.lt; omega
  have hal1 := HA'.out.box.lt
  have B4 := B3.out.same (same4 a (by omega) (fun x => hma.out x.symm))
  have E4 := E3.out.same (same4 w1.heap.size (by omega) hmp.symm)
  have H4 : Hp w4 n1 h rowv := ⟨owns_same H3.out.row fun g hg eg => same4 g (by rw [hz3] at hg; exact hg) (fun x => hmf.out (.inl (by rw [← x]; exact eg))), fun k hk => (H3.out.ent k hk).same (same4 _ (by have := (HA'.out.hp.ent k hk).lt; omega) (fun x => hmf.out (.inr ⟨k, hk, x⟩))), H3.out.inj⟩
  have hz4 : w1.heap.size + 1 ≤ w4.heap.size := by have := hg4.size; rw [hz3] at this; exact this
  refine (pushH a n1 mb w1.heap.size 0 ((sets : Int) + 1) rowv h ⟨id, tm, (sets : Int) + 1⟩ (by have := HA'.out.small; omega) w4 H4 HA'.out.heap B4 E4 (fun k hk x => by have := (HA'.out.hp.ent k hk).lt; omega)).mono ?_
  rintro e w5 ⟨rfl, g, cap, h5, H5, B5, hH5, hS5, hg5, M5⟩
  have M4 : Mv F1 w1 w4 := (M3.out.mono (fun k x => hF'.out k (.inr (.inl x)))).trans (Mv.grown (F := F1) hg4 (fun k ek => by cases ek; exact hF'.out mb (.inr (.inr rfl))) (fun k ek => by cases ek; exact ne_map hm3)) (fun _ _ x => x)
  obtain ⟨F5, hA5, hM5, hF5⟩ := setEnd (e := ⟨id, tm, (sets : Int) + 1⟩) HA'.out hS'.out hF'.out hno.out rfl hid'.out hs rfl M4 (by omega) hm4 ⟨hmf.out, hma.out, hmp⟩ H5 (by have := B5; simpa using this) hH5 hS5 hg5 M5
  have hPost : SetPost a n F S sets id tm w (.returned (.tuple #[])) w5 := by
    refine ⟨rfl, F5, n1 + 1, hA5, M1'.out.trans hM5 (fun k _ x => hF1'.out k x), fun k hk => ?_, b, by omega, hb'.out⟩
    rcases hF5 k hk with x | x
    · exact .inl (hF1'.out k x)
    · exact .inr (Nat.le_trans M1'.out.size x)
  have hPost' := hide' hPost
  clear hPost hA5 hM5 hF5 H5 B5 hH5 hS5 hg5 M5 M4 H4 E4 B4 same4 hg4 hturn4 hm4
  go_wp2
  first | go_end0 | refine bodyPost_ret (results_none rfl _ _ _) rfl ?_
  exact hPost'.out
end Go.Proofs.Ytmjdecgijnodhaa

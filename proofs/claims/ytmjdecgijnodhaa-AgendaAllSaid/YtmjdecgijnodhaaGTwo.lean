/- Two pairs of agendas in an array. -/
import Derived.Test.YtmjdecgijnodhaaGPlays
import Derived.Deep.OwnRows
namespace Go.Proofs.Ytmjdecgijnodhaa
open Go.RowKit Go.Maps
/-- The first n pairs, as they lie. -/
structure TwoA (w W : World) (la B n : Nat) (ps rs : Nat → Nat) (Fs : Nat → Nat → Prop) (vs : Nat → Value) (Ms : Nat → List Ent) (ss : Nat → Nat) : Prop where
  mv : Mv (fun g => g = la ∨ B ≤ g) w W
  hB : B ≤ W.heap.size
  arr : ∃ f, W.rowIs la 27 4 f ∧ ∀ k, k < n → f (k * 2) = .pointer (some ⟨ps k, 0, none⟩) ∧ f (k * 2 + 1) = .pointer (some ⟨rs k, 0, none⟩)
  sa : ∀ k, k < n → Sa W (ps k) (rs k) (Fs k) (vs k) (Ms k) (ss k)
  far : ∀ k, k < n → (∀ g, Fs k g → B ≤ g ∧ g ≠ la) ∧ (B ≤ rs k ∧ rs k ≠ la) ∧ ∀ g, (vs k).ownBlock = some g → B ≤ g ∧ g ≠ la
  sep : ∀ j k, j < n → k < n → j ≠ k → (∀ g, Fs j g → ¬ Fs k g) ∧ ¬ Fs j (rs k) ∧ rs j ≠ rs k ∧ ∀ g, (vs j).ownBlock = some g → ¬ Fs k g ∧ g ≠ rs k ∧ (vs k).ownBlock ≠ some g
theorem ne_rowIs {w : World} {g n : Nat} {t : TypeId} {f : Nat → Value} (h : w.rowIs g t n f) (ht : t ≠ 64) : NE w g := by
  obtain ⟨c, h, _⟩ := h
  exact ne_other h ht
def up {α : Type} (f : Nat → α) (k : Nat) (v : α) : Nat → α := fun i => if i = k then v else f i
theorem up_same {α : Type} (f : Nat → α) (k : Nat) (v : α) : up f k v k = v := if_pos rfl
theorem up_other {α : Type} (f : Nat → α) {k j : Nat} (v : α) (h : j ≠ k) : up f k v j = f j := if_neg h
section
variable {w W W' : World} {la B n : Nat} {ps rs : Nat → Nat} {Fs : Nat → Nat → Prop} {vs : Nat → Value} {Ms : Nat → List Ent} {ss : Nat → Nat}
theorem TwoA.lt (h : TwoA w W la B n ps rs Fs vs Ms ss) : la < W.heap.size := by
  obtain ⟨f, hf, _⟩ := h.arr
  exact hf.lt
theorem TwoA.over (h : TwoA w W la B n ps rs Fs vs Ms ss) (hb : Below W.heap.size W W') : TwoA w W' la B n ps rs Fs vs Ms ss := by
  obtain ⟨f, hf, he⟩ := h.arr
  exact ⟨h.mv.trans (Mv.below (F := fun _ => False) hb) (fun _ _ e => e.elim), Nat.le_trans h.hB hb.size, ⟨f, hf.of_block (hb.block la hf.lt), he⟩, fun k hk => (h.sa k hk).below hb, h.far, h.sep⟩
/-- One pair has played. -/
theorem TwoA.stepX (h : TwoA w W la B n ps rs Fs vs Ms ss) {k : Nat} (hk : k < n) {F' : Nat → Prop} {v' : Value} {M' : List Ent} {s' : Nat} (hS : Sa W' (ps k) (rs k) F' v' M' s') (hN : Nz (Fs k) (rs k) (vs k) F' v' W W') : TwoA w W' la B n ps rs (up Fs k F') (up vs k v') (up Ms k M') (up ss k s') := by
  obtain ⟨hM, hF, hv⟩ := hN
  obtain ⟨f, hf, he⟩ := h.arr
  obtain ⟨q1, q2, q3⟩ := h.far k hk
  have hll := h.lt
  have hBs := h.hB
  have hge : ∀ g, (Fs k g ∨ g = rs k) → B ≤ g ∧ g ≠ la := by
    rintro g (e | rfl)
    · exact q1 g e
    · exact q2
  have hn : ¬ (Fs k la ∨ la = rs k) := fun e => (hge la e).2 rfl
  have hsz := hM.size
  refine ⟨h.mv.trans hM (fun g _ e => .inr (hge g e).1), Nat.le_trans hBs hsz, ⟨f, hf.of_block (hM.block la hf.lt hn), he⟩, fun j hj => ?_, fun j hj => ?_, fun i j hi hj hij => ?_⟩
  · by_cases e : j = k
    · subst e
      rw [up_same, up_same, up_same, up_same]; exact hS
    · rw [up_other _ _ e, up_other _ _ e, up_other _ _ e, up_other _ _ e]
      have hj' := h.sa j hj
      obtain ⟨s1, s2, s3, s4⟩ := h.sep j k hj hk e
      obtain ⟨t1, t2, t3, t4⟩ := h.sep k j hk hj (fun x => e x.symm)
      refine ⟨hj'.ag.mv hM ?_, hj'.rf.mv hM ?_ ?_, hj'.ti, hj'.nr, hj'.nv⟩
      · rintro g hg (e1 | e1)
        · exact s1 g hg e1
        · exact s2 (e1 ▸ hg)
      · rintro (e1 | e1)
        · exact t2 e1
        · exact s3 e1
      · rintro g eg (e1 | e1)
        · exact (s4 g eg).1 e1
        · exact (s4 g eg).2.1 e1
  · by_cases e : j = k
    · subst e
      rw [up_same, up_same]
      refine ⟨fun g hg => ?_, q2, fun g eg => ?_⟩
      · rcases hF g hg with h1 | h1
        · exact q1 g h1
        · exact ⟨by omega, by omega⟩
      · rcases hv g eg with h1 | h1
        · exact q3 g h1
        · exact ⟨by omega, by omega⟩
    · rw [up_other _ _ e, up_other _ _ e]
      exact h.far j hj
  · have lt1 : ∀ {j : Nat}, j < n → ∀ g, Fs j g → g < W.heap.size := fun hj g hg => (h.sa _ hj).ag.ltk hg
    have lt2 : ∀ {j : Nat}, j < n → rs j < W.heap.size := fun hj => (h.sa _ hj).rf.lt
    have lt3 : ∀ {j : Nat}, j < n → ∀ g, (vs j).ownBlock = some g → g < W.heap.size := fun hj g eg => ((h.sa _ hj).rf.row.lt g eg).2
    obtain ⟨s1, s2, s3, s4⟩ := h.sep i j hi hj hij
    by_cases e1 : i = k
    · subst e1
      have e2 : j ≠ i := fun x => hij x.symm
      rw [up_same, up_same, up_other _ _ e2, up_other _ _ e2]
      refine ⟨fun g hg hgj => ?_, fun hg => ?_, s3, fun g eg => ?_⟩
      · rcases hF g hg with h1 | h1
        · exact s1 g h1 hgj
        · have := lt1 hj g hgj; omega
      · rcases hF _ hg with h1 | h1
        · exact s2 h1
        · have := lt2 hj; omega
      · rcases hv g eg with h1 | h1
        · exact s4 g h1
        · exact ⟨fun x => by have := lt1 hj g x; omega, fun x => by have := lt2 hj; omega, fun x => by have := lt3 hj g x; omega⟩
    · by_cases e2 : j = k
      · subst e2
        rw [up_same, up_same, up_other _ _ e1, up_other _ _ e1]
        refine ⟨fun g hg hgj => ?_, s2, s3, fun g eg => ⟨fun hgj => ?_, (s4 g eg).2.1, fun ee => ?_⟩⟩
        · rcases hF g hgj with h1 | h1
          · exact s1 g hg h1
          · have := lt1 hi g hg; omega
        · rcases hF g hgj with h1 | h1
          · exact (s4 g eg).1 h1
          · have := lt3 hi g eg; omega
        · rcases hv g ee with h1 | h1
          · exact (s4 g eg).2.2 h1
          · have := lt3 hi g eg; omega
      · rw [up_other _ _ e1, up_other _ _ e1, up_other _ _ e2, up_other _ _ e2]
        exact ⟨s1, s2, s3, s4⟩
theorem TwoA.step (h : TwoA w W la B n ps rs Fs vs Ms ss) {k : Nat} (hk : k < n) (hA : Aft W W' (ps k) (rs k) (Fs k) (vs k) (ss k)) : ∃ F' v' M' s', TwoA w W' la B n ps rs (up Fs k F') (up vs k v') (up Ms k M') (up ss k s') ∧ s' ≤ ss k + 1 := by
  obtain ⟨F', v', M', s', hS, hN, hs⟩ := hA
  exact ⟨F', v', M', s', h.stepX hk hS hN, hs⟩
/-- A pair is laid into the array. -/
theorem TwoA.add (h : TwoA w W la B n ps rs Fs vs Ms ss) (hn : n < 2) {a r : Nat} {F : Nat → Prop} {W2 : World} (hb2 : Below W.heap.size W W2) (hF : ∀ g, F g → W.heap.size ≤ g) (hr : W.heap.size ≤ r) (hS : Sa W2 a r F (.slice none 0 0) [] 0) :
    TwoA w ((W2.setCell ⟨la, n * 2, none⟩ (.pointer (some ⟨a, 0, none⟩))).setCell ⟨la, n * 2 + 1, none⟩ (.pointer (some ⟨r, 0, none⟩))) la B (n + 1) (up ps n a) (up rs n r) (up Fs n F) (up vs n (.slice none 0 0)) (up Ms n []) (up ss n 0) := by
  have h2 := h.over hb2
  obtain ⟨f, hf, he⟩ := h2.arr
  have hl := h.lt
  have hBs := h.hB
  have hMv : Mv (fun g => g = la) W2 ((W2.setCell ⟨la, n * 2, none⟩ (.pointer (some ⟨a, 0, none⟩))).setCell ⟨la, n * 2 + 1, none⟩ (.pointer (some ⟨r, 0, none⟩))) := (Mv.setCell (F := fun g => g = la) _ rfl (.inl (ne_rowIs hf (by decide)))).trans (Mv.setCell (F := fun g => g = la) _ rfl (.inl ((ne_rowIs hf (by decide)).setCell _ _))) (fun _ _ e => e)
  have hkeep : ∀ {a' r' s' : Nat} {F' : Nat → Prop} {v' : Value} {M' : List Ent}, Sa W2 a' r' F' v' M' s' → (∀ g, F' g → g ≠ la) → r' ≠ la → (∀ g, v'.ownBlock = some g → g ≠ la) → Sa ((W2.setCell ⟨la, n * 2, none⟩ (.pointer (some ⟨a, 0, none⟩))).setCell ⟨la, n * 2 + 1, none⟩ (.pointer (some ⟨r, 0, none⟩))) a' r' F' v' M' s' := fun hs h1 h3 h4 =>
    ⟨hs.ag.mv hMv h1, hs.rf.mv hMv h3 h4, hs.ti, hs.nr, hs.nv⟩
  have hin : ∀ j, j < n + 1 → j ≠ n → j < n := fun j h1 h3 => by omega
  refine ⟨h2.mv.trans hMv (fun _ _ e => .inl e), by simp [World.setCell]; exact h2.hB, ⟨_, (hf.set (n * 2) _).set (n * 2 + 1) _, fun k hk => ?_⟩, fun j hj => ?_, fun j hj => ?_, fun i j hi hj hij => ?_⟩
  · by_cases e : k = n
    · subst e
      simp [up]
    · have hk' := hin k hk e
      have e1 : ¬ (k * 2 = n * 2 + 1) := by omega
      have e2 : ¬ (k * 2 = n * 2) := by omega
      have e3 : ¬ (k * 2 + 1 = n * 2 + 1) := by omega
      have e4 : ¬ (k * 2 + 1 = n * 2) := by omega
      rw [up_other _ _ e, up_other _ _ e]
      simp only [if_neg e1, if_neg e2, if_neg e3, if_neg e4]
      exact he k hk'
  · by_cases e : j = n
    · subst e
      simp only [up_same]
      exact hkeep hS (fun g hg => by have := hF g hg; omega) (by omega) (fun g eg => by cases eg)
    · have hj' := hin j hj e
      obtain ⟨q1, q2, q3⟩ := h.far j hj'
      simp only [up_other _ _ e]
      exact hkeep (h2.sa j hj') (fun g hg => (q1 g hg).2) q2.2 (fun g eg => (q3 g eg).2)
  · by_cases e : j = n
    · subst e
      simp only [up_same]
      exact ⟨fun g hg => by have := hF g hg; exact ⟨by omega, by omega⟩, ⟨by omega, by omega⟩, fun g eg => by cases eg⟩
    · simp only [up_other _ _ e]
      exact h.far j (hin j hj e)
  · by_cases e1 : i = n
    · subst e1
      have e2 : j ≠ i := fun x => hij x.symm
      have hj' := hin j hj e2
      have l1 := fun g (hg : Fs j g) => (h.sa j hj').ag.ltk hg
      have l2 := (h.sa j hj').rf.lt
      simp only [up_same, up_other _ _ e2]
      exact ⟨fun g hg hx => by have := hF g hg; have := l1 g hx; omega, fun hg => by have := hF _ hg; omega, by omega, fun g eg => by cases eg⟩
    · have hi' := hin i hi e1
      by_cases e2 : j = n
      · subst e2
        have l1 := fun g (hg : Fs i g) => (h.sa i hi').ag.ltk hg
        have l2 := (h.sa i hi').rf.lt
        have l3 := fun g (eg : (vs i).ownBlock = some g) => ((h.sa i hi').rf.row.lt g eg).2
        simp only [up_same, up_other _ _ e1]
        exact ⟨fun g hg hx => by have := hF g hx; have := l1 g hg; omega, fun hg => by have := l1 _ hg; omega, by omega, fun g eg => ⟨fun hx => by have := hF g hx; have := l3 g eg; omega, by have := l3 g eg; omega, fun x => by cases x⟩⟩
      · simp only [up_other _ _ e1, up_other _ _ e2]
        exact h.sep i j hi' (hin j hj e2) hij
/-- The array copied elsewhere. -/
theorem TwoA.move (h : TwoA w W la B 2 ps rs Fs vs Ms ss) {w0 : World} {lb B0 : Nat} {f : Nat → Value} (hm : Mv (fun g => g = lb ∨ B0 ≤ g) w0 W') (hW : Mv (fun g => g = lb) W W') (hB0 : B0 ≤ B) (hlb : W'.rowIs lb 27 4 f) (hf : ∀ k, k < 2 → f (k * 2) = .pointer (some ⟨ps k, 0, none⟩) ∧ f (k * 2 + 1) = .pointer (some ⟨rs k, 0, none⟩)) (hne : lb < B ∨ W.heap.size ≤ lb) : TwoA w0 W' lb B0 2 ps rs Fs vs Ms ss := by
  have hl : ∀ k, k < 2 → ∀ g, Fs k g → g ≠ lb := fun k hk g hg e => by
    have := ((h.far k hk).1 g hg).1
    have := (h.sa k hk).ag.ltk hg
    omega
  have hl2 : ∀ k, k < 2 → rs k ≠ lb := fun k hk e => by
    have := (h.far k hk).2.1.1
    have := (h.sa k hk).rf.lt
    omega
  have hl3 : ∀ k, k < 2 → ∀ g, (vs k).ownBlock = some g → g ≠ lb := fun k hk g hg e => by
    have := ((h.far k hk).2.2 g hg).1
    have := ((h.sa k hk).rf.row.lt g hg).2
    omega
  refine ⟨hm, by have := h.hB; have := hW.size; omega, ⟨f, hlb, hf⟩, fun k hk => ?_, fun k hk => ⟨fun g hg => ⟨by have := ((h.far k hk).1 g hg).1; omega, hl k hk g hg⟩, ⟨by have := (h.far k hk).2.1.1; omega, hl2 k hk⟩, fun g eg => ⟨by have := ((h.far k hk).2.2 g eg).1; omega, hl3 k hk g eg⟩⟩, h.sep⟩
  have hs := h.sa k hk
  exact ⟨hs.ag.mv hW (hl k hk), hs.rf.mv hW (hl2 k hk) (hl3 k hk), hs.ti, hs.nr, hs.nv⟩
end
end Go.Proofs.Ytmjdecgijnodhaa

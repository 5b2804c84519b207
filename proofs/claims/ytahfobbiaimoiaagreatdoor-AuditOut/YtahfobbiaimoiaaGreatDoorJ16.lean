/- copyOf: a flow in memory of its own. -/
import Derived.Test.YtahfobbiaimoiaaGreatDoorJ04
import Derived.Test.YtahfobbiaimoiaaGreatDoorJ15
import Derived.Deep.QuietTactic
import Derived.BigQuiet
import Derived.Deep.CutRange
namespace Go.Proofs.YtahfobbiaimoiaaGreatDoor
open Go.RowKit
/-- The boxes while the copy is made. -/
structure Cq (w : World) (nm : ByteArray) (sv rv : Value) (W : World) : Prop where
  bf : W.heap[w.heap.size]? = some (.cells #[.string nm, sv, rv] 25 (0, 0))
  br : W.heap[w.heap.size + 1]? = some (.cells #[.string ⟨#[]⟩, .slice none 0 0, .slice none 0 0] 25 (0, 0))
  bl : Below w.heap.size w W
section
variable {w W W' : World} {nm : ByteArray} {sv rv : Value}
theorem Cq.lt (h : Cq w nm sv rv W) : w.heap.size + 1 < W.heap.size := (Array.getElem?_eq_some_iff.1 h.br).1
theorem Cq.over (h : Cq w nm sv rv W) (hb : Below W.heap.size W W') : Cq w nm sv rv W' := by
  have := h.lt
  exact ⟨(hb.block _ (by omega)).trans h.bf, (hb.block _ (by omega)).trans h.br, h.bl.trans (hb.mono h.bl.size)⟩
theorem Cq.c0 (h : Cq w nm sv rv W) : W.cell? ⟨w.heap.size, 0, none⟩ = some (.string nm) := by simp [World.cell?, h.bf]
theorem Cq.c1 (h : Cq w nm sv rv W) : W.cell? ⟨w.heap.size, 1, none⟩ = some sv := by simp [World.cell?, h.bf]
theorem Cq.c2 (h : Cq w nm sv rv W) : W.cell? ⟨w.heap.size, 2, none⟩ = some rv := by simp [World.cell?, h.bf]
theorem Cq.f (h : Cq w nm sv rv W) (i : Nat) : W.frozen? ⟨w.heap.size, i, none⟩ = false := by simp [World.frozen?, h.bf]
theorem Cq.s1 (h : Cq w nm sv rv W) (x : Value) : Cq w nm x rv (W.setCell ⟨w.heap.size, 1, none⟩ x) :=
  ⟨heap_set_at x h.bf, (Below.heap_setCell W ⟨w.heap.size, 1, none⟩ x (w.heap.size + 1) (show w.heap.size + 1 ≠ w.heap.size by omega)).trans h.br, h.bl.setCell (p := ⟨w.heap.size, 1, none⟩) (Nat.le_refl _) x⟩
theorem Cq.s2 (h : Cq w nm sv rv W) (x : Value) : Cq w nm sv x (W.setCell ⟨w.heap.size, 2, none⟩ x) :=
  ⟨heap_set_at x h.bf, (Below.heap_setCell W ⟨w.heap.size, 2, none⟩ x (w.heap.size + 1) (show w.heap.size + 1 ≠ w.heap.size by omega)).trans h.br, h.bl.setCell (p := ⟨w.heap.size, 2, none⟩) (Nat.le_refl _) x⟩
theorem Cq.far (h : Cq w nm sv rv W) {g i : Nat} (hg : w.heap.size + 2 ≤ g) (x : Value) : Cq w nm sv rv (W.setCell ⟨g, i, none⟩ x) :=
  ⟨(Below.heap_setCell W ⟨g, i, none⟩ x _ (show w.heap.size ≠ g by omega)).trans h.bf, (Below.heap_setCell W ⟨g, i, none⟩ x _ (show w.heap.size + 1 ≠ g by omega)).trans h.br, h.bl.setCell (p := ⟨g, i, none⟩) (show w.heap.size ≤ g by omega) x⟩
theorem CpS.low {w0 : World} {v : Value} {P : List (Sp × Value)} {c b i : Nat} (h : CpS w0 (w.heap.size + 2) v P c W) (hb : b < w.heap.size + 2) (x : Value) : CpS w0 (w.heap.size + 2) v P c (W.setCell ⟨b, i, none⟩ x) := h.kept fun k _ hk => Below.heap_setCell _ _ _ _ (show k ≠ b by omega)
theorem CpR.low {w0 : World} {v : Value} {P : List (Rl × Value)} {c b i : Nat} (h : CpR w0 (w.heap.size + 2) v P c W) (hb : b < w.heap.size + 2) (x : Value) : CpR w0 (w.heap.size + 2) v P c (W.setCell ⟨b, i, none⟩ x) := h.kept fun k _ hk => Below.heap_setCell _ _ _ _ (show k ≠ b by omega)
end
/-- Rules' rows are left where a step's row is written, and the other way about. -/
theorem CpR.apart {w0 W : World} {B g n cap i : Nat} {v x : Value} {xs : List Value} {P : List (Rl × Value)} {c : Nat} (h : CpR w0 B v P c W) (hr : W.ownsRow B 95 3 (.slice (some ⟨g, 0, none⟩) n cap) n xs) : CpR w0 B v P c (W.setCell ⟨g, i, none⟩ x) :=
  ⟨own_same h.row fun k _ e => Below.heap_setCell _ _ _ _ fun e2 => kind_ne2 hr h.row (by decide) (g := g) rfl (e.trans (congrArg some e2)), h.old, fun j p hp hj => own_same (h.new j p hp hj) fun k _ e => Below.heap_setCell _ _ _ _ fun e2 => kind_ne2 hr (h.new j p hp hj) (by decide) (g := g) rfl (e.trans (congrArg some e2))⟩
theorem TwP.apart {W : World} {B g n cap i : Nat} {v x : Value} {xs : List Value} {P : List (Sp × Value)} (h : TwP B W v P) (hr : W.ownsRow B 82 3 (.slice (some ⟨g, 0, none⟩) n cap) n xs) : TwP B (W.setCell ⟨g, i, none⟩ x) v P :=
  ⟨own_same h.row fun k _ e => Below.heap_setCell _ _ _ _ fun e2 => kind_ne2 hr h.row (by decide) (g := g) rfl (e.trans (congrArg some e2)), fun p hp => own_same (h.inner p hp) fun k _ e => Below.heap_setCell _ _ _ _ fun e2 => kind_ne2 hr (h.inner p hp) (by decide) (g := g) rfl (e.trans (congrArg some e2))⟩
theorem TwP.low {w W : World} {v : Value} {P : List (Sp × Value)} {b i : Nat} (h : TwP (w.heap.size + 2) W v P) (hb : b < w.heap.size + 2) (x : Value) : TwP (w.heap.size + 2) (W.setCell ⟨b, i, none⟩ x) v P :=
  ⟨own_same h.row fun k _ e => Below.heap_setCell _ _ _ _ (show k ≠ b by have := own_ge' h.row e; omega), fun p hp => own_same (h.inner p hp) fun k _ e => Below.heap_setCell _ _ _ _ (show k ≠ b by have := own_ge' (h.inner p hp) e; omega)⟩
theorem TwS.low {w W : World} {v : Value} {P : List (Rl × Value)} {b i : Nat} (h : TwS (w.heap.size + 2) W v P) (hb : b < w.heap.size + 2) (x : Value) : TwS (w.heap.size + 2) (W.setCell ⟨b, i, none⟩ x) v P :=
  ⟨own_same h.row fun k _ e => Below.heap_setCell _ _ _ _ (show k ≠ b by have := own_ge' h.row e; omega), fun p hp => own_same (h.inner p hp) fun k _ e => Below.heap_setCell _ _ _ _ (show k ≠ b by have := own_ge' (h.inner p hp) e; omega)⟩
theorem TwP.down {B C : Nat} {W : World} {v : Value} {P : List (Sp × Value)} (h : TwP B W v P) (hc : C ≤ B) : TwP C W v P := ⟨own_down h.row hc, fun p hp => own_down (h.inner p hp) hc⟩
theorem TwS.down {B C : Nat} {W : World} {v : Value} {P : List (Rl × Value)} (h : TwS B W v P) (hc : C ≤ B) : TwS C W v P := ⟨own_down h.row hc, fun p hp => own_down (h.inner p hp) hc⟩
theorem TwP.below {B m : Nat} {w w' : World} {v : Value} {P : List (Sp × Value)} (h : TwP B w v P) (hb : Below m w w') (hm : w.heap.size ≤ m) : TwP B w' v P := ⟨own_below h.row hb hm, fun p hp => own_below (h.inner p hp) hb hm⟩
/-- These values' rows lie in blocks of their own, all below a mark. -/
structure Dv (m : Nat) (vs : List Value) : Prop where
  lt : ∀ u ∈ vs, ∀ g, u.ownBlock = some g → g < m
  ne : ∀ (i j : Nat) (u v : Value) (g : Nat), vs[i]? = some u → vs[j]? = some v → u.ownBlock = some g → v.ownBlock = some g → i = j
theorem Dv.nil (m : Nat) : Dv m [] := ⟨fun _ h => (nomatch h), fun _ _ _ _ _ h => (nomatch h)⟩
theorem Dv.snoc {m m' : Nat} {vs : List Value} {v : Value} (h : Dv m vs) (hm : m ≤ m') (hv : ∀ g, v.ownBlock = some g → m ≤ g ∧ g < m') : Dv m' (vs ++ [v]) := by
  refine ⟨fun u hu g hg => ?_, fun i j u x g hi hj hu hx => ?_⟩
  · rcases List.mem_append.1 hu with hu | hu
    · have := h.lt u hu g hg; omega
    · rw [List.mem_singleton] at hu; subst hu; exact (hv g hg).2
  · have key : ∀ (k : Nat) (y : Value), (vs ++ [v])[k]? = some y → (k < vs.length ∧ vs[k]? = some y) ∨ (k = vs.length ∧ y = v) := fun k y hk => by
      rw [List.getElem?_append] at hk
      split at hk
      · rename_i hlt; exact .inl ⟨hlt, hk⟩
      · rename_i hlt
        have hk1 : k - vs.length = 0 := by
          rcases Nat.eq_zero_or_pos (k - vs.length) with e | e
          · exact e
          · rw [List.getElem?_eq_none (by simp; omega)] at hk; cases hk
        rw [hk1] at hk
        refine .inr ⟨by omega, ?_⟩
        simpa using hk.symm
    rcases key i u hi with ⟨_, hi2⟩ | ⟨hi2, e1⟩ <;> rcases key j x hj with ⟨_, hj2⟩ | ⟨hj2, e2⟩
    · exact h.ne i j u x g hi2 hj2 hu hx
    · rw [e2] at hx; have := h.lt u (List.mem_of_getElem? hi2) g hu; have := (hv g hx).1; omega
    · rw [e1] at hu; have := h.lt x (List.mem_of_getElem? hj2) g hx; have := (hv g hu).1; omega
    · omega
theorem Dv.mono {m m' : Nat} {vs : List Value} (h : Dv m vs) (hm : m ≤ m') : Dv m' vs := ⟨fun u hu g hg => Nat.lt_of_lt_of_le (h.lt u hu g hg) hm, h.ne⟩
theorem take_setP {α : Type} {l : List α} {c : Nat} (x : α) (h : c < l.length) : (l.set c x).take (c + 1) = l.take c ++ [x] := by
  apply List.ext_getElem?
  intro i
  rw [List.getElem?_take, List.getElem?_append, List.length_take, Nat.min_eq_left (Nat.le_of_lt h), List.getElem?_set]
  by_cases hi : i < c
  · rw [if_pos (by omega), if_neg (by omega), if_pos hi, List.getElem?_take, if_pos hi]
  · rw [if_neg hi]
    by_cases e : c = i
    · subst e; simp [h]
    · rw [if_neg (by omega), List.getElem?_eq_none (by simp; omega)]
def CopD (w : World) (F : Fw) (e : Ending) (w' : World) : Prop := ∃ sv rv P1 P2, e = .returned (.agg #[.string F.name, sv, rv]) ∧ P1.map Prod.fst = F.steps ∧ P2.map Prod.fst = F.rules ∧ TwP w.heap.size w' sv P1 ∧ TwS w.heap.size w' rv P2 ∧ Below w.heap.size w w' ∧ Dv w'.heap.size (P1.map Prod.snd ++ P2.map Prod.snd)
def CopR (w : World) (F : Fw) (e : Ending) (w' : World) : Prop := ∃ sv rv P1 P2, e = .returned (.agg #[.string F.name, sv, rv]) ∧ P1.map Prod.fst = F.steps ∧ P2.map Prod.fst = F.rules ∧ TwP w.heap.size w' sv P1 ∧ TwS w.heap.size w' rv P2 ∧ Below w.heap.size w w'
set_option maxRecDepth 100000 in
set_option maxHeartbeats 8000000 in
theorem copyOfDF (F : Fw) (v : Value) (w : World) (hv : flV w v F) (hB : FlB F) : Calls Tryz.prog 60 #[v] w (CopD w F) := by
  obtain ⟨sv, rvv, rfl, hs, hr⟩ := hv
  have hs0 := hide' hs
  have hr0 := hide' hr
  obtain ⟨oa, cap, rfl⟩ := hs.shape
  obtain ⟨ob, cb, rfl⟩ := hr.shape
  have KS : Hid (∀ V, Below w.heap.size w V → Calls Tryz.prog 101 #[.slice oa F.steps.length cap] V (ClSp w V F.steps)) := fun V hV => cloneSp F.steps _ w V hs0.out hV hB.sl
  have KR : Hid (∀ V, Below w.heap.size w V → Calls Tryz.prog 102 #[.slice ob F.rules.length cb] V (ClRl w V F.rules)) := fun V hV => cloneRl F.rules _ w V hr0.out hV hB.rl
  have KI : Hid (∀ V u l, RowI w u l → l.length ≤ 30 → Below w.heap.size w V → Calls Tryz.prog 103 #[u] V fun e w' => ∃ v', e = .returned v' ∧ w'.ownsRow V.heap.size 3 1 v' l.length (cellsI l) ∧ Below V.heap.size V w') := fun V u l hu hl hV => clone l u V (hu.below hV (Nat.le_refl _)) (by omega)
  have hA1 : Hid (∀ s ∈ F.steps, s.after.length ≤ 30) := fun s h => (hB.st s h).1
  have hA2 : Hid (∀ r ∈ F.rules, r.steps.length ≤ 30) := hB.ru
  have hL1 := hB.sl
  have hL2 := hB.rl
  have hFin : Hid (∀ sv rv P1 P2 W, P1.map Prod.fst = F.steps → P2.map Prod.fst = F.rules → TwP w.heap.size W sv P1 → TwS w.heap.size W rv P2 → Below w.heap.size w W → Dv W.heap.size (P1.map Prod.snd ++ P2.map Prod.snd) → CopD w F (.returned (.agg #[.string F.name, sv, rv])) W) := fun sv rv P1 P2 W h1 h2 h3 h4 h5 h6 => ⟨sv, rv, P1, P2, rfl, h1, h2, h3, h4, h5, h6⟩
  clear hs hr hs0 hr0 hB
  generalize CopD w F = QQ at *
  generalize F.name = nm at *
  generalize F.steps = SL at *
  generalize F.rules = RL at *
  have q1 : Hid (Cq w nm (.slice oa SL.length cap) (.slice ob RL.length cb) ((w.alloc (.cells #[.string nm, .slice oa SL.length cap, .slice ob RL.length cb] 25)).alloc (.cells #[.string ⟨#[]⟩, .slice none 0 0, .slice none 0 0] 25))) := ⟨al_fst w _ _, al_snd w _ _, ((Below.refl _ w).alloc (Nat.le_refl _) _).alloc (by simp) _⟩
  go_enter Tryz.func60, Tryz.ntmps60
  go_upto_region 1 with fail
  generalize (w.alloc (.cells #[.string nm, .slice oa SL.length cap, .slice ob RL.length cb] 25)).alloc (.cells #[.string ⟨#[]⟩, .slice none 0 0, .slice none 0 0] 25) = W1 at *
  go_cut [] from 5 to 12 (fun wx => ∃ o1 c1 o2 c2 P1 P2, Hid (P1.map Prod.fst = SL) ∧ Hid (P2.map Prod.fst = RL) ∧ Hid (Cq w nm (.slice o1 SL.length c1) (.slice o2 RL.length c2) wx) ∧ Hid (CpS w (w.heap.size + 2) (.slice o1 SL.length c1) P1 0 wx) ∧ Hid (CpR w (w.heap.size + 2) (.slice o2 RL.length c2) P2 0 wx))
  case first =>
    clear KI hA1 hA2 hFin
    have q1d := hide' (q1.out.over (Below.refl _ _).drew)
    have hsz := q1.out.lt
    have x1 := q1d.out.c1
    have x2 := q1d.out.c2
    refine wp_region_held_drew (S := (fun _ => True)) (by kernel_rfl) ?_ (fun hHeld => ?_)
    · trivial
    refine wpAnyH_take (i := 0) (oi := { dst := some 5, op := Op.fieldAddr 25 (Operand.tmp 1) 1, type := 0, pos := "ask.go:76", after := #[], guard := none }) (v := ?_) rfl (by kernel_rfl) (by kernel_rfl) (by kernel_rfl) (fun _ _ _ h => h) (Or.inl ⟨by rfl, ?_⟩) (by assumption) ?_
    rotate_left
    · intro w hSw; (try dsimp only at hSw); go_simp <;> with_reducible rfl
    simp only [Act.put, List.setIfInBounds_toArray, List.set_cons_zero, List.set_cons_succ]
    refine wpAnyH_take (i := 3) (oi := { dst := some 8, op := Op.fieldAddr 25 (Operand.tmp 1) 2, type := 0, pos := "ask.go:76", after := #[], guard := none }) (v := ?_) rfl (by kernel_rfl) (by kernel_rfl) (by kernel_rfl) (fun _ _ _ h => h) (Or.inl ⟨by rfl, ?_⟩) (by assumption) ?_
    rotate_left
    · intro w hSw; (try dsimp only at hSw); go_simp <;> with_reducible rfl
    simp only [Act.put, List.setIfInBounds_toArray, List.set_cons_zero, List.set_cons_succ]
    refine wpAnyH_ready (rs := [1, 4]) (by kernel_rfl) (by simp) ?_
    refine AllReadyH.cons (o := { dst := some 6, op := Op.load 22 (Operand.tmp 5), type := 22, pos := "ask.go:76", after := #[{ on := 0, ground := Ground.data }], guard := none }) rfl (fun K hK => ?_) ?_
    · skip
      go_simp
      refine hK.out _ _ ?_ (fun hHeld => ?_)
      · trivial
      clear hK K
      try simp only [Act.put, List.setIfInBounds_toArray, List.set_cons_zero, List.set_cons_succ]
      refine wpAnyH_ready (rs := [2, 4]) (by kernel_rfl) (by simp) ?_
      refine AllReadyH.cons (o := { dst := some 7, op := Op.call { callee := Callee.value (Operand.func 101), args := #[Operand.tmp 6], argTypes := #[22] }, type := 22, pos := "ask.go:76", after := #[{ on := 1, ground := Ground.data }], guard := none }) rfl (fun K hK => ?_) ?_
      · skip
        go_simp
        refine (KS.out _ q1d.out.bl).mono ?_; rintro e w3 ⟨v3, P1, rfl, hP1, hO1, hR1, hb3⟩; have hl1 : P1.length = SL.length := (by rw [← hP1, List.length_map]); rw [hl1] at hR1; obtain ⟨o1, c1, rfl⟩ := own_shp hR1; have q3 := hide' (q1d.out.over hb3); have y2 := q3.out.c2; have hP1' := hide' hP1; have hS3 : Hid (CpS w (w.heap.size + 2) (.slice o1 SL.length c1) P1 0 w3) := ⟨by rw [hl1]; exact own_down hR1 (show w.heap.size + 2 ≤ W1.drew.heap.size from hsz), fun i p hp _ => hO1 p (List.mem_of_getElem? hp), fun i p _ hi => absurd hi (Nat.not_lt_zero _)⟩; clear hP1 hO1 hR1 hl1; (try dsimp only)
        refine hK.out _ _ ?_ (fun hHeld => ?_)
        · trivial
        clear hK K
        try simp only [Act.put, List.setIfInBounds_toArray, List.set_cons_zero, List.set_cons_succ]
        refine wpAnyH_ready (rs := [4]) (by kernel_rfl) (by simp) ?_
        refine AllReadyH.cons (o := { dst := some 9, op := Op.load 23 (Operand.tmp 8), type := 23, pos := "ask.go:76", after := #[{ on := 3, ground := Ground.data }], guard := none }) rfl (fun K hK => ?_) AllReadyH.nil
        go_simp
        refine hK.out _ _ ?_ (fun hHeld => ?_)
        · trivial
        clear hK K
        try simp only [Act.put, List.setIfInBounds_toArray, List.set_cons_zero, List.set_cons_succ]
        refine wpAnyH_take (i := 6) (oi := { dst := some 11, op := Op.fieldAddr 25 (Operand.tmp 1) 1, type := 0, pos := "ask.go:76", after := #[{ on := 0, ground := Ground.phase }, { on := 1, ground := Ground.phase }, { on := 2, ground := Ground.phase }, { on := 3, ground := Ground.phase }, { on := 4, ground := Ground.phase }, { on := 5, ground := Ground.textOnly Departure.lateStoresUnsure }], guard := none }) (v := ?_) rfl (by kernel_rfl) (by kernel_rfl) (by kernel_rfl) (fun _ _ _ h => h) (Or.inl ⟨by rfl, ?_⟩) (by assumption) ?_
        rotate_left
        · intro w hSw; (try dsimp only at hSw); go_simp <;> with_reducible rfl
        simp only [Act.put, List.setIfInBounds_toArray, List.set_cons_zero, List.set_cons_succ]
        refine wpAnyH_ready (rs := [5]) (by kernel_rfl) (by simp) ?_
        refine AllReadyH.cons (o := { dst := some 10, op := Op.call { callee := Callee.value (Operand.func 102), args := #[Operand.tmp 9], argTypes := #[23] }, type := 23, pos := "ask.go:76", after := #[{ on := 4, ground := Ground.data }, { on := 2, ground := Ground.chain }], guard := none }) rfl (fun K hK => ?_) AllReadyH.nil
        go_simp
        refine (KR.out _ q3.out.bl).mono ?_; rintro e w4 ⟨v4, P2, rfl, hP2, hO2, hR2, hb4⟩; have hl2 : P2.length = RL.length := (by rw [← hP2, List.length_map]); rw [hl2] at hR2; obtain ⟨o2, c2, rfl⟩ := own_shp hR2; have q4 := hide' (q3.out.over hb4); have hS4 := hide' (hS3.out.over hb4); have hP2' := hide' hP2; have hR4 : Hid (CpR w (w.heap.size + 2) (.slice o2 RL.length c2) P2 0 w4) := ⟨by rw [hl2]; exact own_down hR2 q3.out.lt, fun i p hp _ => hO2 p (List.mem_of_getElem? hp), fun i p _ hi => absurd hi (Nat.not_lt_zero _)⟩; have z1 := q4.out.c1; have f1 := q4.out.f 1; have q5 := hide' (q4.out.s1 (.slice o1 SL.length c1)); have z2 := q5.out.c2; have f2 := q5.out.f 2; have q6 := hide' (q5.out.s2 (.slice o2 RL.length c2)); have hS6 := hide' ((hS4.out.low (b := w.heap.size) (i := 1) (by omega) (.slice o1 SL.length c1)).low (b := w.heap.size) (i := 2) (by omega) (.slice o2 RL.length c2)); have hR6 := hide' ((hR4.out.low (b := w.heap.size) (i := 1) (by omega) (.slice o1 SL.length c1)).low (b := w.heap.size) (i := 2) (by omega) (.slice o2 RL.length c2)); clear hP2 hO2 hR2 hl2; (try dsimp only)
        refine hK.out _ _ ?_ (fun hHeld => ?_)
        · trivial
        clear hK K
        try simp only [Act.put, List.setIfInBounds_toArray, List.set_cons_zero, List.set_cons_succ]
        refine wpAnyH_ready (rs := [7]) (by kernel_rfl) (by simp) ?_
        refine AllReadyH.cons (o := { dst := none, op := Op.store 22 (Operand.tmp 11) (Operand.tmp 7), type := 0, pos := "ask.go:76", after := #[{ on := 6, ground := Ground.data }, { on := 2, ground := Ground.data }, { on := 5, ground := Ground.chain }, { on := 0, ground := Ground.phase }, { on := 1, ground := Ground.phase }, { on := 2, ground := Ground.phase }, { on := 3, ground := Ground.phase }, { on := 4, ground := Ground.phase }, { on := 5, ground := Ground.textOnly Departure.lateStoresUnsure }], guard := none }) rfl (fun K hK => ?_) AllReadyH.nil
        go_simp
        refine hK.out _ _ ?_ (fun hHeld => ?_)
        · trivial
        clear hK K
        try simp only [Act.put, List.setIfInBounds_toArray, List.set_cons_zero, List.set_cons_succ]
        refine wpAnyH_take (i := 8) (oi := { dst := some 12, op := Op.fieldAddr 25 (Operand.tmp 1) 2, type := 0, pos := "ask.go:76", after := #[{ on := 0, ground := Ground.phase }, { on := 1, ground := Ground.phase }, { on := 2, ground := Ground.phase }, { on := 3, ground := Ground.phase }, { on := 4, ground := Ground.phase }, { on := 5, ground := Ground.phase }, { on := 6, ground := Ground.phase }, { on := 7, ground := Ground.phase }], guard := none }) (v := ?_) rfl (by kernel_rfl) (by kernel_rfl) (by kernel_rfl) (fun _ _ _ h => h) (Or.inl ⟨by rfl, ?_⟩) (by assumption) ?_
        rotate_left
        · intro w hSw; (try dsimp only at hSw); go_simp <;> with_reducible rfl
        simp only [Act.put, List.setIfInBounds_toArray, List.set_cons_zero, List.set_cons_succ]
        refine wpAnyH_ready (rs := [9]) (by kernel_rfl) (by simp) ?_
        refine AllReadyH.cons (o := { dst := none, op := Op.store 23 (Operand.tmp 12) (Operand.tmp 10), type := 0, pos := "ask.go:76", after := #[{ on := 8, ground := Ground.data }, { on := 5, ground := Ground.data }, { on := 7, ground := Ground.chain }, { on := 0, ground := Ground.phase }, { on := 1, ground := Ground.phase }, { on := 2, ground := Ground.phase }, { on := 3, ground := Ground.phase }, { on := 4, ground := Ground.phase }, { on := 5, ground := Ground.phase }, { on := 6, ground := Ground.phase }, { on := 7, ground := Ground.phase }], guard := none }) rfl (fun K hK => ?_) AllReadyH.nil
        go_simp
        refine hK.out _ _ ?_ (fun hHeld => ?_)
        · trivial
        clear hK K
        try simp only [Act.put, List.setIfInBounds_toArray, List.set_cons_zero, List.set_cons_succ]
        refine wpAnyH_done (by kernel_rfl) ?_ _
        skip
        go_wp2
        go_meet
        exact ⟨o1, c1, o2, c2, P1, P2, hP1', hP2', q6, hS6, hR6⟩
      refine AllReadyH.cons (o := { dst := some 9, op := Op.load 23 (Operand.tmp 8), type := 23, pos := "ask.go:76", after := #[{ on := 3, ground := Ground.data }], guard := none }) rfl (fun K hK => ?_) AllReadyH.nil
      go_simp
      refine hK.out _ _ ?_ (fun hHeld => ?_)
      · trivial
      clear hK K
      try simp only [Act.put, List.setIfInBounds_toArray, List.set_cons_zero, List.set_cons_succ]
      refine wpAnyH_ready (rs := [2]) (by kernel_rfl) (by simp) ?_
      refine AllReadyH.cons (o := { dst := some 7, op := Op.call { callee := Callee.value (Operand.func 101), args := #[Operand.tmp 6], argTypes := #[22] }, type := 22, pos := "ask.go:76", after := #[{ on := 1, ground := Ground.data }], guard := none }) rfl (fun K hK => ?_) AllReadyH.nil
      go_simp
      refine (KS.out _ q1d.out.bl).mono ?_; rintro e w3 ⟨v3, P1, rfl, hP1, hO1, hR1, hb3⟩; have hl1 : P1.length = SL.length := (by rw [← hP1, List.length_map]); rw [hl1] at hR1; obtain ⟨o1, c1, rfl⟩ := own_shp hR1; have q3 := hide' (q1d.out.over hb3); have y2 := q3.out.c2; have hP1' := hide' hP1; have hS3 : Hid (CpS w (w.heap.size + 2) (.slice o1 SL.length c1) P1 0 w3) := ⟨by rw [hl1]; exact own_down hR1 (show w.heap.size + 2 ≤ W1.drew.heap.size from hsz), fun i p hp _ => hO1 p (List.mem_of_getElem? hp), fun i p _ hi => absurd hi (Nat.not_lt_zero _)⟩; clear hP1 hO1 hR1 hl1; (try dsimp only)
      refine hK.out _ _ ?_ (fun hHeld => ?_)
      · trivial
      clear hK K
      try simp only [Act.put, List.setIfInBounds_toArray, List.set_cons_zero, List.set_cons_succ]
      refine wpAnyH_take (i := 6) (oi := { dst := some 11, op := Op.fieldAddr 25 (Operand.tmp 1) 1, type := 0, pos := "ask.go:76", after := #[{ on := 0, ground := Ground.phase }, { on := 1, ground := Ground.phase }, { on := 2, ground := Ground.phase }, { on := 3, ground := Ground.phase }, { on := 4, ground := Ground.phase }, { on := 5, ground := Ground.textOnly Departure.lateStoresUnsure }], guard := none }) (v := ?_) rfl (by kernel_rfl) (by kernel_rfl) (by kernel_rfl) (fun _ _ _ h => h) (Or.inl ⟨by rfl, ?_⟩) (by assumption) ?_
      rotate_left
      · intro w hSw; (try dsimp only at hSw); go_simp <;> with_reducible rfl
      simp only [Act.put, List.setIfInBounds_toArray, List.set_cons_zero, List.set_cons_succ]
      refine wpAnyH_ready (rs := [5]) (by kernel_rfl) (by simp) ?_
      refine AllReadyH.cons (o := { dst := some 10, op := Op.call { callee := Callee.value (Operand.func 102), args := #[Operand.tmp 9], argTypes := #[23] }, type := 23, pos := "ask.go:76", after := #[{ on := 4, ground := Ground.data }, { on := 2, ground := Ground.chain }], guard := none }) rfl (fun K hK => ?_) AllReadyH.nil
      go_simp
      refine (KR.out _ q3.out.bl).mono ?_; rintro e w4 ⟨v4, P2, rfl, hP2, hO2, hR2, hb4⟩; have hl2 : P2.length = RL.length := (by rw [← hP2, List.length_map]); rw [hl2] at hR2; obtain ⟨o2, c2, rfl⟩ := own_shp hR2; have q4 := hide' (q3.out.over hb4); have hS4 := hide' (hS3.out.over hb4); have hP2' := hide' hP2; have hR4 : Hid (CpR w (w.heap.size + 2) (.slice o2 RL.length c2) P2 0 w4) := ⟨by rw [hl2]; exact own_down hR2 q3.out.lt, fun i p hp _ => hO2 p (List.mem_of_getElem? hp), fun i p _ hi => absurd hi (Nat.not_lt_zero _)⟩; have z1 := q4.out.c1; have f1 := q4.out.f 1; have q5 := hide' (q4.out.s1 (.slice o1 SL.length c1)); have z2 := q5.out.c2; have f2 := q5.out.f 2; have q6 := hide' (q5.out.s2 (.slice o2 RL.length c2)); have hS6 := hide' ((hS4.out.low (b := w.heap.size) (i := 1) (by omega) (.slice o1 SL.length c1)).low (b := w.heap.size) (i := 2) (by omega) (.slice o2 RL.length c2)); have hR6 := hide' ((hR4.out.low (b := w.heap.size) (i := 1) (by omega) (.slice o1 SL.length c1)).low (b := w.heap.size) (i := 2) (by omega) (.slice o2 RL.length c2)); clear hP2 hO2 hR2 hl2; (try dsimp only)
      refine hK.out _ _ ?_ (fun hHeld => ?_)
      · trivial
      clear hK K
      try simp only [Act.put, List.setIfInBounds_toArray, List.set_cons_zero, List.set_cons_succ]
      refine wpAnyH_ready (rs := [7]) (by kernel_rfl) (by simp) ?_
      refine AllReadyH.cons (o := { dst := none, op := Op.store 22 (Operand.tmp 11) (Operand.tmp 7), type := 0, pos := "ask.go:76", after := #[{ on := 6, ground := Ground.data }, { on := 2, ground := Ground.data }, { on := 5, ground := Ground.chain }, { on := 0, ground := Ground.phase }, { on := 1, ground := Ground.phase }, { on := 2, ground := Ground.phase }, { on := 3, ground := Ground.phase }, { on := 4, ground := Ground.phase }, { on := 5, ground := Ground.textOnly Departure.lateStoresUnsure }], guard := none }) rfl (fun K hK => ?_) AllReadyH.nil
      go_simp
      refine hK.out _ _ ?_ (fun hHeld => ?_)
      · trivial
      clear hK K
      try simp only [Act.put, List.setIfInBounds_toArray, List.set_cons_zero, List.set_cons_succ]
      refine wpAnyH_take (i := 8) (oi := { dst := some 12, op := Op.fieldAddr 25 (Operand.tmp 1) 2, type := 0, pos := "ask.go:76", after := #[{ on := 0, ground := Ground.phase }, { on := 1, ground := Ground.phase }, { on := 2, ground := Ground.phase }, { on := 3, ground := Ground.phase }, { on := 4, ground := Ground.phase }, { on := 5, ground := Ground.phase }, { on := 6, ground := Ground.phase }, { on := 7, ground := Ground.phase }], guard := none }) (v := ?_) rfl (by kernel_rfl) (by kernel_rfl) (by kernel_rfl) (fun _ _ _ h => h) (Or.inl ⟨by rfl, ?_⟩) (by assumption) ?_
      rotate_left
      · intro w hSw; (try dsimp only at hSw); go_simp <;> with_reducible rfl
      simp only [Act.put, List.setIfInBounds_toArray, List.set_cons_zero, List.set_cons_succ]
      refine wpAnyH_ready (rs := [9]) (by kernel_rfl) (by simp) ?_
      refine AllReadyH.cons (o := { dst := none, op := Op.store 23 (Operand.tmp 12) (Operand.tmp 10), type := 0, pos := "ask.go:76", after := #[{ on := 8, ground := Ground.data }, { on := 5, ground := Ground.data }, { on := 7, ground := Ground.chain }, { on := 0, ground := Ground.phase }, { on := 1, ground := Ground.phase }, { on := 2, ground := Ground.phase }, { on := 3, ground := Ground.phase }, { on := 4, ground := Ground.phase }, { on := 5, ground := Ground.phase }, { on := 6, ground := Ground.phase }, { on := 7, ground := Ground.phase }], guard := none }) rfl (fun K hK => ?_) AllReadyH.nil
      go_simp
      refine hK.out _ _ ?_ (fun hHeld => ?_)
      · trivial
      clear hK K
      try simp only [Act.put, List.setIfInBounds_toArray, List.set_cons_zero, List.set_cons_succ]
      refine wpAnyH_done (by kernel_rfl) ?_ _
      skip
      go_wp2
      go_meet
      exact ⟨o1, c1, o2, c2, P1, P2, hP1', hP2', q6, hS6, hR6⟩
    refine AllReadyH.cons (o := { dst := some 9, op := Op.load 23 (Operand.tmp 8), type := 23, pos := "ask.go:76", after := #[{ on := 3, ground := Ground.data }], guard := none }) rfl (fun K hK => ?_) AllReadyH.nil
    go_simp
    refine hK.out _ _ ?_ (fun hHeld => ?_)
    · trivial
    clear hK K
    try simp only [Act.put, List.setIfInBounds_toArray, List.set_cons_zero, List.set_cons_succ]
    refine wpAnyH_ready (rs := [1]) (by kernel_rfl) (by simp) ?_
    refine AllReadyH.cons (o := { dst := some 6, op := Op.load 22 (Operand.tmp 5), type := 22, pos := "ask.go:76", after := #[{ on := 0, ground := Ground.data }], guard := none }) rfl (fun K hK => ?_) AllReadyH.nil
    go_simp
    refine hK.out _ _ ?_ (fun hHeld => ?_)
    · trivial
    clear hK K
    try simp only [Act.put, List.setIfInBounds_toArray, List.set_cons_zero, List.set_cons_succ]
    refine wpAnyH_ready (rs := [2]) (by kernel_rfl) (by simp) ?_
    refine AllReadyH.cons (o := { dst := some 7, op := Op.call { callee := Callee.value (Operand.func 101), args := #[Operand.tmp 6], argTypes := #[22] }, type := 22, pos := "ask.go:76", after := #[{ on := 1, ground := Ground.data }], guard := none }) rfl (fun K hK => ?_) AllReadyH.nil
    go_simp
    refine (KS.out _ q1d.out.bl).mono ?_; rintro e w3 ⟨v3, P1, rfl, hP1, hO1, hR1, hb3⟩; have hl1 : P1.length = SL.length := (by rw [← hP1, List.length_map]); rw [hl1] at hR1; obtain ⟨o1, c1, rfl⟩ := own_shp hR1; have q3 := hide' (q1d.out.over hb3); have y2 := q3.out.c2; have hP1' := hide' hP1; have hS3 : Hid (CpS w (w.heap.size + 2) (.slice o1 SL.length c1) P1 0 w3) := ⟨by rw [hl1]; exact own_down hR1 (show w.heap.size + 2 ≤ W1.drew.heap.size from hsz), fun i p hp _ => hO1 p (List.mem_of_getElem? hp), fun i p _ hi => absurd hi (Nat.not_lt_zero _)⟩; clear hP1 hO1 hR1 hl1; (try dsimp only)
    refine hK.out _ _ ?_ (fun hHeld => ?_)
    · trivial
    clear hK K
    try simp only [Act.put, List.setIfInBounds_toArray, List.set_cons_zero, List.set_cons_succ]
    refine wpAnyH_take (i := 6) (oi := { dst := some 11, op := Op.fieldAddr 25 (Operand.tmp 1) 1, type := 0, pos := "ask.go:76", after := #[{ on := 0, ground := Ground.phase }, { on := 1, ground := Ground.phase }, { on := 2, ground := Ground.phase }, { on := 3, ground := Ground.phase }, { on := 4, ground := Ground.phase }, { on := 5, ground := Ground.textOnly Departure.lateStoresUnsure }], guard := none }) (v := ?_) rfl (by kernel_rfl) (by kernel_rfl) (by kernel_rfl) (fun _ _ _ h => h) (Or.inl ⟨by rfl, ?_⟩) (by assumption) ?_
    rotate_left
    · intro w hSw; (try dsimp only at hSw); go_simp <;> with_reducible rfl
    simp only [Act.put, List.setIfInBounds_toArray, List.set_cons_zero, List.set_cons_succ]
    refine wpAnyH_ready (rs := [5]) (by kernel_rfl) (by simp) ?_
    refine AllReadyH.cons (o := { dst := some 10, op := Op.call { callee := Callee.value (Operand.func 102), args := #[Operand.tmp 9], argTypes := #[23] }, type := 23, pos := "ask.go:76", after := #[{ on := 4, ground := Ground.data }, { on := 2, ground := Ground.chain }], guard := none }) rfl (fun K hK => ?_) AllReadyH.nil
    go_simp
    refine (KR.out _ q3.out.bl).mono ?_; rintro e w4 ⟨v4, P2, rfl, hP2, hO2, hR2, hb4⟩; have hl2 : P2.length = RL.length := (by rw [← hP2, List.length_map]); rw [hl2] at hR2; obtain ⟨o2, c2, rfl⟩ := own_shp hR2; have q4 := hide' (q3.out.over hb4); have hS4 := hide' (hS3.out.over hb4); have hP2' := hide' hP2; have hR4 : Hid (CpR w (w.heap.size + 2) (.slice o2 RL.length c2) P2 0 w4) := ⟨by rw [hl2]; exact own_down hR2 q3.out.lt, fun i p hp _ => hO2 p (List.mem_of_getElem? hp), fun i p _ hi => absurd hi (Nat.not_lt_zero _)⟩; have z1 := q4.out.c1; have f1 := q4.out.f 1; have q5 := hide' (q4.out.s1 (.slice o1 SL.length c1)); have z2 := q5.out.c2; have f2 := q5.out.f 2; have q6 := hide' (q5.out.s2 (.slice o2 RL.length c2)); have hS6 := hide' ((hS4.out.low (b := w.heap.size) (i := 1) (by omega) (.slice o1 SL.length c1)).low (b := w.heap.size) (i := 2) (by omega) (.slice o2 RL.length c2)); have hR6 := hide' ((hR4.out.low (b := w.heap.size) (i := 1) (by omega) (.slice o1 SL.length c1)).low (b := w.heap.size) (i := 2) (by omega) (.slice o2 RL.length c2)); clear hP2 hO2 hR2 hl2; (try dsimp only)
    refine hK.out _ _ ?_ (fun hHeld => ?_)
    · trivial
    clear hK K
    try simp only [Act.put, List.setIfInBounds_toArray, List.set_cons_zero, List.set_cons_succ]
    refine wpAnyH_ready (rs := [7]) (by kernel_rfl) (by simp) ?_
    refine AllReadyH.cons (o := { dst := none, op := Op.store 22 (Operand.tmp 11) (Operand.tmp 7), type := 0, pos := "ask.go:76", after := #[{ on := 6, ground := Ground.data }, { on := 2, ground := Ground.data }, { on := 5, ground := Ground.chain }, { on := 0, ground := Ground.phase }, { on := 1, ground := Ground.phase }, { on := 2, ground := Ground.phase }, { on := 3, ground := Ground.phase }, { on := 4, ground := Ground.phase }, { on := 5, ground := Ground.textOnly Departure.lateStoresUnsure }], guard := none }) rfl (fun K hK => ?_) AllReadyH.nil
    go_simp
    refine hK.out _ _ ?_ (fun hHeld => ?_)
    · trivial
    clear hK K
    try simp only [Act.put, List.setIfInBounds_toArray, List.set_cons_zero, List.set_cons_succ]
    refine wpAnyH_take (i := 8) (oi := { dst := some 12, op := Op.fieldAddr 25 (Operand.tmp 1) 2, type := 0, pos := "ask.go:76", after := #[{ on := 0, ground := Ground.phase }, { on := 1, ground := Ground.phase }, { on := 2, ground := Ground.phase }, { on := 3, ground := Ground.phase }, { on := 4, ground := Ground.phase }, { on := 5, ground := Ground.phase }, { on := 6, ground := Ground.phase }, { on := 7, ground := Ground.phase }], guard := none }) (v := ?_) rfl (by kernel_rfl) (by kernel_rfl) (by kernel_rfl) (fun _ _ _ h => h) (Or.inl ⟨by rfl, ?_⟩) (by assumption) ?_
    rotate_left
    · intro w hSw; (try dsimp only at hSw); go_simp <;> with_reducible rfl
    simp only [Act.put, List.setIfInBounds_toArray, List.set_cons_zero, List.set_cons_succ]
    refine wpAnyH_ready (rs := [9]) (by kernel_rfl) (by simp) ?_
    refine AllReadyH.cons (o := { dst := none, op := Op.store 23 (Operand.tmp 12) (Operand.tmp 10), type := 0, pos := "ask.go:76", after := #[{ on := 8, ground := Ground.data }, { on := 5, ground := Ground.data }, { on := 7, ground := Ground.chain }, { on := 0, ground := Ground.phase }, { on := 1, ground := Ground.phase }, { on := 2, ground := Ground.phase }, { on := 3, ground := Ground.phase }, { on := 4, ground := Ground.phase }, { on := 5, ground := Ground.phase }, { on := 6, ground := Ground.phase }, { on := 7, ground := Ground.phase }], guard := none }) rfl (fun K hK => ?_) AllReadyH.nil
    go_simp
    refine hK.out _ _ ?_ (fun hHeld => ?_)
    · trivial
    clear hK K
    try simp only [Act.put, List.setIfInBounds_toArray, List.set_cons_zero, List.set_cons_succ]
    refine wpAnyH_done (by kernel_rfl) ?_ _
    skip
    go_wp2
    go_meet
    exact ⟨o1, c1, o2, c2, P1, P2, hP1', hP2', q6, hS6, hR6⟩
  case rest =>
  clear q1 KS KR
  obtain ⟨o1, c1, o2, c2, P1, P2, hP1, hP2, hq, hS, hR⟩ := hcut
  have x1 := hq.out.c1
  go_wp2
  go_loopw [16] (fun k wr => ∃ (c : Nat) (P : List (Sp × Value)), c ≤ SL.length ∧ k = .int .i64 c ∧ Hid (P.map Prod.fst = SL) ∧ Hid (Cq w nm (.slice o1 SL.length c1) (.slice o2 RL.length c2) wr) ∧ Hid (CpS w (w.heap.size + 2) (.slice o1 SL.length c1) P c wr) ∧ Hid (CpR w (w.heap.size + 2) (.slice o2 RL.length c2) P2 0 wr) ∧ Hid (Dv wr.heap.size ((P.take c).map Prod.snd))) (fun k _ => ((SL.length : Int) - intOf k).toNat)
  case atStart => exact ⟨0, P1, Nat.zero_le _, rfl, hP1, hq, hS, hR, Dv.nil _⟩
  case round =>
    clear hP1 hq hS hR x1
    obtain ⟨c, P, hcl, rfl, hP1, hq, hS, hR, hDv⟩ := hrel
    have hnP : SL.length = P.length := by rw [← hP1.out, List.length_map]
    have HnP := hide' hnP
    by_cases hlt : c < SL.length
    · obtain ⟨⟨ps, pv⟩, hp⟩ : ∃ x, P[c]? = some x := ⟨_, List.getElem?_eq_getElem (by omega)⟩
      obtain ⟨g1, cap1, e1, hge, _⟩ := hS.out.row.form (by omega)
      obtain rfl : o1 = some ⟨g1, 0, none⟩ := by injection e1
      have hcap : SL.length ≤ c1 := by
        rcases hS.out.row.2 with ⟨e2, _⟩ | ⟨g2, cap2, cur2, e2, _, _, h3, _⟩
        · cases e2
        · injection e2 with _ _ e3; omega
      have hold := hS.out.old c _ hp (Nat.le_refl _)
      have hmem : ps ∈ SL := by rw [← hP1.out]; exact List.mem_map.2 ⟨_, List.mem_of_getElem? hp, rfl⟩
      have hle := hA1.out ps hmem
      obtain ⟨os, cs, hpv, _, _⟩ := id hold
      have hpv' : pv = .slice os ps.after.length cs := hpv
      subst hpv'
      clear e1 hpv hmem hnP
      have hold' : Hid (RowI w (.slice os ps.after.length cs) ps.after) := hold
      have hmap : Hid (∀ u, (P.set c (ps, u)).map Prod.fst = SL) := fun u => by
        rw [← hP1.out]
        apply List.ext_getElem?
        intro i
        rw [List.getElem?_map, List.getElem?_set, List.getElem?_map]
        by_cases hi : c = i
        · subst hi
          rw [if_pos rfl, hp]
          have := (List.getElem?_eq_some_iff.1 hp).1
          simp [this]
        · rw [if_neg hi]
      have hp' := hide' hp
      clear hold hp
      have x1 := hq.out.c1
      have hqd := hide' (hq.out.over (Below.refl _ _).drew)
      have hSd := hide' (hS.out.over (Below.refl _ _).drew)
      have hRd := hide' (hR.out.over (Below.refl _ _).drew)
      have x8 := (hSd.out.at HnP.out hp'.out).1
      have hxd := hide' hqd.out.c1
      clear hq hS hR
      go_wp2
      refine wp_region_held_drew (S := (fun V => V.cell? ⟨w.heap.size, 1, none⟩ = some (.slice (some ⟨g1, 0, none⟩) SL.length c1))) (by kernel_rfl) ?_ (fun hHeld => ?_)
      · exact hxd.out
      refine wpAnyH_take (i := 0) (oi := { dst := some 19, op := Op.fieldAddr 25 (Operand.tmp 1) 1, type := 0, pos := "ask.go:78", after := #[], guard := none }) (v := ?_) rfl (by kernel_rfl) (by kernel_rfl) (by kernel_rfl) (fun _ _ _ h => h) (Or.inl ⟨by rfl, ?_⟩) (by assumption) ?_
      rotate_left
      · intro w hSw; (try dsimp only at hSw); go_simp <;> with_reducible rfl
      simp only [Act.put, List.setIfInBounds_toArray, List.set_cons_zero, List.set_cons_succ]
      refine wpAnyH_take (i := 1) (oi := { dst := some 20, op := Op.load 22 (Operand.tmp 19), type := 22, pos := "ask.go:78", after := #[{ on := 0, ground := Ground.data }], guard := none }) (v := ?_) rfl (by kernel_rfl) (by kernel_rfl) (by kernel_rfl) (fun _ _ _ h => h) (Or.inl ⟨by rfl, ?_⟩) (by assumption) ?_
      rotate_left
      · intro w hSw; (try dsimp only at hSw); go_simp <;> with_reducible rfl
      simp only [Act.put, List.setIfInBounds_toArray, List.set_cons_zero, List.set_cons_succ]
      refine wpAnyH_take (i := 2) (oi := { dst := some 21, op := Op.move (Operand.tmp 3), type := 3, pos := "ask.go:78", after := #[], guard := none }) (v := ?_) rfl (by kernel_rfl) (by kernel_rfl) (by kernel_rfl) (fun _ _ _ h => h) (Or.inl ⟨by rfl, ?_⟩) (by assumption) ?_
      rotate_left
      · intro w hSw; (try dsimp only at hSw); go_simp <;> with_reducible rfl
      simp only [Act.put, List.setIfInBounds_toArray, List.set_cons_zero, List.set_cons_succ]
      refine wpAnyH_take (i := 3) (oi := { dst := some 22, op := Op.fieldAddr 25 (Operand.tmp 1) 1, type := 0, pos := "ask.go:78", after := #[], guard := none }) (v := ?_) rfl (by kernel_rfl) (by kernel_rfl) (by kernel_rfl) (fun _ _ _ h => h) (Or.inl ⟨by rfl, ?_⟩) (by assumption) ?_
      rotate_left
      · intro w hSw; (try dsimp only at hSw); go_simp <;> with_reducible rfl
      simp only [Act.put, List.setIfInBounds_toArray, List.set_cons_zero, List.set_cons_succ]
      refine wpAnyH_take (i := 4) (oi := { dst := some 23, op := Op.load 22 (Operand.tmp 22), type := 22, pos := "ask.go:78", after := #[{ on := 3, ground := Ground.data }], guard := none }) (v := ?_) rfl (by kernel_rfl) (by kernel_rfl) (by kernel_rfl) (fun _ _ _ h => h) (Or.inl ⟨by rfl, ?_⟩) (by assumption) ?_
      rotate_left
      · intro w hSw; (try dsimp only at hSw); go_simp <;> with_reducible rfl
      simp only [Act.put, List.setIfInBounds_toArray, List.set_cons_zero, List.set_cons_succ]
      refine wpAnyH_take (i := 5) (oi := { dst := some 24, op := Op.move (Operand.tmp 3), type := 3, pos := "ask.go:78", after := #[], guard := none }) (v := ?_) rfl (by kernel_rfl) (by kernel_rfl) (by kernel_rfl) (fun _ _ _ h => h) (Or.inl ⟨by rfl, ?_⟩) (by assumption) ?_
      rotate_left
      · intro w hSw; (try dsimp only at hSw); go_simp <;> with_reducible rfl
      simp only [Act.put, List.setIfInBounds_toArray, List.set_cons_zero, List.set_cons_succ]
      refine wpAnyH_take (i := 6) (oi := { dst := some 25, op := Op.indexAddr 22 (Operand.tmp 23) (Operand.tmp 24), type := 0, pos := "ask.go:78", after := #[{ on := 4, ground := Ground.data }, { on := 5, ground := Ground.data }], guard := none }) (v := ?_) rfl (by kernel_rfl) (by kernel_rfl) (by kernel_rfl) (fun _ _ _ h => h) (Or.inl ⟨by rfl, ?_⟩) (by assumption) ?_
      rotate_left
      · intro w hSw; (try dsimp only at hSw); go_simp <;> with_reducible rfl
      simp only [Act.put, List.setIfInBounds_toArray, List.set_cons_zero, List.set_cons_succ]
      refine wpAnyH_take (i := 7) (oi := { dst := some 26, op := Op.fieldAddr 95 (Operand.tmp 25) 2, type := 0, pos := "ask.go:78", after := #[{ on := 6, ground := Ground.data }], guard := none }) (v := ?_) rfl (by kernel_rfl) (by kernel_rfl) (by kernel_rfl) (fun _ _ _ h => h) (Or.inl ⟨by rfl, ?_⟩) (by assumption) ?_
      rotate_left
      · intro w hSw; (try dsimp only at hSw); go_simp <;> with_reducible rfl
      simp only [Act.put, List.setIfInBounds_toArray, List.set_cons_zero, List.set_cons_succ]
      refine wpAnyH_ready (rs := [8]) (by kernel_rfl) (by simp) ?_
      refine AllReadyH.cons (o := { dst := some 27, op := Op.load 53 (Operand.tmp 26), type := 53, pos := "ask.go:78", after := #[{ on := 7, ground := Ground.data }], guard := none }) rfl (fun K hK => ?_) AllReadyH.nil
      go_simp
      refine hK.out _ _ ?_ (fun hHeld => ?_)
      · exact hxd.out
      clear hK K
      try simp only [Act.put, List.setIfInBounds_toArray, List.set_cons_zero, List.set_cons_succ]
      refine wpAnyH_ready (rs := [9]) (by kernel_rfl) (by simp) ?_
      refine AllReadyH.cons (o := { dst := some 28, op := Op.call { callee := Callee.value (Operand.func 103), args := #[Operand.tmp 27], argTypes := #[53] }, type := 53, pos := "ask.go:78", after := #[{ on := 8, ground := Ground.data }], guard := none }) rfl (fun K hK => ?_) AllReadyH.nil
      go_simp
      refine (KI.out _ _ _ hold'.out hle hqd.out.bl).mono ?_; rintro e w5 ⟨v5, rfl, hO5, hb5⟩; obtain ⟨o5, c5, rfl⟩ := own_shp hO5; have q5 := hide' (hqd.out.over hb5); have h5 := hide' (hSd.out.over hb5); have r5 := hide' (hRd.out.over hb5); have f5 := (h5.out.at HnP.out hp'.out).2; have d5 := (h5.out.at HnP.out hp'.out).1; have x5 := hide' q5.out.c1; have q6 := hide' (q5.out.far (g := g1) (i := c * 3 + 2) hge (.slice o5 ps.after.length c5)); have x6 := hide' q6.out.c1; have hO5' := hide' (own_down hO5 (show w.heap.size + 2 ≤ _ from hqd.out.lt)); have dv5 := hide' (hDv.out.snoc (v := .slice o5 ps.after.length c5) hb5.size fun g hg => ⟨own_ge' hO5 hg, own_lt' hO5 hg⟩); clear hO5 hb5; (try dsimp only)
      refine hK.out _ _ ?_ (fun hHeld => ?_)
      · exact x5.out
      clear hK K
      try simp only [Act.put, List.setIfInBounds_toArray, List.set_cons_zero, List.set_cons_succ]
      refine wpAnyH_take (i := 10) (oi := { dst := some 29, op := Op.indexAddr 22 (Operand.tmp 20) (Operand.tmp 21), type := 0, pos := "ask.go:78", after := #[{ on := 1, ground := Ground.data }, { on := 2, ground := Ground.data }, { on := 0, ground := Ground.phase }, { on := 1, ground := Ground.phase }, { on := 2, ground := Ground.phase }, { on := 3, ground := Ground.phase }, { on := 4, ground := Ground.phase }, { on := 5, ground := Ground.phase }, { on := 6, ground := Ground.phase }, { on := 7, ground := Ground.phase }, { on := 8, ground := Ground.phase }, { on := 9, ground := Ground.phase }], guard := none }) (v := ?_) rfl (by kernel_rfl) (by kernel_rfl) (by kernel_rfl) (fun _ _ _ h => h) (Or.inl ⟨by rfl, ?_⟩) (by assumption) ?_
      rotate_left
      · intro w hSw; (try dsimp only at hSw); go_simp <;> with_reducible rfl
      simp only [Act.put, List.setIfInBounds_toArray, List.set_cons_zero, List.set_cons_succ]
      refine wpAnyH_take (i := 11) (oi := { dst := some 30, op := Op.fieldAddr 95 (Operand.tmp 29) 2, type := 0, pos := "ask.go:78", after := #[{ on := 10, ground := Ground.data }, { on := 0, ground := Ground.phase }, { on := 1, ground := Ground.phase }, { on := 2, ground := Ground.phase }, { on := 3, ground := Ground.phase }, { on := 4, ground := Ground.phase }, { on := 5, ground := Ground.phase }, { on := 6, ground := Ground.phase }, { on := 7, ground := Ground.phase }, { on := 8, ground := Ground.phase }, { on := 9, ground := Ground.phase }], guard := none }) (v := ?_) rfl (by kernel_rfl) (by kernel_rfl) (by kernel_rfl) (fun _ _ _ h => h) (Or.inl ⟨by rfl, ?_⟩) (by assumption) ?_
      rotate_left
      · intro w hSw; (try dsimp only at hSw); go_simp <;> with_reducible rfl
      simp only [Act.put, List.setIfInBounds_toArray, List.set_cons_zero, List.set_cons_succ]
      refine wpAnyH_ready (rs := [12]) (by kernel_rfl) (by simp) ?_
      refine AllReadyH.cons (o := { dst := none, op := Op.store 53 (Operand.tmp 30) (Operand.tmp 28), type := 0, pos := "ask.go:78", after := #[{ on := 11, ground := Ground.data }, { on := 9, ground := Ground.data }, { on := 9, ground := Ground.chain }, { on := 0, ground := Ground.phase }, { on := 1, ground := Ground.phase }, { on := 2, ground := Ground.phase }, { on := 3, ground := Ground.phase }, { on := 4, ground := Ground.phase }, { on := 5, ground := Ground.phase }, { on := 6, ground := Ground.phase }, { on := 7, ground := Ground.phase }, { on := 8, ground := Ground.phase }, { on := 9, ground := Ground.phase }], guard := none }) rfl (fun K hK => ?_) AllReadyH.nil
      go_simp
      refine hK.out _ _ ?_ (fun hHeld => ?_)
      · exact x6.out
      clear hK K
      try simp only [Act.put, List.setIfInBounds_toArray, List.set_cons_zero, List.set_cons_succ]
      refine wpAnyH_done (by kernel_rfl) ?_ _
      skip
      have hS6 := hide' (h5.out.set HnP.out hp'.out hO5'.out)
      have hR6 := hide' (r5.out.apart (g := g1) (i := c * 3 + 2) (x := .slice o5 ps.after.length c5) (by have := h5.out.row; rw [← HnP.out] at this; exact this))
      have hm6 := hide' (hmap.out (.slice o5 ps.after.length c5))
      have dv6 : Hid (Dv w5.heap.size (((P.set c (ps, .slice o5 ps.after.length c5)).take (c + 1)).map Prod.snd)) := by have h := dv5.out; rw [take_setP _ (by have := HnP.out; omega), List.map_append]; exact h
      clear dv5 hDv h5 r5 q5 hSd hRd hqd hold' hp' hmap hO5' f5 d5 x5 x6 x8 hxd hHeld x1
      go_wp2
      exact ⟨⟨c + 1, P.set c (ps, .slice o5 ps.after.length c5), by omega, by go_num, hm6, q6, hS6, hR6, (dv6.out.mono (by simp) : Dv _ _)⟩, by simp [intOf]; omega⟩
    · obtain rfl : c = SL.length := by omega
      have hT := hide' (hS.out.done (by omega))
      have hDv2 : Hid (Dv wr.heap.size (P.map Prod.snd ++ (P2.take 0).map Prod.snd)) := by
        have := hDv.out
        rw [List.take_of_length_le (by omega)] at this
        show Dv _ _
        simpa using this
      clear hDv
      have x2 := hq.out.c2
      clear hnP HnP hS
      go_wp2
      go_loopw [35] (fun k wr => ∃ (c : Nat) (Q : List (Rl × Value)), c ≤ RL.length ∧ k = .int .i64 c ∧ Hid (Q.map Prod.fst = RL) ∧ Hid (Cq w nm (.slice o1 SL.length c1) (.slice o2 RL.length c2) wr) ∧ Hid (TwP (w.heap.size + 2) wr (.slice o1 SL.length c1) P) ∧ Hid (CpR w (w.heap.size + 2) (.slice o2 RL.length c2) Q c wr) ∧ Hid (Dv wr.heap.size (P.map Prod.snd ++ (Q.take c).map Prod.snd))) (fun k _ => ((RL.length : Int) - intOf k).toNat)
      case atStart => exact ⟨0, P2, Nat.zero_le _, rfl, hP2, hq, hT, hR, hDv2⟩
      case round =>
        clear hP2 hq hT hR x2 hDv2
        obtain ⟨c, Q, hcl2, rfl, hP2, hq, hT, hR, hDv⟩ := hrel
        have hnP : RL.length = Q.length := by rw [← hP2.out, List.length_map]
        have HnP := hide' hnP
        by_cases hlt : c < RL.length
        · obtain ⟨⟨ps, pv⟩, hp⟩ : ∃ x, Q[c]? = some x := ⟨_, List.getElem?_eq_getElem (by omega)⟩
          obtain ⟨g1, cap1, e1, hge, _⟩ := hR.out.row.form (by omega)
          obtain rfl : o2 = some ⟨g1, 0, none⟩ := by injection e1
          have hcap : RL.length ≤ c2 := by
            rcases hR.out.row.2 with ⟨e2, _⟩ | ⟨g2, cap2, cur2, e2, _, _, h3, _⟩
            · cases e2
            · injection e2 with _ _ e3; omega
          have hold := hR.out.old c _ hp (Nat.le_refl _)
          have hmem : ps ∈ RL := by rw [← hP2.out]; exact List.mem_map.2 ⟨_, List.mem_of_getElem? hp, rfl⟩
          have hle := hA2.out ps hmem
          obtain ⟨os, cs, hpv, _, _⟩ := id hold
          have hpv' : pv = .slice os ps.steps.length cs := hpv
          subst hpv'
          clear e1 hpv hmem hnP
          have hold' : Hid (RowI w (.slice os ps.steps.length cs) ps.steps) := hold
          have hmap : Hid (∀ u, (Q.set c (ps, u)).map Prod.fst = RL) := fun u => by
            rw [← hP2.out]
            apply List.ext_getElem?
            intro i
            rw [List.getElem?_map, List.getElem?_set, List.getElem?_map]
            by_cases hi : c = i
            · subst hi
              rw [if_pos rfl, hp]
              have := (List.getElem?_eq_some_iff.1 hp).1
              simp [this]
            · rw [if_neg hi]
          have hp' := hide' hp
          clear hold hp
          have x2 := hq.out.c2
          have hqd := hide' (hq.out.over (Below.refl _ _).drew)
          have hTd := hide' (hT.out.below (Below.refl _ _).drew (Nat.le_refl _))
          have hRd := hide' (hR.out.over (Below.refl _ _).drew)
          have x8 := (hRd.out.at HnP.out hp'.out).1
          have hxd := hide' hqd.out.c2
          clear hq hT hR
          go_wp2
          refine wp_region_held_drew (S := (fun V => V.cell? ⟨w.heap.size, 2, none⟩ = some (.slice (some ⟨g1, 0, none⟩) RL.length c2))) (by kernel_rfl) ?_ (fun hHeld => ?_)
          · exact hxd.out
          refine wpAnyH_take (i := 0) (oi := { dst := some 38, op := Op.fieldAddr 25 (Operand.tmp 1) 2, type := 0, pos := "ask.go:81", after := #[], guard := none }) (v := ?_) rfl (by kernel_rfl) (by kernel_rfl) (by kernel_rfl) (fun _ _ _ h => h) (Or.inl ⟨by rfl, ?_⟩) (by assumption) ?_
          rotate_left
          · intro w hSw; (try dsimp only at hSw); go_simp <;> with_reducible rfl
          simp only [Act.put, List.setIfInBounds_toArray, List.set_cons_zero, List.set_cons_succ]
          refine wpAnyH_take (i := 1) (oi := { dst := some 39, op := Op.load 23 (Operand.tmp 38), type := 23, pos := "ask.go:81", after := #[{ on := 0, ground := Ground.data }], guard := none }) (v := ?_) rfl (by kernel_rfl) (by kernel_rfl) (by kernel_rfl) (fun _ _ _ h => h) (Or.inl ⟨by rfl, ?_⟩) (by assumption) ?_
          rotate_left
          · intro w hSw; (try dsimp only at hSw); go_simp <;> with_reducible rfl
          simp only [Act.put, List.setIfInBounds_toArray, List.set_cons_zero, List.set_cons_succ]
          refine wpAnyH_take (i := 2) (oi := { dst := some 40, op := Op.move (Operand.tmp 4), type := 3, pos := "ask.go:81", after := #[], guard := none }) (v := ?_) rfl (by kernel_rfl) (by kernel_rfl) (by kernel_rfl) (fun _ _ _ h => h) (Or.inl ⟨by rfl, ?_⟩) (by assumption) ?_
          rotate_left
          · intro w hSw; (try dsimp only at hSw); go_simp <;> with_reducible rfl
          simp only [Act.put, List.setIfInBounds_toArray, List.set_cons_zero, List.set_cons_succ]
          refine wpAnyH_take (i := 3) (oi := { dst := some 41, op := Op.fieldAddr 25 (Operand.tmp 1) 2, type := 0, pos := "ask.go:81", after := #[], guard := none }) (v := ?_) rfl (by kernel_rfl) (by kernel_rfl) (by kernel_rfl) (fun _ _ _ h => h) (Or.inl ⟨by rfl, ?_⟩) (by assumption) ?_
          rotate_left
          · intro w hSw; (try dsimp only at hSw); go_simp <;> with_reducible rfl
          simp only [Act.put, List.setIfInBounds_toArray, List.set_cons_zero, List.set_cons_succ]
          refine wpAnyH_take (i := 4) (oi := { dst := some 42, op := Op.load 23 (Operand.tmp 41), type := 23, pos := "ask.go:81", after := #[{ on := 3, ground := Ground.data }], guard := none }) (v := ?_) rfl (by kernel_rfl) (by kernel_rfl) (by kernel_rfl) (fun _ _ _ h => h) (Or.inl ⟨by rfl, ?_⟩) (by assumption) ?_
          rotate_left
          · intro w hSw; (try dsimp only at hSw); go_simp <;> with_reducible rfl
          simp only [Act.put, List.setIfInBounds_toArray, List.set_cons_zero, List.set_cons_succ]
          refine wpAnyH_take (i := 5) (oi := { dst := some 43, op := Op.move (Operand.tmp 4), type := 3, pos := "ask.go:81", after := #[], guard := none }) (v := ?_) rfl (by kernel_rfl) (by kernel_rfl) (by kernel_rfl) (fun _ _ _ h => h) (Or.inl ⟨by rfl, ?_⟩) (by assumption) ?_
          rotate_left
          · intro w hSw; (try dsimp only at hSw); go_simp <;> with_reducible rfl
          simp only [Act.put, List.setIfInBounds_toArray, List.set_cons_zero, List.set_cons_succ]
          refine wpAnyH_take (i := 6) (oi := { dst := some 44, op := Op.indexAddr 23 (Operand.tmp 42) (Operand.tmp 43), type := 0, pos := "ask.go:81", after := #[{ on := 4, ground := Ground.data }, { on := 5, ground := Ground.data }], guard := none }) (v := ?_) rfl (by kernel_rfl) (by kernel_rfl) (by kernel_rfl) (fun _ _ _ h => h) (Or.inl ⟨by rfl, ?_⟩) (by assumption) ?_
          rotate_left
          · intro w hSw; (try dsimp only at hSw); go_simp <;> with_reducible rfl
          simp only [Act.put, List.setIfInBounds_toArray, List.set_cons_zero, List.set_cons_succ]
          refine wpAnyH_take (i := 7) (oi := { dst := some 45, op := Op.fieldAddr 82 (Operand.tmp 44) 2, type := 0, pos := "ask.go:81", after := #[{ on := 6, ground := Ground.data }], guard := none }) (v := ?_) rfl (by kernel_rfl) (by kernel_rfl) (by kernel_rfl) (fun _ _ _ h => h) (Or.inl ⟨by rfl, ?_⟩) (by assumption) ?_
          rotate_left
          · intro w hSw; (try dsimp only at hSw); go_simp <;> with_reducible rfl
          simp only [Act.put, List.setIfInBounds_toArray, List.set_cons_zero, List.set_cons_succ]
          refine wpAnyH_ready (rs := [8]) (by kernel_rfl) (by simp) ?_
          refine AllReadyH.cons (o := { dst := some 46, op := Op.load 53 (Operand.tmp 45), type := 53, pos := "ask.go:81", after := #[{ on := 7, ground := Ground.data }], guard := none }) rfl (fun K hK => ?_) AllReadyH.nil
          go_simp
          refine hK.out _ _ ?_ (fun hHeld => ?_)
          · exact hxd.out
          clear hK K
          try simp only [Act.put, List.setIfInBounds_toArray, List.set_cons_zero, List.set_cons_succ]
          refine wpAnyH_ready (rs := [9]) (by kernel_rfl) (by simp) ?_
          refine AllReadyH.cons (o := { dst := some 47, op := Op.call { callee := Callee.value (Operand.func 103), args := #[Operand.tmp 46], argTypes := #[53] }, type := 53, pos := "ask.go:81", after := #[{ on := 8, ground := Ground.data }], guard := none }) rfl (fun K hK => ?_) AllReadyH.nil
          go_simp
          refine (KI.out _ _ _ hold'.out hle hqd.out.bl).mono ?_; rintro e w5 ⟨v5, rfl, hO5, hb5⟩; obtain ⟨o5, c5, rfl⟩ := own_shp hO5; have q5 := hide' (hqd.out.over hb5); have h5 := hide' (hRd.out.over hb5); have r5 := hide' (hTd.out.below hb5 (Nat.le_refl _)); have f5 := (h5.out.at HnP.out hp'.out).2; have d5 := (h5.out.at HnP.out hp'.out).1; have x5 := hide' q5.out.c2; have q6 := hide' (q5.out.far (g := g1) (i := c * 3 + 2) hge (.slice o5 ps.steps.length c5)); have x6 := hide' q6.out.c2; have hO5' := hide' (own_down hO5 (show w.heap.size + 2 ≤ _ from hqd.out.lt)); have dv5 := hide' (hDv.out.snoc (v := .slice o5 ps.steps.length c5) hb5.size fun g hg => ⟨own_ge' hO5 hg, own_lt' hO5 hg⟩); clear hO5 hb5; (try dsimp only)
          refine hK.out _ _ ?_ (fun hHeld => ?_)
          · exact x5.out
          clear hK K
          try simp only [Act.put, List.setIfInBounds_toArray, List.set_cons_zero, List.set_cons_succ]
          refine wpAnyH_take (i := 10) (oi := { dst := some 48, op := Op.indexAddr 23 (Operand.tmp 39) (Operand.tmp 40), type := 0, pos := "ask.go:81", after := #[{ on := 1, ground := Ground.data }, { on := 2, ground := Ground.data }, { on := 0, ground := Ground.phase }, { on := 1, ground := Ground.phase }, { on := 2, ground := Ground.phase }, { on := 3, ground := Ground.phase }, { on := 4, ground := Ground.phase }, { on := 5, ground := Ground.phase }, { on := 6, ground := Ground.phase }, { on := 7, ground := Ground.phase }, { on := 8, ground := Ground.phase }, { on := 9, ground := Ground.phase }], guard := none }) (v := ?_) rfl (by kernel_rfl) (by kernel_rfl) (by kernel_rfl) (fun _ _ _ h => h) (Or.inl ⟨by rfl, ?_⟩) (by assumption) ?_
          rotate_left
          · intro w hSw; (try dsimp only at hSw); go_simp <;> with_reducible rfl
          simp only [Act.put, List.setIfInBounds_toArray, List.set_cons_zero, List.set_cons_succ]
          refine wpAnyH_take (i := 11) (oi := { dst := some 49, op := Op.fieldAddr 82 (Operand.tmp 48) 2, type := 0, pos := "ask.go:81", after := #[{ on := 10, ground := Ground.data }, { on := 0, ground := Ground.phase }, { on := 1, ground := Ground.phase }, { on := 2, ground := Ground.phase }, { on := 3, ground := Ground.phase }, { on := 4, ground := Ground.phase }, { on := 5, ground := Ground.phase }, { on := 6, ground := Ground.phase }, { on := 7, ground := Ground.phase }, { on := 8, ground := Ground.phase }, { on := 9, ground := Ground.phase }], guard := none }) (v := ?_) rfl (by kernel_rfl) (by kernel_rfl) (by kernel_rfl) (fun _ _ _ h => h) (Or.inl ⟨by rfl, ?_⟩) (by assumption) ?_
          rotate_left
          · intro w hSw; (try dsimp only at hSw); go_simp <;> with_reducible rfl
          simp only [Act.put, List.setIfInBounds_toArray, List.set_cons_zero, List.set_cons_succ]
          refine wpAnyH_ready (rs := [12]) (by kernel_rfl) (by simp) ?_
          refine AllReadyH.cons (o := { dst := none, op := Op.store 53 (Operand.tmp 49) (Operand.tmp 47), type := 0, pos := "ask.go:81", after := #[{ on := 11, ground := Ground.data }, { on := 9, ground := Ground.data }, { on := 9, ground := Ground.chain }, { on := 0, ground := Ground.phase }, { on := 1, ground := Ground.phase }, { on := 2, ground := Ground.phase }, { on := 3, ground := Ground.phase }, { on := 4, ground := Ground.phase }, { on := 5, ground := Ground.phase }, { on := 6, ground := Ground.phase }, { on := 7, ground := Ground.phase }, { on := 8, ground := Ground.phase }, { on := 9, ground := Ground.phase }], guard := none }) rfl (fun K hK => ?_) AllReadyH.nil
          go_simp
          refine hK.out _ _ ?_ (fun hHeld => ?_)
          · exact x6.out
          clear hK K
          try simp only [Act.put, List.setIfInBounds_toArray, List.set_cons_zero, List.set_cons_succ]
          refine wpAnyH_done (by kernel_rfl) ?_ _
          skip
          have hR6 := hide' (h5.out.set HnP.out hp'.out hO5'.out)
          have hT6 := hide' (r5.out.apart (g := g1) (i := c * 3 + 2) (x := .slice o5 ps.steps.length c5) (by have := h5.out.row; rw [← HnP.out] at this; exact this))
          have hm6 := hide' (hmap.out (.slice o5 ps.steps.length c5))
          have dv6 : Hid (Dv w5.heap.size (P.map Prod.snd ++ ((Q.set c (ps, .slice o5 ps.steps.length c5)).take (c + 1)).map Prod.snd)) := by have h := dv5.out; rw [take_setP _ (by have := HnP.out; omega), List.map_append, ← List.append_assoc]; exact h
          clear dv5 hDv h5 r5 q5 hTd hRd hqd hold' hp' hmap hO5' f5 d5 x5 x6 x8 hxd hHeld x2
          go_wp2
          exact ⟨⟨c + 1, Q.set c (ps, .slice o5 ps.steps.length c5), by omega, by go_num, hm6, q6, hT6, hR6, (dv6.out.mono (by simp) : Dv _ _)⟩, by simp [intOf]; omega⟩
        · obtain rfl : c = RL.length := by omega
          have hT2 := hide' (hR.out.done (by omega))
          have x0 := hq.out.c0
          have x1 := hq.out.c1
          have x2 := hq.out.c2
          have hbr : Hid (wr.heap[w.heap.size + 1]? = some (.cells #[.string ⟨#[]⟩, .slice none 0 0, .slice none 0 0] 25 (0, 0))) := hq.out.br
          have hbl := hide' hq.out.bl
          have y0 : wr.cell? ⟨w.heap.size + 1, 0, none⟩ = some (.string ⟨#[]⟩) := by simp [World.cell?, hbr.out]
          have y1 : wr.cell? ⟨w.heap.size + 1, 1, none⟩ = some (.slice none 0 0) := by simp [World.cell?, hbr.out]
          have y2 : wr.cell? ⟨w.heap.size + 1, 2, none⟩ = some (.slice none 0 0) := by simp [World.cell?, hbr.out]
          have g0 : wr.frozen? ⟨w.heap.size + 1, 0, none⟩ = false := by simp [World.frozen?, hbr.out]
          have g1 : wr.frozen? ⟨w.heap.size + 1, 1, none⟩ = false := by simp [World.frozen?, hbr.out]
          have g2 : wr.frozen? ⟨w.heap.size + 1, 2, none⟩ = false := by simp [World.frozen?, hbr.out]
          have hF := hide' (hFin.out (.slice o1 SL.length c1) (.slice o2 RL.length c2) P Q (((wr.setCell ⟨w.heap.size + 1, 0, none⟩ (.string nm)).setCell ⟨w.heap.size + 1, 1, none⟩ (.slice o1 SL.length c1)).setCell ⟨w.heap.size + 1, 2, none⟩ (.slice o2 RL.length c2)) hP1.out hP2.out ((((hT.out.low (b := w.heap.size + 1) (i := 0) (by omega) _).low (b := w.heap.size + 1) (i := 1) (by omega) _).low (b := w.heap.size + 1) (i := 2) (by omega) _).down (by omega)) ((((hT2.out.low (b := w.heap.size + 1) (i := 0) (by omega) _).low (b := w.heap.size + 1) (i := 1) (by omega) _).low (b := w.heap.size + 1) (i := 2) (by omega) _).down (by omega)) (((hbl.out.setCell (p := ⟨w.heap.size + 1, 0, none⟩) (Nat.le_succ _) _).setCell (p := ⟨w.heap.size + 1, 1, none⟩) (Nat.le_succ _) _).setCell (p := ⟨w.heap.size + 1, 2, none⟩) (Nat.le_succ _) _) (by have h := hDv.out; rw [List.take_of_length_le (by omega)] at h; simpa using h))
          have r3 : Hid ((((wr.setCell ⟨w.heap.size + 1, 0, none⟩ (.string nm)).setCell ⟨w.heap.size + 1, 1, none⟩ (.slice o1 SL.length c1)).setCell ⟨w.heap.size + 1, 2, none⟩ (.slice o2 RL.length c2)).heap[w.heap.size + 1]? = some (.cells #[.string nm, .slice o1 SL.length c1, .slice o2 RL.length c2] 25 (0, 0))) := heap_set_at _ (heap_set_at _ (heap_set_at _ hbr.out))
          clear hnP HnP hR hq hT hT2 hFin hbl hbr hP1 hP2 KI hA1 hA2 hDv
          go_wp2
          obtain ⟨WF, hWF⟩ : ∃ WF, WF = ((wr.setCell ⟨w.heap.size + 1, 0, none⟩ (.string nm)).setCell ⟨w.heap.size + 1, 1, none⟩ (.slice o1 SL.length c1)).setCell ⟨w.heap.size + 1, 2, none⟩ (.slice o2 RL.length c2) := ⟨_, rfl⟩
          rw [← hWF] at hF r3 ⊢
          have k0 : WF.cell? ⟨w.heap.size + 1, 0, none⟩ = some (.string nm) := by simp [World.cell?, r3.out]
          have k1 : WF.cell? ⟨w.heap.size + 1, 1, none⟩ = some (.slice o1 SL.length c1) := by simp [World.cell?, r3.out]
          have k2 : WF.cell? ⟨w.heap.size + 1, 2, none⟩ = some (.slice o2 RL.length c2) := by simp [World.cell?, r3.out]
          refine bodyPost_ret (v := .agg #[.string nm, .slice o1 SL.length c1, .slice o2 RL.length c2]) ?_ rfl hF.out
          simp [results, Tryz.results60, go_sem, k0, k1, k2]
theorem copyOfF (F : Fw) (v : Value) (w : World) (hv : flV w v F) (hB : FlB F) : Calls Tryz.prog 60 #[v] w (CopR w F) := (copyOfDF F v w hv hB).mono fun _ _ ⟨sv, rv, P1, P2, h1, h2, h3, h4, h5, h6, _⟩ => ⟨sv, rv, P1, P2, h1, h2, h3, h4, h5, h6⟩
end Go.Proofs.YtahfobbiaimoiaaGreatDoor

/- Twin: a flow in new memory, cut. -/
import Derived.Test.YtahfobbiaimoiaaGreatDoorJ16
namespace Go.Proofs.YtahfobbiaimoiaaGreatDoor
open Go.RowKit
def cutS (s : Sp) : Sp := ⟨s.name, s.duty, s.after.take 30⟩
def cutFw (F : Fw) : Fw := ⟨F.name, (F.steps.take 30).map cutS, (F.rules.take 60).map cutR⟩
/-- The boxes while the twin is made, and its rows. -/
structure Gq (w : World) (nm : ByteArray) (fs fr sv rv : Value) (P1 : List (Sp × Value)) (P2 : List (Rl × Value)) (W : World) : Prop where
  bf : W.heap[w.heap.size]? = some (.cells #[.string nm, fs, fr] 25 (0, 0))
  br : W.heap[w.heap.size + 1]? = some (.cells #[.string ⟨#[]⟩, .slice none 0 0, .slice none 0 0] 25 (0, 0))
  bg : W.heap[w.heap.size + 2]? = some (.cells #[.string nm, sv, rv] 25 (0, 0))
  p1 : TwP (w.heap.size + 3) W sv P1
  p2 : TwS (w.heap.size + 3) W rv P2
  bl : Below w.heap.size w W
section
variable {w W W' : World} {nm : ByteArray} {fs fr sv rv : Value} {P1 : List (Sp × Value)} {P2 : List (Rl × Value)}
theorem Gq.lt (h : Gq w nm fs fr sv rv P1 P2 W) : w.heap.size + 2 < W.heap.size := (Array.getElem?_eq_some_iff.1 h.bg).1
theorem Gq.over (h : Gq w nm fs fr sv rv P1 P2 W) (hb : Below W.heap.size W W') : Gq w nm fs fr sv rv P1 P2 W' := by
  have := h.lt
  exact ⟨(hb.block _ (by omega)).trans h.bf, (hb.block _ (by omega)).trans h.br, (hb.block _ (by omega)).trans h.bg, h.p1.below hb (Nat.le_refl _), h.p2.below hb (Nat.le_refl _), h.bl.trans (hb.mono h.bl.size)⟩
theorem Gq.f1 (h : Gq w nm fs fr sv rv P1 P2 W) : W.cell? ⟨w.heap.size, 1, none⟩ = some fs := by simp [World.cell?, h.bf]
theorem Gq.f2 (h : Gq w nm fs fr sv rv P1 P2 W) : W.cell? ⟨w.heap.size, 2, none⟩ = some fr := by simp [World.cell?, h.bf]
theorem Gq.g0 (h : Gq w nm fs fr sv rv P1 P2 W) : W.cell? ⟨w.heap.size + 2, 0, none⟩ = some (.string nm) := by simp [World.cell?, h.bg]
theorem Gq.g1 (h : Gq w nm fs fr sv rv P1 P2 W) : W.cell? ⟨w.heap.size + 2, 1, none⟩ = some sv := by simp [World.cell?, h.bg]
theorem Gq.g2 (h : Gq w nm fs fr sv rv P1 P2 W) : W.cell? ⟨w.heap.size + 2, 2, none⟩ = some rv := by simp [World.cell?, h.bg]
theorem Gq.fz (h : Gq w nm fs fr sv rv P1 P2 W) (i : Nat) : W.frozen? ⟨w.heap.size + 2, i, none⟩ = false := by simp [World.frozen?, h.bg]
theorem low_blk {B : Nat} {r : Option Nat} {g : Nat} (hr : ∀ x, r = some x → B ≤ x) (hg : g < B) : some g ≠ r := fun e => by have := hr g e.symm; omega
/-- A box of the three is as it was behind an append. -/
theorem Gq.grown (h : Gq w nm fs fr sv rv P1 P2 W) {r : Option Nat} (hg : W.grownBy W' r) (hr : ∀ x, r = some x → w.heap.size + 3 ≤ x) : W'.heap[w.heap.size]? = some (.cells #[.string nm, fs, fr] 25 (0, 0)) ∧ W'.heap[w.heap.size + 1]? = some (.cells #[.string ⟨#[]⟩, .slice none 0 0, .slice none 0 0] 25 (0, 0)) ∧ W'.heap[w.heap.size + 2]? = some (.cells #[.string nm, sv, rv] 25 (0, 0)) := by
  have := h.lt
  exact ⟨(hg.block _ (by omega) (low_blk hr (by omega))).trans h.bf, (hg.block _ (by omega) (low_blk hr (by omega))).trans h.br, (hg.block _ (by omega) (low_blk hr (by omega))).trans h.bg⟩
theorem Gq.push1 (h : Gq w nm fs fr sv rv P1 P2 W) (p : Sp × Value) (hv : W.ownsRow (w.heap.size + 3) 3 1 p.2 p.1.after.length (cellsI p.1.after)) {g cap : Nat} {w2 : World} (ho : w2.ownsRow (w.heap.size + 3) 95 3 (.slice (some ⟨g, 0, none⟩) (P1.length + 1) cap) (P1.length + 1) (cellsS P1 ++ scells p)) (hg : W.grownBy w2 sv.ownBlock) :
    (w2.cell? ⟨w.heap.size + 2, 1, none⟩ = some sv ∧ w2.frozen? ⟨w.heap.size + 2, 1, none⟩ = false) ∧ Gq w nm fs fr (.slice (some ⟨g, 0, none⟩) (P1.length + 1) cap) rv (P1 ++ [p]) P2 (w2.setCell ⟨w.heap.size + 2, 1, none⟩ (.slice (some ⟨g, 0, none⟩) (P1.length + 1) cap)) := by
  obtain ⟨b1, b2, b3⟩ := h.grown hg fun x hx => own_ge' h.p1.row hx
  have hT := h.p1.push p hv (fun x hx e => kind_ne2 h.p1.row hv (by decide) hx e) ho hg
  have hR : TwS (w.heap.size + 3) w2 rv P2 := ⟨own_same h.p2.row fun k hk e => hg.block k hk fun e3 => kind_ne2 h.p1.row h.p2.row (by decide) e3.symm e, fun q hq => own_same (h.p2.inner q hq) fun k hk e => hg.block k hk fun e3 => kind_ne2 h.p1.row (h.p2.inner q hq) (by decide) e3.symm e⟩
  have hb : Below w.heap.size w w2 := h.bl.trans (below_of_grown hg h.bl.size (fun x hx => by have := own_ge' h.p1.row hx; omega))
  have ek : ∀ k, k ≠ w.heap.size + 2 → (w2.setCell ⟨w.heap.size + 2, 1, none⟩ (.slice (some ⟨g, 0, none⟩) (P1.length + 1) cap)).heap[k]? = w2.heap[k]? := fun k hk => Below.heap_setCell _ _ _ _ hk
  refine ⟨⟨by simp [World.cell?, b3], by simp [World.frozen?, b3]⟩, (ek _ (by omega)).trans b1, (ek _ (by omega)).trans b2, heap_set_at _ b3, ?_, ?_, hb.setCell (p := ⟨w.heap.size + 2, 1, none⟩) (show w.heap.size ≤ w.heap.size + 2 by omega) _⟩
  · exact ⟨own_same hT.row fun k _ e => ek k (by have := own_ge' hT.row e; omega), fun q hq => own_same (hT.inner q hq) fun k _ e => ek k (by have := own_ge' (hT.inner q hq) e; omega)⟩
  · exact ⟨own_same hR.row fun k _ e => ek k (by have := own_ge' hR.row e; omega), fun q hq => own_same (hR.inner q hq) fun k _ e => ek k (by have := own_ge' (hR.inner q hq) e; omega)⟩
theorem Gq.push2 (h : Gq w nm fs fr sv rv P1 P2 W) (p : Rl × Value) (hv : W.ownsRow (w.heap.size + 3) 3 1 p.2 p.1.steps.length (cellsI p.1.steps)) {g cap : Nat} {w2 : World} (ho : w2.ownsRow (w.heap.size + 3) 82 3 (.slice (some ⟨g, 0, none⟩) (P2.length + 1) cap) (P2.length + 1) (cellsR P2 ++ rcells p)) (hg : W.grownBy w2 rv.ownBlock) :
    (w2.cell? ⟨w.heap.size + 2, 2, none⟩ = some rv ∧ w2.frozen? ⟨w.heap.size + 2, 2, none⟩ = false) ∧ Gq w nm fs fr sv (.slice (some ⟨g, 0, none⟩) (P2.length + 1) cap) P1 (P2 ++ [p]) (w2.setCell ⟨w.heap.size + 2, 2, none⟩ (.slice (some ⟨g, 0, none⟩) (P2.length + 1) cap)) := by
  obtain ⟨b1, b2, b3⟩ := h.grown hg fun x hx => own_ge' h.p2.row hx
  have hT := h.p2.push p hv (fun x hx e => kind_ne2 h.p2.row hv (by decide) hx e) ho hg
  have hR : TwP (w.heap.size + 3) w2 sv P1 := ⟨own_same h.p1.row fun k hk e => hg.block k hk fun e3 => kind_ne2 h.p2.row h.p1.row (by decide) e3.symm e, fun q hq => own_same (h.p1.inner q hq) fun k hk e => hg.block k hk fun e3 => kind_ne2 h.p2.row (h.p1.inner q hq) (by decide) e3.symm e⟩
  have hb : Below w.heap.size w w2 := h.bl.trans (below_of_grown hg h.bl.size (fun x hx => by have := own_ge' h.p2.row hx; omega))
  have ek : ∀ k, k ≠ w.heap.size + 2 → (w2.setCell ⟨w.heap.size + 2, 2, none⟩ (.slice (some ⟨g, 0, none⟩) (P2.length + 1) cap)).heap[k]? = w2.heap[k]? := fun k hk => Below.heap_setCell _ _ _ _ hk
  refine ⟨⟨by simp [World.cell?, b3], by simp [World.frozen?, b3]⟩, (ek _ (by omega)).trans b1, (ek _ (by omega)).trans b2, heap_set_at _ b3, ?_, ?_, hb.setCell (p := ⟨w.heap.size + 2, 2, none⟩) (show w.heap.size ≤ w.heap.size + 2 by omega) _⟩
  · exact ⟨own_same hR.row fun k _ e => ek k (by have := own_ge' hR.row e; omega), fun q hq => own_same (hR.inner q hq) fun k _ e => ek k (by have := own_ge' (hR.inner q hq) e; omega)⟩
  · exact ⟨own_same hT.row fun k _ e => ek k (by have := own_ge' hT.row e; omega), fun q hq => own_same (hT.inner q hq) fun k _ e => ek k (by have := own_ge' (hT.inner q hq) e; omega)⟩
end
theorem TwP.low3 {w W : World} {v : Value} {P : List (Sp × Value)} (h : TwP (w.heap.size + 3) W v P) (x y z : Value) : TwP w.heap.size (((W.setCell ⟨w.heap.size + 1, 0, none⟩ x).setCell ⟨w.heap.size + 1, 1, none⟩ y).setCell ⟨w.heap.size + 1, 2, none⟩ z) v P := by
  have ek : ∀ k, w.heap.size + 3 ≤ k → (((W.setCell ⟨w.heap.size + 1, 0, none⟩ x).setCell ⟨w.heap.size + 1, 1, none⟩ y).setCell ⟨w.heap.size + 1, 2, none⟩ z).heap[k]? = W.heap[k]? := fun k hk => by
    have hne : k ≠ w.heap.size + 1 := by omega
    rw [Below.heap_setCell _ _ _ _ hne, Below.heap_setCell _ _ _ _ hne, Below.heap_setCell _ _ _ _ hne]
  exact TwP.down ⟨own_same h.row fun k _ e => ek k (own_ge' h.row e), fun q hq => own_same (h.inner q hq) fun k _ e => ek k (own_ge' (h.inner q hq) e)⟩ (by omega)
theorem TwS.low3 {w W : World} {v : Value} {P : List (Rl × Value)} (h : TwS (w.heap.size + 3) W v P) (x y z : Value) : TwS w.heap.size (((W.setCell ⟨w.heap.size + 1, 0, none⟩ x).setCell ⟨w.heap.size + 1, 1, none⟩ y).setCell ⟨w.heap.size + 1, 2, none⟩ z) v P := by
  have ek : ∀ k, w.heap.size + 3 ≤ k → (((W.setCell ⟨w.heap.size + 1, 0, none⟩ x).setCell ⟨w.heap.size + 1, 1, none⟩ y).setCell ⟨w.heap.size + 1, 2, none⟩ z).heap[k]? = W.heap[k]? := fun k hk => by
    have hne : k ≠ w.heap.size + 1 := by omega
    rw [Below.heap_setCell _ _ _ _ hne, Below.heap_setCell _ _ _ _ hne, Below.heap_setCell _ _ _ _ hne]
  exact TwS.down ⟨own_same h.row fun k _ e => ek k (own_ge' h.row e), fun q hq => own_same (h.inner q hq) fun k _ e => ek k (own_ge' (h.inner q hq) e)⟩ (by omega)
theorem bx3 {V : World} {b : Nat} {x0 x1 x2 : Value} {t : TypeId} (h : V.heap[b]? = some (.cells #[x0, x1, x2] t (0, 0))) : V.cell? ⟨b, 0, none⟩ = some x0 ∧ V.cell? ⟨b, 1, none⟩ = some x1 ∧ V.cell? ⟨b, 2, none⟩ = some x2 := by simp [World.cell?, h]
theorem scone (p : Sp × Value) (h : p.2.oneCell' = true) : ∀ u ∈ scells p, u.oneCell' = true := by
  intro u hu
  simp [scells] at hu
  rcases hu with rfl | rfl | rfl
  · rfl
  · rfl
  · exact h
theorem take_mapn {α β : Type} (f : α → β) {L : List α} {c : Nat} {x : α} (h : L[c]? = some x) : (L.take (c + 1)).map f = (L.take c).map f ++ [f x] := by
  rw [List.take_add_one, h]; simp
set_option maxRecDepth 100000 in
set_option maxHeartbeats 8000000 in
theorem twin7F (F : Fw) (v : Value) (w : World) (hv : flV w v F) : Calls Tryz.prog 9 #[v] w (CopR w (cutFw F)) := by
  obtain ⟨sv0, rv0, rfl, hs, hr⟩ := hv
  obtain ⟨oa, cap, rfl, hcapA, hcA⟩ := hs
  obtain ⟨ob, cb, rfl, hcapB, hcB⟩ := hr
  have hcA' := hide' hcA
  have hcB' := hide' hcB
  have KR : Hid (∀ V u l, RowI w u l → Below w.heap.size w V → Calls Tryz.prog 45 #[u] V fun e w' => ∃ v', e = .returned v' ∧ w'.ownsRow V.heap.size 3 1 v' (l.take 30).length (cellsI (l.take 30)) ∧ Below V.heap.size V w') := fun V u l hu hV => row7 l u V (hu.below hV (Nat.le_refl _))
  have hFin : Hid (∀ sv rv P1 P2 W, P1.map Prod.fst = (F.steps.take 30).map cutS → P2.map Prod.fst = (F.rules.take 60).map cutR → TwP w.heap.size W sv P1 → TwS w.heap.size W rv P2 → Below w.heap.size w W → CopR w (cutFw F) (.returned (.agg #[.string F.name, sv, rv])) W) := fun sv rv P1 P2 W h1 h2 h3 h4 h5 => ⟨sv, rv, P1, P2, rfl, h1, h2, h3, h4, h5⟩
  generalize CopR w (cutFw F) = QQ at *
  clear hcA hcB hcapA hcapB
  generalize F.name = nm at *
  generalize F.steps = SL at *
  generalize F.rules = RL at *
  have q1 : Hid (Gq w nm (.slice oa SL.length cap) (.slice ob RL.length cb) (.slice none 0 0) (.slice none 0 0) [] [] (((w.alloc (.cells #[.string nm, .slice oa SL.length cap, .slice ob RL.length cb] 25)).alloc (.cells #[.string ⟨#[]⟩, .slice none 0 0, .slice none 0 0] 25)).alloc (.cells #[.string nm, .slice none 0 0, .slice none 0 0] 25))) := by
    have hb := (Below.refl _ ((w.alloc (.cells #[.string nm, .slice oa SL.length cap, .slice ob RL.length cb] 25)).alloc (.cells #[.string ⟨#[]⟩, .slice none 0 0, .slice none 0 0] 25))).alloc (Nat.le_refl _) (.cells #[.string nm, .slice none 0 0, .slice none 0 0] 25)
    exact ⟨(hb.block _ (by simp; omega)).trans (al_fst w _ _), (hb.block _ (by simp)).trans (al_snd w _ _), by have := heap_alloc_new ((w.alloc (.cells #[.string nm, .slice oa SL.length cap, .slice ob RL.length cb] 25)).alloc (.cells #[.string ⟨#[]⟩, .slice none 0 0, .slice none 0 0] 25)) (.cells #[.string nm, .slice none 0 0, .slice none 0 0] 25); simpa using this, TwP.nil _ _, TwS.nil _ _, (((Below.refl _ w).alloc (Nat.le_refl _) _).alloc (by simp) _).alloc (by simp; omega) _⟩
  go_enter Tryz.func9, Tryz.ntmps9
  go_wp2
  generalize ((w.alloc (.cells #[.string nm, .slice oa SL.length cap, .slice ob RL.length cb] 25)).alloc (.cells #[.string ⟨#[]⟩, .slice none 0 0, .slice none 0 0] 25)).alloc (.cells #[.string nm, .slice none 0 0, .slice none 0 0] 25) = W1 at *
  go_loopw [4] (fun k wr => ∃ (c : Nat) (P : List (Sp × Value)) (o1 : Option Addr) (n1 c1 : Nat), c ≤ SL.length ∧ c ≤ 30 ∧ P.length ≤ c ∧ k = .int .i64 c ∧ Hid (P.map Prod.fst = (SL.take c).map cutS) ∧ Hid (Gq w nm (.slice oa SL.length cap) (.slice ob RL.length cb) (.slice o1 n1 c1) (.slice none 0 0) P [] wr)) (fun k _ => ((30 : Int) - intOf k).toNat)
  case atStart => exact ⟨0, [], none, 0, 0, Nat.zero_le _, Nat.zero_le _, Nat.zero_le _, rfl, rfl, q1⟩
  case round =>
    clear q1
    obtain ⟨c, P, o1, n1, c1, hcl, hc30, hPl, rfl, hM, hq⟩ := hrel
    have x1 := hq.out.f1
    have hE : Hid (¬ (c < SL.length ∧ c < 30) → P.map Prod.fst = (SL.take 30).map cutS) := fun hne => by
      rw [hM.out]
      congr 1
      by_cases h1 : c < SL.length
      · rw [show c = 30 by omega]
      · rw [List.take_of_length_le (by omega), List.take_of_length_le (by omega)]
    by_cases hgo : c < SL.length ∧ c < 30
    · obtain ⟨hlt, h30⟩ := hgo
      obtain ⟨s, hx⟩ : ∃ x, SL[c]? = some x := ⟨_, List.getElem?_eq_getElem hlt⟩
      obtain ⟨g, o, av, rfl, c1', c2', c3', hs⟩ := hcA'.out c s hx
      have d1 := (hq.out.bl.cell (p := ⟨g, o + c * 3, none⟩) (cell_lt c1')).trans c1'
      have d2 := (hq.out.bl.cell (p := ⟨g, o + c * 3 + 1, none⟩) (cell_lt c2')).trans c2'
      have d3 := (hq.out.bl.cell (p := ⟨g, o + c * 3 + 2, none⟩) (cell_lt c3')).trans c3'
      have hs' := hide' hs
      obtain ⟨os, cs, rfl, _, _⟩ := hs
      have hN : Hid (∀ u, (P ++ [(cutS s, u)]).map Prod.fst = (SL.take (c + 1)).map cutS) := fun u => by rw [take_mapn cutS hx, ← hM.out]; simp
      have q5 := hide' (hq.out.over ((Below.refl _ wr).alloc (Nat.le_refl _) (.cells #[.string s.name, .string s.duty, .slice os s.after.length cs] 95)))
      have D5 := hide' (heap_alloc_new wr (.cells #[.string s.name, .string s.duty, .slice os s.after.length cs] 95))
      have hnb : Hid ((Value.slice o1 n1 c1).ownBlock ≠ some wr.heap.size) := fun e => absurd (own_lt' hq.out.p1.row e) (Nat.lt_irrefl _)
      have hbx := hide' hq.out.lt
      clear hE hcA' hcB' c1' c2' c3' hx hM hq hFin
      go_wp2
      generalize hbw : wr.heap.size = bx at *
      generalize wr.alloc (.cells #[.string s.name, .string s.duty, .slice os s.after.length cs] 95) = W5 at *
      clear hbw
      have q5d := hide' (q5.out.over (Below.refl _ _).drew)
      have y1 := q5d.out.g1
      have hS0 := hide' (bx3 (V := W5.drew) D5.out)
      refine wp_region_held_drew (S := (fun V => V.cell? ⟨bx, 0, none⟩ = some (.string s.name) ∧ V.cell? ⟨bx, 1, none⟩ = some (.string s.duty) ∧ V.cell? ⟨bx, 2, none⟩ = some (.slice os s.after.length cs))) (by kernel_rfl) ?_ (fun hHeld => ?_)
      · exact hS0.out
      refine wpAnyH_take (i := 0) (oi := { dst := some 27, op := Op.fieldAddr 25 (Operand.tmp 3) 1, type := 0, pos := "law.go:24", after := #[], guard := none }) (v := ?_) rfl (by kernel_rfl) (by kernel_rfl) (by kernel_rfl) (fun _ _ _ h => h) (Or.inl ⟨by rfl, ?_⟩) (by assumption) ?_
      rotate_left
      · intro w hSw; (try dsimp only at hSw); go_simp <;> with_reducible rfl
      simp only [Act.put, List.setIfInBounds_toArray, List.set_cons_zero, List.set_cons_succ]
      refine wpAnyH_take (i := 2) (oi := { dst := some 29, op := Op.fieldAddr 95 (Operand.tmp 5) 0, type := 0, pos := "law.go:24", after := #[], guard := none }) (v := ?_) rfl (by kernel_rfl) (by kernel_rfl) (by kernel_rfl) (fun _ _ _ h => h) (Or.inl ⟨by rfl, ?_⟩) (by assumption) ?_
      rotate_left
      · intro w hSw; (try dsimp only at hSw); go_simp <;> with_reducible rfl
      simp only [Act.put, List.setIfInBounds_toArray, List.set_cons_zero, List.set_cons_succ]
      refine wpAnyH_take (i := 3) (oi := { dst := some 30, op := Op.load 9 (Operand.tmp 29), type := 9, pos := "law.go:24", after := #[{ on := 2, ground := Ground.data }], guard := none }) (v := ?_) rfl (by kernel_rfl) (by kernel_rfl) (by kernel_rfl) (fun _ _ _ h => h) (Or.inl ⟨by rfl, ?_⟩) (by assumption) ?_
      rotate_left
      · intro w hSw; (try dsimp only at hSw); go_simp <;> with_reducible rfl
      simp only [Act.put, List.setIfInBounds_toArray, List.set_cons_zero, List.set_cons_succ]
      refine wpAnyH_take (i := 4) (oi := { dst := some 31, op := Op.fieldAddr 95 (Operand.tmp 5) 1, type := 0, pos := "law.go:24", after := #[], guard := none }) (v := ?_) rfl (by kernel_rfl) (by kernel_rfl) (by kernel_rfl) (fun _ _ _ h => h) (Or.inl ⟨by rfl, ?_⟩) (by assumption) ?_
      rotate_left
      · intro w hSw; (try dsimp only at hSw); go_simp <;> with_reducible rfl
      simp only [Act.put, List.setIfInBounds_toArray, List.set_cons_zero, List.set_cons_succ]
      refine wpAnyH_take (i := 5) (oi := { dst := some 32, op := Op.load 9 (Operand.tmp 31), type := 9, pos := "law.go:24", after := #[{ on := 4, ground := Ground.data }], guard := none }) (v := ?_) rfl (by kernel_rfl) (by kernel_rfl) (by kernel_rfl) (fun _ _ _ h => h) (Or.inl ⟨by rfl, ?_⟩) (by assumption) ?_
      rotate_left
      · intro w hSw; (try dsimp only at hSw); go_simp <;> with_reducible rfl
      simp only [Act.put, List.setIfInBounds_toArray, List.set_cons_zero, List.set_cons_succ]
      refine wpAnyH_take (i := 6) (oi := { dst := some 33, op := Op.fieldAddr 95 (Operand.tmp 5) 2, type := 0, pos := "law.go:24", after := #[], guard := none }) (v := ?_) rfl (by kernel_rfl) (by kernel_rfl) (by kernel_rfl) (fun _ _ _ h => h) (Or.inl ⟨by rfl, ?_⟩) (by assumption) ?_
      rotate_left
      · intro w hSw; (try dsimp only at hSw); go_simp <;> with_reducible rfl
      simp only [Act.put, List.setIfInBounds_toArray, List.set_cons_zero, List.set_cons_succ]
      refine wpAnyH_take (i := 7) (oi := { dst := some 34, op := Op.load 53 (Operand.tmp 33), type := 53, pos := "law.go:24", after := #[{ on := 6, ground := Ground.data }], guard := none }) (v := ?_) rfl (by kernel_rfl) (by kernel_rfl) (by kernel_rfl) (fun _ _ _ h => h) (Or.inl ⟨by rfl, ?_⟩) (by assumption) ?_
      rotate_left
      · intro w hSw; (try dsimp only at hSw); go_simp <;> with_reducible rfl
      simp only [Act.put, List.setIfInBounds_toArray, List.set_cons_zero, List.set_cons_succ]
      refine wpAnyH_ready (rs := [1, 8]) (by kernel_rfl) (by simp) ?_
      refine AllReadyH.cons (o := { dst := some 28, op := Op.load 22 (Operand.tmp 27), type := 22, pos := "law.go:24", after := #[{ on := 0, ground := Ground.data }], guard := none }) rfl (fun K hK => ?_) ?_
      · skip
        go_simp
        refine hK.out _ _ ?_ (fun hHeld => ?_)
        · exact hS0.out
        clear hK K
        try simp only [Act.put, List.setIfInBounds_toArray, List.set_cons_zero, List.set_cons_succ]
        refine wpAnyH_ready (rs := [8]) (by kernel_rfl) (by simp) ?_
        refine AllReadyH.cons (o := { dst := some 35, op := Op.call { callee := Callee.value (Operand.func 45), args := #[Operand.tmp 34], argTypes := #[53] }, type := 53, pos := "law.go:24", after := #[{ on := 7, ground := Ground.data }], guard := none }) rfl (fun K hK => ?_) AllReadyH.nil
        go_simp
        refine (KR.out _ _ _ hs'.out q5d.out.bl).mono ?_; rintro e w6 ⟨v6, rfl, hO6, hb6⟩; obtain ⟨o6, c6, hv6⟩ := own_shp hO6; obtain ⟨n6, hn6⟩ : ∃ n, n = (s.after.take 30).length := ⟨_, rfl⟩; rw [← hn6] at hv6; subst hv6; clear hn6; have q6 := hide' (q5d.out.over hb6); have z1 := q6.out.g1; have D6 : Hid (w6.heap[bx]? = some (.cells #[.string s.name, .string s.duty, .slice os s.after.length cs] 95 (0, 0))) := (hb6.block bx (Array.getElem?_eq_some_iff.1 D5.out).1).trans D5.out; have hS6 := hide' (bx3 D6.out); have q6a := hide' (q6.out.over ((Below.refl _ w6).alloc (Nat.le_refl _) (.cells #[.string s.name, .string s.duty, .slice o6 n6 c6] 95))); have z1a := q6a.out.g1; have D6a : Hid ((w6.alloc (.cells #[.string s.name, .string s.duty, .slice o6 n6 c6] 95)).heap[bx]? = some (.cells #[.string s.name, .string s.duty, .slice os s.after.length cs] 95 (0, 0))) := (((Below.refl w6.heap.size w6).alloc (Nat.le_refl _) _).block bx (Array.getElem?_eq_some_iff.1 D6.out).1).trans D6.out; have hS6a := hide' (bx3 D6a.out); have hO6' := hide' (own_down hO6 (show w.heap.size + 3 ≤ _ from q5d.out.lt)); have hs6 : w.heap.size + 3 ≤ w6.heap.size := q6.out.lt; clear hO6 hb6; (try dsimp only)
        refine hK.out _ _ ?_ (fun hHeld => ?_)
        · exact hS6.out
        clear hK K
        try simp only [Act.put, List.setIfInBounds_toArray, List.set_cons_zero, List.set_cons_succ]
        refine wpAnyH_take (i := 9) (oi := { dst := some 36, op := Op.build 95 #[(0, Operand.tmp 30), (1, Operand.tmp 32), (2, Operand.tmp 35)], type := 95, pos := "law.go:24", after := #[{ on := 3, ground := Ground.data }, { on := 5, ground := Ground.data }, { on := 8, ground := Ground.data }], guard := none }) (v := ?_) rfl (by kernel_rfl) (by kernel_rfl) (by kernel_rfl) (fun _ _ _ h => h) (Or.inl ⟨by rfl, ?_⟩) (by assumption) ?_
        rotate_left
        · intro w hSw; (try dsimp only at hSw); go_simp <;> with_reducible rfl
        simp only [Act.put, List.setIfInBounds_toArray, List.set_cons_zero, List.set_cons_succ]
        refine wpAnyH_ready (rs := [10]) (by kernel_rfl) (by simp) ?_
        refine AllReadyH.cons (o := { dst := some 37, op := Op.buildSlice 22 1 #[(0, Operand.tmp 36)], type := 22, pos := "law.go:24", after := #[{ on := 9, ground := Ground.data }], guard := none }) rfl (fun K hK => ?_) AllReadyH.nil
        go_simp
        refine hK.out _ _ ?_ (fun hHeld => ?_)
        · exact hS6a.out
        clear hK K
        try simp only [Act.put, List.setIfInBounds_toArray, List.set_cons_zero, List.set_cons_succ]
        refine wpAnyH_ready (rs := [11]) (by kernel_rfl) (by simp) ?_
        refine AllReadyH.cons (o := { dst := some 38, op := Op.call { callee := Callee.builtin Builtin.append, args := #[Operand.tmp 28, Operand.tmp 37], argTypes := #[22, 22] }, type := 22, pos := "law.go:24", after := #[{ on := 1, ground := Ground.data }, { on := 10, ground := Ground.data }, { on := 8, ground := Ground.chain }], guard := none }) rfl (fun K hK => ?_) AllReadyH.nil
        rw [if_pos (by rfl)]
        refine app1Lw elSp (.tmp 28) (.tmp 37) rfl (w.heap.size + 3) w6 (.slice o1 n1 c1) P.length (cellsS P) (scells (cutS s, .slice o6 n6 c6)) rfl rfl q6.out.p1.row rfl (scone _ rfl) hs6 (by omega) ?_; intro g7 cap7 w7 hown hgr hnw; obtain ⟨⟨d7, f7⟩, q7⟩ := q6.out.push1 (cutS s, .slice o6 n6 c6) hO6'.out hown hgr; have Q7 := hide' q7; have D7 : Hid (w7.heap[bx]? = some (.cells #[.string s.name, .string s.duty, .slice os s.after.length cs] 95 (0, 0))) := (hgr.block bx (Array.getElem?_eq_some_iff.1 D6.out).1 fun e => hnb.out e.symm).trans D6.out; have hS7 := hide' (bx3 D7.out); have hS8 := hide' (bx3 ((Below.heap_setCell w7 ⟨w.heap.size + 2, 1, none⟩ (.slice (some ⟨g7, 0, none⟩) (P.length + 1) cap7) bx (show bx ≠ w.heap.size + 2 by have := hbx.out; omega)).trans D7.out)); clear hown hgr hnw q7; (try dsimp only)
        refine hK.out _ _ ?_ (fun hHeld => ?_)
        · exact hS7.out
        clear hK K
        try simp only [Act.put, List.setIfInBounds_toArray, List.set_cons_zero, List.set_cons_succ]
        refine wpAnyH_take (i := 12) (oi := { dst := some 39, op := Op.fieldAddr 25 (Operand.tmp 3) 1, type := 0, pos := "law.go:24", after := #[{ on := 0, ground := Ground.phase }, { on := 1, ground := Ground.phase }, { on := 2, ground := Ground.phase }, { on := 3, ground := Ground.phase }, { on := 4, ground := Ground.phase }, { on := 5, ground := Ground.phase }, { on := 6, ground := Ground.phase }, { on := 7, ground := Ground.phase }, { on := 8, ground := Ground.phase }, { on := 9, ground := Ground.phase }, { on := 10, ground := Ground.phase }, { on := 11, ground := Ground.phase }], guard := none }) (v := ?_) rfl (by kernel_rfl) (by kernel_rfl) (by kernel_rfl) (fun _ _ _ h => h) (Or.inl ⟨by rfl, ?_⟩) (by assumption) ?_
        rotate_left
        · intro w hSw; (try dsimp only at hSw); go_simp <;> with_reducible rfl
        simp only [Act.put, List.setIfInBounds_toArray, List.set_cons_zero, List.set_cons_succ]
        refine wpAnyH_ready (rs := [13]) (by kernel_rfl) (by simp) ?_
        refine AllReadyH.cons (o := { dst := none, op := Op.store 22 (Operand.tmp 39) (Operand.tmp 38), type := 0, pos := "law.go:24", after := #[{ on := 12, ground := Ground.data }, { on := 11, ground := Ground.data }, { on := 11, ground := Ground.chain }, { on := 0, ground := Ground.phase }, { on := 1, ground := Ground.phase }, { on := 2, ground := Ground.phase }, { on := 3, ground := Ground.phase }, { on := 4, ground := Ground.phase }, { on := 5, ground := Ground.phase }, { on := 6, ground := Ground.phase }, { on := 7, ground := Ground.phase }, { on := 8, ground := Ground.phase }, { on := 9, ground := Ground.phase }, { on := 10, ground := Ground.phase }, { on := 11, ground := Ground.phase }], guard := none }) rfl (fun K hK => ?_) AllReadyH.nil
        go_simp
        refine hK.out _ _ ?_ (fun hHeld => ?_)
        · exact hS8.out
        clear hK K
        try simp only [Act.put, List.setIfInBounds_toArray, List.set_cons_zero, List.set_cons_succ]
        refine wpAnyH_done (by kernel_rfl) ?_ _
        skip
        have hm := hide' (hN.out (.slice o6 n6 c6))
        clear hN q6 q6a q5 q5d D5 D6 D6a D7 hS0 hS6 hS6a hS7 hS8 z1 z1a y1 d7 f7 hO6' hs' hHeld KR
        go_wp2
        exact ⟨⟨c + 1, P ++ [(cutS s, .slice o6 n6 c6)], some ⟨g7, 0, none⟩, P.length + 1, cap7, by omega, by omega, by simp; omega, by go_num, hm, Q7⟩, by simp [intOf]; omega⟩
      refine AllReadyH.cons (o := { dst := some 35, op := Op.call { callee := Callee.value (Operand.func 45), args := #[Operand.tmp 34], argTypes := #[53] }, type := 53, pos := "law.go:24", after := #[{ on := 7, ground := Ground.data }], guard := none }) rfl (fun K hK => ?_) AllReadyH.nil
      go_simp
      refine (KR.out _ _ _ hs'.out q5d.out.bl).mono ?_; rintro e w6 ⟨v6, rfl, hO6, hb6⟩; obtain ⟨o6, c6, hv6⟩ := own_shp hO6; obtain ⟨n6, hn6⟩ : ∃ n, n = (s.after.take 30).length := ⟨_, rfl⟩; rw [← hn6] at hv6; subst hv6; clear hn6; have q6 := hide' (q5d.out.over hb6); have z1 := q6.out.g1; have D6 : Hid (w6.heap[bx]? = some (.cells #[.string s.name, .string s.duty, .slice os s.after.length cs] 95 (0, 0))) := (hb6.block bx (Array.getElem?_eq_some_iff.1 D5.out).1).trans D5.out; have hS6 := hide' (bx3 D6.out); have q6a := hide' (q6.out.over ((Below.refl _ w6).alloc (Nat.le_refl _) (.cells #[.string s.name, .string s.duty, .slice o6 n6 c6] 95))); have z1a := q6a.out.g1; have D6a : Hid ((w6.alloc (.cells #[.string s.name, .string s.duty, .slice o6 n6 c6] 95)).heap[bx]? = some (.cells #[.string s.name, .string s.duty, .slice os s.after.length cs] 95 (0, 0))) := (((Below.refl w6.heap.size w6).alloc (Nat.le_refl _) _).block bx (Array.getElem?_eq_some_iff.1 D6.out).1).trans D6.out; have hS6a := hide' (bx3 D6a.out); have hO6' := hide' (own_down hO6 (show w.heap.size + 3 ≤ _ from q5d.out.lt)); have hs6 : w.heap.size + 3 ≤ w6.heap.size := q6.out.lt; clear hO6 hb6; (try dsimp only)
      refine hK.out _ _ ?_ (fun hHeld => ?_)
      · exact hS6.out
      clear hK K
      try simp only [Act.put, List.setIfInBounds_toArray, List.set_cons_zero, List.set_cons_succ]
      refine wpAnyH_take (i := 9) (oi := { dst := some 36, op := Op.build 95 #[(0, Operand.tmp 30), (1, Operand.tmp 32), (2, Operand.tmp 35)], type := 95, pos := "law.go:24", after := #[{ on := 3, ground := Ground.data }, { on := 5, ground := Ground.data }, { on := 8, ground := Ground.data }], guard := none }) (v := ?_) rfl (by kernel_rfl) (by kernel_rfl) (by kernel_rfl) (fun _ _ _ h => h) (Or.inl ⟨by rfl, ?_⟩) (by assumption) ?_
      rotate_left
      · intro w hSw; (try dsimp only at hSw); go_simp <;> with_reducible rfl
      simp only [Act.put, List.setIfInBounds_toArray, List.set_cons_zero, List.set_cons_succ]
      refine wpAnyH_ready (rs := [1, 10]) (by kernel_rfl) (by simp) ?_
      refine AllReadyH.cons (o := { dst := some 28, op := Op.load 22 (Operand.tmp 27), type := 22, pos := "law.go:24", after := #[{ on := 0, ground := Ground.data }], guard := none }) rfl (fun K hK => ?_) ?_
      · skip
        go_simp
        refine hK.out _ _ ?_ (fun hHeld => ?_)
        · exact hS6.out
        clear hK K
        try simp only [Act.put, List.setIfInBounds_toArray, List.set_cons_zero, List.set_cons_succ]
        refine wpAnyH_ready (rs := [10]) (by kernel_rfl) (by simp) ?_
        refine AllReadyH.cons (o := { dst := some 37, op := Op.buildSlice 22 1 #[(0, Operand.tmp 36)], type := 22, pos := "law.go:24", after := #[{ on := 9, ground := Ground.data }], guard := none }) rfl (fun K hK => ?_) AllReadyH.nil
        go_simp
        refine hK.out _ _ ?_ (fun hHeld => ?_)
        · exact hS6a.out
        clear hK K
        try simp only [Act.put, List.setIfInBounds_toArray, List.set_cons_zero, List.set_cons_succ]
        refine wpAnyH_ready (rs := [11]) (by kernel_rfl) (by simp) ?_
        refine AllReadyH.cons (o := { dst := some 38, op := Op.call { callee := Callee.builtin Builtin.append, args := #[Operand.tmp 28, Operand.tmp 37], argTypes := #[22, 22] }, type := 22, pos := "law.go:24", after := #[{ on := 1, ground := Ground.data }, { on := 10, ground := Ground.data }, { on := 8, ground := Ground.chain }], guard := none }) rfl (fun K hK => ?_) AllReadyH.nil
        rw [if_pos (by rfl)]
        refine app1Lw elSp (.tmp 28) (.tmp 37) rfl (w.heap.size + 3) w6 (.slice o1 n1 c1) P.length (cellsS P) (scells (cutS s, .slice o6 n6 c6)) rfl rfl q6.out.p1.row rfl (scone _ rfl) hs6 (by omega) ?_; intro g7 cap7 w7 hown hgr hnw; obtain ⟨⟨d7, f7⟩, q7⟩ := q6.out.push1 (cutS s, .slice o6 n6 c6) hO6'.out hown hgr; have Q7 := hide' q7; have D7 : Hid (w7.heap[bx]? = some (.cells #[.string s.name, .string s.duty, .slice os s.after.length cs] 95 (0, 0))) := (hgr.block bx (Array.getElem?_eq_some_iff.1 D6.out).1 fun e => hnb.out e.symm).trans D6.out; have hS7 := hide' (bx3 D7.out); have hS8 := hide' (bx3 ((Below.heap_setCell w7 ⟨w.heap.size + 2, 1, none⟩ (.slice (some ⟨g7, 0, none⟩) (P.length + 1) cap7) bx (show bx ≠ w.heap.size + 2 by have := hbx.out; omega)).trans D7.out)); clear hown hgr hnw q7; (try dsimp only)
        refine hK.out _ _ ?_ (fun hHeld => ?_)
        · exact hS7.out
        clear hK K
        try simp only [Act.put, List.setIfInBounds_toArray, List.set_cons_zero, List.set_cons_succ]
        refine wpAnyH_take (i := 12) (oi := { dst := some 39, op := Op.fieldAddr 25 (Operand.tmp 3) 1, type := 0, pos := "law.go:24", after := #[{ on := 0, ground := Ground.phase }, { on := 1, ground := Ground.phase }, { on := 2, ground := Ground.phase }, { on := 3, ground := Ground.phase }, { on := 4, ground := Ground.phase }, { on := 5, ground := Ground.phase }, { on := 6, ground := Ground.phase }, { on := 7, ground := Ground.phase }, { on := 8, ground := Ground.phase }, { on := 9, ground := Ground.phase }, { on := 10, ground := Ground.phase }, { on := 11, ground := Ground.phase }], guard := none }) (v := ?_) rfl (by kernel_rfl) (by kernel_rfl) (by kernel_rfl) (fun _ _ _ h => h) (Or.inl ⟨by rfl, ?_⟩) (by assumption) ?_
        rotate_left
        · intro w hSw; (try dsimp only at hSw); go_simp <;> with_reducible rfl
        simp only [Act.put, List.setIfInBounds_toArray, List.set_cons_zero, List.set_cons_succ]
        refine wpAnyH_ready (rs := [13]) (by kernel_rfl) (by simp) ?_
        refine AllReadyH.cons (o := { dst := none, op := Op.store 22 (Operand.tmp 39) (Operand.tmp 38), type := 0, pos := "law.go:24", after := #[{ on := 12, ground := Ground.data }, { on := 11, ground := Ground.data }, { on := 11, ground := Ground.chain }, { on := 0, ground := Ground.phase }, { on := 1, ground := Ground.phase }, { on := 2, ground := Ground.phase }, { on := 3, ground := Ground.phase }, { on := 4, ground := Ground.phase }, { on := 5, ground := Ground.phase }, { on := 6, ground := Ground.phase }, { on := 7, ground := Ground.phase }, { on := 8, ground := Ground.phase }, { on := 9, ground := Ground.phase }, { on := 10, ground := Ground.phase }, { on := 11, ground := Ground.phase }], guard := none }) rfl (fun K hK => ?_) AllReadyH.nil
        go_simp
        refine hK.out _ _ ?_ (fun hHeld => ?_)
        · exact hS8.out
        clear hK K
        try simp only [Act.put, List.setIfInBounds_toArray, List.set_cons_zero, List.set_cons_succ]
        refine wpAnyH_done (by kernel_rfl) ?_ _
        skip
        have hm := hide' (hN.out (.slice o6 n6 c6))
        clear hN q6 q6a q5 q5d D5 D6 D6a D7 hS0 hS6 hS6a hS7 hS8 z1 z1a y1 d7 f7 hO6' hs' hHeld KR
        go_wp2
        exact ⟨⟨c + 1, P ++ [(cutS s, .slice o6 n6 c6)], some ⟨g7, 0, none⟩, P.length + 1, cap7, by omega, by omega, by simp; omega, by go_num, hm, Q7⟩, by simp [intOf]; omega⟩
      refine AllReadyH.cons (o := { dst := some 37, op := Op.buildSlice 22 1 #[(0, Operand.tmp 36)], type := 22, pos := "law.go:24", after := #[{ on := 9, ground := Ground.data }], guard := none }) rfl (fun K hK => ?_) AllReadyH.nil
      go_simp
      refine hK.out _ _ ?_ (fun hHeld => ?_)
      · exact hS6a.out
      clear hK K
      try simp only [Act.put, List.setIfInBounds_toArray, List.set_cons_zero, List.set_cons_succ]
      refine wpAnyH_ready (rs := [1]) (by kernel_rfl) (by simp) ?_
      refine AllReadyH.cons (o := { dst := some 28, op := Op.load 22 (Operand.tmp 27), type := 22, pos := "law.go:24", after := #[{ on := 0, ground := Ground.data }], guard := none }) rfl (fun K hK => ?_) AllReadyH.nil
      go_simp
      refine hK.out _ _ ?_ (fun hHeld => ?_)
      · exact hS6a.out
      clear hK K
      try simp only [Act.put, List.setIfInBounds_toArray, List.set_cons_zero, List.set_cons_succ]
      refine wpAnyH_ready (rs := [11]) (by kernel_rfl) (by simp) ?_
      refine AllReadyH.cons (o := { dst := some 38, op := Op.call { callee := Callee.builtin Builtin.append, args := #[Operand.tmp 28, Operand.tmp 37], argTypes := #[22, 22] }, type := 22, pos := "law.go:24", after := #[{ on := 1, ground := Ground.data }, { on := 10, ground := Ground.data }, { on := 8, ground := Ground.chain }], guard := none }) rfl (fun K hK => ?_) AllReadyH.nil
      rw [if_pos (by rfl)]
      refine app1Lw elSp (.tmp 28) (.tmp 37) rfl (w.heap.size + 3) w6 (.slice o1 n1 c1) P.length (cellsS P) (scells (cutS s, .slice o6 n6 c6)) rfl rfl q6.out.p1.row rfl (scone _ rfl) hs6 (by omega) ?_; intro g7 cap7 w7 hown hgr hnw; obtain ⟨⟨d7, f7⟩, q7⟩ := q6.out.push1 (cutS s, .slice o6 n6 c6) hO6'.out hown hgr; have Q7 := hide' q7; have D7 : Hid (w7.heap[bx]? = some (.cells #[.string s.name, .string s.duty, .slice os s.after.length cs] 95 (0, 0))) := (hgr.block bx (Array.getElem?_eq_some_iff.1 D6.out).1 fun e => hnb.out e.symm).trans D6.out; have hS7 := hide' (bx3 D7.out); have hS8 := hide' (bx3 ((Below.heap_setCell w7 ⟨w.heap.size + 2, 1, none⟩ (.slice (some ⟨g7, 0, none⟩) (P.length + 1) cap7) bx (show bx ≠ w.heap.size + 2 by have := hbx.out; omega)).trans D7.out)); clear hown hgr hnw q7; (try dsimp only)
      refine hK.out _ _ ?_ (fun hHeld => ?_)
      · exact hS7.out
      clear hK K
      try simp only [Act.put, List.setIfInBounds_toArray, List.set_cons_zero, List.set_cons_succ]
      refine wpAnyH_take (i := 12) (oi := { dst := some 39, op := Op.fieldAddr 25 (Operand.tmp 3) 1, type := 0, pos := "law.go:24", after := #[{ on := 0, ground := Ground.phase }, { on := 1, ground := Ground.phase }, { on := 2, ground := Ground.phase }, { on := 3, ground := Ground.phase }, { on := 4, ground := Ground.phase }, { on := 5, ground := Ground.phase }, { on := 6, ground := Ground.phase }, { on := 7, ground := Ground.phase }, { on := 8, ground := Ground.phase }, { on := 9, ground := Ground.phase }, { on := 10, ground := Ground.phase }, { on := 11, ground := Ground.phase }], guard := none }) (v := ?_) rfl (by kernel_rfl) (by kernel_rfl) (by kernel_rfl) (fun _ _ _ h => h) (Or.inl ⟨by rfl, ?_⟩) (by assumption) ?_
      rotate_left
      · intro w hSw; (try dsimp only at hSw); go_simp <;> with_reducible rfl
      simp only [Act.put, List.setIfInBounds_toArray, List.set_cons_zero, List.set_cons_succ]
      refine wpAnyH_ready (rs := [13]) (by kernel_rfl) (by simp) ?_
      refine AllReadyH.cons (o := { dst := none, op := Op.store 22 (Operand.tmp 39) (Operand.tmp 38), type := 0, pos := "law.go:24", after := #[{ on := 12, ground := Ground.data }, { on := 11, ground := Ground.data }, { on := 11, ground := Ground.chain }, { on := 0, ground := Ground.phase }, { on := 1, ground := Ground.phase }, { on := 2, ground := Ground.phase }, { on := 3, ground := Ground.phase }, { on := 4, ground := Ground.phase }, { on := 5, ground := Ground.phase }, { on := 6, ground := Ground.phase }, { on := 7, ground := Ground.phase }, { on := 8, ground := Ground.phase }, { on := 9, ground := Ground.phase }, { on := 10, ground := Ground.phase }, { on := 11, ground := Ground.phase }], guard := none }) rfl (fun K hK => ?_) AllReadyH.nil
      go_simp
      refine hK.out _ _ ?_ (fun hHeld => ?_)
      · exact hS8.out
      clear hK K
      try simp only [Act.put, List.setIfInBounds_toArray, List.set_cons_zero, List.set_cons_succ]
      refine wpAnyH_done (by kernel_rfl) ?_ _
      skip
      have hm := hide' (hN.out (.slice o6 n6 c6))
      clear hN q6 q6a q5 q5d D5 D6 D6a D7 hS0 hS6 hS6a hS7 hS8 z1 z1a y1 d7 f7 hO6' hs' hHeld KR
      go_wp2
      exact ⟨⟨c + 1, P ++ [(cutS s, .slice o6 n6 c6)], some ⟨g7, 0, none⟩, P.length + 1, cap7, by omega, by omega, by simp; omega, by go_num, hm, Q7⟩, by simp [intOf]; omega⟩
    · have hM2 := hide' (hE.out hgo)
      clear hE hM hcA'
      by_cases hlt : c < SL.length
      · have h30 : ¬ c < 30 := fun h => hgo ⟨hlt, h⟩
        clear hgo
        go_wp2
        go_loopw [6] (fun k wr => ∃ (c : Nat) (Q : List (Rl × Value)) (o2 : Option Addr) (n2 c2 : Nat), c ≤ RL.length ∧ c ≤ 60 ∧ Q.length ≤ c ∧ k = .int .i64 c ∧ Hid (Q.map Prod.fst = (RL.take c).map cutR) ∧ Hid (Gq w nm (.slice oa SL.length cap) (.slice ob RL.length cb) (.slice o1 n1 c1) (.slice o2 n2 c2) P Q wr)) (fun k _ => ((60 : Int) - intOf k).toNat)
        case atStart => exact ⟨0, [], none, 0, 0, Nat.zero_le _, Nat.zero_le _, Nat.zero_le _, rfl, rfl, hq⟩
        case round =>
          clear hq x1
          obtain ⟨c, Q, o2, n2, c2, hcl2, hc60, hQl, rfl, hM, hq⟩ := hrel
          have x2 := hq.out.f2
          have hE : Hid (¬ (c < RL.length ∧ c < 60) → Q.map Prod.fst = (RL.take 60).map cutR) := fun hne => by
            rw [hM.out]
            congr 1
            by_cases h1 : c < RL.length
            · rw [show c = 60 by omega]
            · rw [List.take_of_length_le (by omega), List.take_of_length_le (by omega)]
          by_cases hgo : c < RL.length ∧ c < 60
          · obtain ⟨hltr, h60⟩ := hgo
            obtain ⟨s, hx⟩ : ∃ x, RL[c]? = some x := ⟨_, List.getElem?_eq_getElem hltr⟩
            obtain ⟨g, o, av, rfl, c1', c2', c3', hs⟩ := hcB'.out c s hx
            have d1 := (hq.out.bl.cell (p := ⟨g, o + c * 3, none⟩) (cell_lt c1')).trans c1'
            have d2 := (hq.out.bl.cell (p := ⟨g, o + c * 3 + 1, none⟩) (cell_lt c2')).trans c2'
            have d3 := (hq.out.bl.cell (p := ⟨g, o + c * 3 + 2, none⟩) (cell_lt c3')).trans c3'
            have hs' := hide' hs
            obtain ⟨os, cs, rfl, _, _⟩ := hs
            have hN : Hid (∀ u, (Q ++ [(cutR s, u)]).map Prod.fst = (RL.take (c + 1)).map cutR) := fun u => by rw [take_mapn cutR hx, ← hM.out]; simp
            have q5 := hide' (hq.out.over ((Below.refl _ wr).alloc (Nat.le_refl _) (.cells #[.int .i64 s.kind, .int .i64 s.k, .slice os s.steps.length cs] 82)))
            have D5 := hide' (heap_alloc_new wr (.cells #[.int .i64 s.kind, .int .i64 s.k, .slice os s.steps.length cs] 82))
            have hnb : Hid ((Value.slice o2 n2 c2).ownBlock ≠ some wr.heap.size) := fun e => absurd (own_lt' hq.out.p2.row e) (Nat.lt_irrefl _)
            have hbx := hide' hq.out.lt
            clear hE hcB' c1' c2' c3' hx hM hq hFin
            go_wp2
            generalize hbw : wr.heap.size = bx at *
            generalize wr.alloc (.cells #[.int .i64 s.kind, .int .i64 s.k, .slice os s.steps.length cs] 82) = W5 at *
            clear hbw
            have q5d := hide' (q5.out.over (Below.refl _ _).drew)
            have y1 := q5d.out.g2
            have hS0 := hide' (bx3 (V := W5.drew) D5.out)
            refine wp_region_held_drew (S := (fun V => V.cell? ⟨bx, 0, none⟩ = some (.int .i64 s.kind) ∧ V.cell? ⟨bx, 1, none⟩ = some (.int .i64 s.k) ∧ V.cell? ⟨bx, 2, none⟩ = some (.slice os s.steps.length cs))) (by kernel_rfl) ?_ (fun hHeld => ?_)
            · exact hS0.out
            refine wpAnyH_take (i := 0) (oi := { dst := some 56, op := Op.fieldAddr 25 (Operand.tmp 3) 2, type := 0, pos := "law.go:28", after := #[], guard := none }) (v := ?_) rfl (by kernel_rfl) (by kernel_rfl) (by kernel_rfl) (fun _ _ _ h => h) (Or.inl ⟨by rfl, ?_⟩) (by assumption) ?_
            rotate_left
            · intro w hSw; (try dsimp only at hSw); go_simp <;> with_reducible rfl
            simp only [Act.put, List.setIfInBounds_toArray, List.set_cons_zero, List.set_cons_succ]
            refine wpAnyH_take (i := 2) (oi := { dst := some 58, op := Op.fieldAddr 82 (Operand.tmp 7) 0, type := 0, pos := "law.go:28", after := #[], guard := none }) (v := ?_) rfl (by kernel_rfl) (by kernel_rfl) (by kernel_rfl) (fun _ _ _ h => h) (Or.inl ⟨by rfl, ?_⟩) (by assumption) ?_
            rotate_left
            · intro w hSw; (try dsimp only at hSw); go_simp <;> with_reducible rfl
            simp only [Act.put, List.setIfInBounds_toArray, List.set_cons_zero, List.set_cons_succ]
            refine wpAnyH_take (i := 3) (oi := { dst := some 59, op := Op.load 3 (Operand.tmp 58), type := 3, pos := "law.go:28", after := #[{ on := 2, ground := Ground.data }], guard := none }) (v := ?_) rfl (by kernel_rfl) (by kernel_rfl) (by kernel_rfl) (fun _ _ _ h => h) (Or.inl ⟨by rfl, ?_⟩) (by assumption) ?_
            rotate_left
            · intro w hSw; (try dsimp only at hSw); go_simp <;> with_reducible rfl
            simp only [Act.put, List.setIfInBounds_toArray, List.set_cons_zero, List.set_cons_succ]
            refine wpAnyH_take (i := 4) (oi := { dst := some 60, op := Op.fieldAddr 82 (Operand.tmp 7) 1, type := 0, pos := "law.go:28", after := #[], guard := none }) (v := ?_) rfl (by kernel_rfl) (by kernel_rfl) (by kernel_rfl) (fun _ _ _ h => h) (Or.inl ⟨by rfl, ?_⟩) (by assumption) ?_
            rotate_left
            · intro w hSw; (try dsimp only at hSw); go_simp <;> with_reducible rfl
            simp only [Act.put, List.setIfInBounds_toArray, List.set_cons_zero, List.set_cons_succ]
            refine wpAnyH_take (i := 5) (oi := { dst := some 61, op := Op.load 3 (Operand.tmp 60), type := 3, pos := "law.go:28", after := #[{ on := 4, ground := Ground.data }], guard := none }) (v := ?_) rfl (by kernel_rfl) (by kernel_rfl) (by kernel_rfl) (fun _ _ _ h => h) (Or.inl ⟨by rfl, ?_⟩) (by assumption) ?_
            rotate_left
            · intro w hSw; (try dsimp only at hSw); go_simp <;> with_reducible rfl
            simp only [Act.put, List.setIfInBounds_toArray, List.set_cons_zero, List.set_cons_succ]
            refine wpAnyH_take (i := 6) (oi := { dst := some 62, op := Op.fieldAddr 82 (Operand.tmp 7) 2, type := 0, pos := "law.go:28", after := #[], guard := none }) (v := ?_) rfl (by kernel_rfl) (by kernel_rfl) (by kernel_rfl) (fun _ _ _ h => h) (Or.inl ⟨by rfl, ?_⟩) (by assumption) ?_
            rotate_left
            · intro w hSw; (try dsimp only at hSw); go_simp <;> with_reducible rfl
            simp only [Act.put, List.setIfInBounds_toArray, List.set_cons_zero, List.set_cons_succ]
            refine wpAnyH_take (i := 7) (oi := { dst := some 63, op := Op.load 53 (Operand.tmp 62), type := 53, pos := "law.go:28", after := #[{ on := 6, ground := Ground.data }], guard := none }) (v := ?_) rfl (by kernel_rfl) (by kernel_rfl) (by kernel_rfl) (fun _ _ _ h => h) (Or.inl ⟨by rfl, ?_⟩) (by assumption) ?_
            rotate_left
            · intro w hSw; (try dsimp only at hSw); go_simp <;> with_reducible rfl
            simp only [Act.put, List.setIfInBounds_toArray, List.set_cons_zero, List.set_cons_succ]
            refine wpAnyH_ready (rs := [1, 8]) (by kernel_rfl) (by simp) ?_
            refine AllReadyH.cons (o := { dst := some 57, op := Op.load 23 (Operand.tmp 56), type := 23, pos := "law.go:28", after := #[{ on := 0, ground := Ground.data }], guard := none }) rfl (fun K hK => ?_) ?_
            · skip
              go_simp
              refine hK.out _ _ ?_ (fun hHeld => ?_)
              · exact hS0.out
              clear hK K
              try simp only [Act.put, List.setIfInBounds_toArray, List.set_cons_zero, List.set_cons_succ]
              refine wpAnyH_ready (rs := [8]) (by kernel_rfl) (by simp) ?_
              refine AllReadyH.cons (o := { dst := some 64, op := Op.call { callee := Callee.value (Operand.func 45), args := #[Operand.tmp 63], argTypes := #[53] }, type := 53, pos := "law.go:28", after := #[{ on := 7, ground := Ground.data }], guard := none }) rfl (fun K hK => ?_) AllReadyH.nil
              go_simp
              refine (KR.out _ _ _ hs'.out q5d.out.bl).mono ?_; rintro e w6 ⟨v6, rfl, hO6, hb6⟩; obtain ⟨o6, c6, hv6⟩ := own_shp hO6; obtain ⟨n6, hn6⟩ : ∃ n, n = (s.steps.take 30).length := ⟨_, rfl⟩; rw [← hn6] at hv6; subst hv6; clear hn6; have q6 := hide' (q5d.out.over hb6); have z1 := q6.out.g2; have D6 : Hid (w6.heap[bx]? = some (.cells #[.int .i64 s.kind, .int .i64 s.k, .slice os s.steps.length cs] 82 (0, 0))) := (hb6.block bx (Array.getElem?_eq_some_iff.1 D5.out).1).trans D5.out; have hS6 := hide' (bx3 D6.out); have q6a := hide' (q6.out.over ((Below.refl _ w6).alloc (Nat.le_refl _) (.cells #[.int .i64 s.kind, .int .i64 s.k, .slice o6 n6 c6] 82))); have z1a := q6a.out.g2; have D6a : Hid ((w6.alloc (.cells #[.int .i64 s.kind, .int .i64 s.k, .slice o6 n6 c6] 82)).heap[bx]? = some (.cells #[.int .i64 s.kind, .int .i64 s.k, .slice os s.steps.length cs] 82 (0, 0))) := (((Below.refl w6.heap.size w6).alloc (Nat.le_refl _) _).block bx (Array.getElem?_eq_some_iff.1 D6.out).1).trans D6.out; have hS6a := hide' (bx3 D6a.out); have hO6' := hide' (own_down hO6 (show w.heap.size + 3 ≤ _ from q5d.out.lt)); have hs6 : w.heap.size + 3 ≤ w6.heap.size := q6.out.lt; clear hO6 hb6; (try dsimp only)
              refine hK.out _ _ ?_ (fun hHeld => ?_)
              · exact hS6.out
              clear hK K
              try simp only [Act.put, List.setIfInBounds_toArray, List.set_cons_zero, List.set_cons_succ]
              refine wpAnyH_take (i := 9) (oi := { dst := some 65, op := Op.build 82 #[(0, Operand.tmp 59), (1, Operand.tmp 61), (2, Operand.tmp 64)], type := 82, pos := "law.go:28", after := #[{ on := 3, ground := Ground.data }, { on := 5, ground := Ground.data }, { on := 8, ground := Ground.data }], guard := none }) (v := ?_) rfl (by kernel_rfl) (by kernel_rfl) (by kernel_rfl) (fun _ _ _ h => h) (Or.inl ⟨by rfl, ?_⟩) (by assumption) ?_
              rotate_left
              · intro w hSw; (try dsimp only at hSw); go_simp <;> with_reducible rfl
              simp only [Act.put, List.setIfInBounds_toArray, List.set_cons_zero, List.set_cons_succ]
              refine wpAnyH_ready (rs := [10]) (by kernel_rfl) (by simp) ?_
              refine AllReadyH.cons (o := { dst := some 66, op := Op.buildSlice 23 1 #[(0, Operand.tmp 65)], type := 23, pos := "law.go:28", after := #[{ on := 9, ground := Ground.data }], guard := none }) rfl (fun K hK => ?_) AllReadyH.nil
              go_simp
              refine hK.out _ _ ?_ (fun hHeld => ?_)
              · exact hS6a.out
              clear hK K
              try simp only [Act.put, List.setIfInBounds_toArray, List.set_cons_zero, List.set_cons_succ]
              refine wpAnyH_ready (rs := [11]) (by kernel_rfl) (by simp) ?_
              refine AllReadyH.cons (o := { dst := some 67, op := Op.call { callee := Callee.builtin Builtin.append, args := #[Operand.tmp 57, Operand.tmp 66], argTypes := #[23, 23] }, type := 23, pos := "law.go:28", after := #[{ on := 1, ground := Ground.data }, { on := 10, ground := Ground.data }, { on := 8, ground := Ground.chain }], guard := none }) rfl (fun K hK => ?_) AllReadyH.nil
              rw [if_pos (by rfl)]
              refine app1Lw elRl (.tmp 57) (.tmp 66) rfl (w.heap.size + 3) w6 (.slice o2 n2 c2) Q.length (cellsR Q) (rcells (cutR s, .slice o6 n6 c6)) rfl rfl q6.out.p2.row rfl (rcells_one _ rfl) hs6 (by omega) ?_; intro g7 cap7 w7 hown hgr hnw; obtain ⟨⟨d7, f7⟩, q7⟩ := q6.out.push2 (cutR s, .slice o6 n6 c6) hO6'.out hown hgr; have Q7 := hide' q7; have D7 : Hid (w7.heap[bx]? = some (.cells #[.int .i64 s.kind, .int .i64 s.k, .slice os s.steps.length cs] 82 (0, 0))) := (hgr.block bx (Array.getElem?_eq_some_iff.1 D6.out).1 fun e => hnb.out e.symm).trans D6.out; have hS7 := hide' (bx3 D7.out); have hS8 := hide' (bx3 ((Below.heap_setCell w7 ⟨w.heap.size + 2, 2, none⟩ (.slice (some ⟨g7, 0, none⟩) (Q.length + 1) cap7) bx (show bx ≠ w.heap.size + 2 by have := hbx.out; omega)).trans D7.out)); clear hown hgr hnw q7; (try dsimp only)
              refine hK.out _ _ ?_ (fun hHeld => ?_)
              · exact hS7.out
              clear hK K
              try simp only [Act.put, List.setIfInBounds_toArray, List.set_cons_zero, List.set_cons_succ]
              refine wpAnyH_take (i := 12) (oi := { dst := some 68, op := Op.fieldAddr 25 (Operand.tmp 3) 2, type := 0, pos := "law.go:28", after := #[{ on := 0, ground := Ground.phase }, { on := 1, ground := Ground.phase }, { on := 2, ground := Ground.phase }, { on := 3, ground := Ground.phase }, { on := 4, ground := Ground.phase }, { on := 5, ground := Ground.phase }, { on := 6, ground := Ground.phase }, { on := 7, ground := Ground.phase }, { on := 8, ground := Ground.phase }, { on := 9, ground := Ground.phase }, { on := 10, ground := Ground.phase }, { on := 11, ground := Ground.phase }], guard := none }) (v := ?_) rfl (by kernel_rfl) (by kernel_rfl) (by kernel_rfl) (fun _ _ _ h => h) (Or.inl ⟨by rfl, ?_⟩) (by assumption) ?_
              rotate_left
              · intro w hSw; (try dsimp only at hSw); go_simp <;> with_reducible rfl
              simp only [Act.put, List.setIfInBounds_toArray, List.set_cons_zero, List.set_cons_succ]
              refine wpAnyH_ready (rs := [13]) (by kernel_rfl) (by simp) ?_
              refine AllReadyH.cons (o := { dst := none, op := Op.store 23 (Operand.tmp 68) (Operand.tmp 67), type := 0, pos := "law.go:28", after := #[{ on := 12, ground := Ground.data }, { on := 11, ground := Ground.data }, { on := 11, ground := Ground.chain }, { on := 0, ground := Ground.phase }, { on := 1, ground := Ground.phase }, { on := 2, ground := Ground.phase }, { on := 3, ground := Ground.phase }, { on := 4, ground := Ground.phase }, { on := 5, ground := Ground.phase }, { on := 6, ground := Ground.phase }, { on := 7, ground := Ground.phase }, { on := 8, ground := Ground.phase }, { on := 9, ground := Ground.phase }, { on := 10, ground := Ground.phase }, { on := 11, ground := Ground.phase }], guard := none }) rfl (fun K hK => ?_) AllReadyH.nil
              go_simp
              refine hK.out _ _ ?_ (fun hHeld => ?_)
              · exact hS8.out
              clear hK K
              try simp only [Act.put, List.setIfInBounds_toArray, List.set_cons_zero, List.set_cons_succ]
              refine wpAnyH_done (by kernel_rfl) ?_ _
              skip
              have hm := hide' (hN.out (.slice o6 n6 c6))
              clear hN q6 q6a q5 q5d D5 D6 D6a D7 hS0 hS6 hS6a hS7 hS8 z1 z1a y1 d7 f7 hO6' hs' hHeld KR
              go_wp2
              exact ⟨⟨c + 1, Q ++ [(cutR s, .slice o6 n6 c6)], some ⟨g7, 0, none⟩, Q.length + 1, cap7, by omega, by omega, by simp; omega, by go_num, hm, Q7⟩, by simp [intOf]; omega⟩
            refine AllReadyH.cons (o := { dst := some 64, op := Op.call { callee := Callee.value (Operand.func 45), args := #[Operand.tmp 63], argTypes := #[53] }, type := 53, pos := "law.go:28", after := #[{ on := 7, ground := Ground.data }], guard := none }) rfl (fun K hK => ?_) AllReadyH.nil
            go_simp
            refine (KR.out _ _ _ hs'.out q5d.out.bl).mono ?_; rintro e w6 ⟨v6, rfl, hO6, hb6⟩; obtain ⟨o6, c6, hv6⟩ := own_shp hO6; obtain ⟨n6, hn6⟩ : ∃ n, n = (s.steps.take 30).length := ⟨_, rfl⟩; rw [← hn6] at hv6; subst hv6; clear hn6; have q6 := hide' (q5d.out.over hb6); have z1 := q6.out.g2; have D6 : Hid (w6.heap[bx]? = some (.cells #[.int .i64 s.kind, .int .i64 s.k, .slice os s.steps.length cs] 82 (0, 0))) := (hb6.block bx (Array.getElem?_eq_some_iff.1 D5.out).1).trans D5.out; have hS6 := hide' (bx3 D6.out); have q6a := hide' (q6.out.over ((Below.refl _ w6).alloc (Nat.le_refl _) (.cells #[.int .i64 s.kind, .int .i64 s.k, .slice o6 n6 c6] 82))); have z1a := q6a.out.g2; have D6a : Hid ((w6.alloc (.cells #[.int .i64 s.kind, .int .i64 s.k, .slice o6 n6 c6] 82)).heap[bx]? = some (.cells #[.int .i64 s.kind, .int .i64 s.k, .slice os s.steps.length cs] 82 (0, 0))) := (((Below.refl w6.heap.size w6).alloc (Nat.le_refl _) _).block bx (Array.getElem?_eq_some_iff.1 D6.out).1).trans D6.out; have hS6a := hide' (bx3 D6a.out); have hO6' := hide' (own_down hO6 (show w.heap.size + 3 ≤ _ from q5d.out.lt)); have hs6 : w.heap.size + 3 ≤ w6.heap.size := q6.out.lt; clear hO6 hb6; (try dsimp only)
            refine hK.out _ _ ?_ (fun hHeld => ?_)
            · exact hS6.out
            clear hK K
            try simp only [Act.put, List.setIfInBounds_toArray, List.set_cons_zero, List.set_cons_succ]
            refine wpAnyH_take (i := 9) (oi := { dst := some 65, op := Op.build 82 #[(0, Operand.tmp 59), (1, Operand.tmp 61), (2, Operand.tmp 64)], type := 82, pos := "law.go:28", after := #[{ on := 3, ground := Ground.data }, { on := 5, ground := Ground.data }, { on := 8, ground := Ground.data }], guard := none }) (v := ?_) rfl (by kernel_rfl) (by kernel_rfl) (by kernel_rfl) (fun _ _ _ h => h) (Or.inl ⟨by rfl, ?_⟩) (by assumption) ?_
            rotate_left
            · intro w hSw; (try dsimp only at hSw); go_simp <;> with_reducible rfl
            simp only [Act.put, List.setIfInBounds_toArray, List.set_cons_zero, List.set_cons_succ]
            refine wpAnyH_ready (rs := [1, 10]) (by kernel_rfl) (by simp) ?_
            refine AllReadyH.cons (o := { dst := some 57, op := Op.load 23 (Operand.tmp 56), type := 23, pos := "law.go:28", after := #[{ on := 0, ground := Ground.data }], guard := none }) rfl (fun K hK => ?_) ?_
            · skip
              go_simp
              refine hK.out _ _ ?_ (fun hHeld => ?_)
              · exact hS6.out
              clear hK K
              try simp only [Act.put, List.setIfInBounds_toArray, List.set_cons_zero, List.set_cons_succ]
              refine wpAnyH_ready (rs := [10]) (by kernel_rfl) (by simp) ?_
              refine AllReadyH.cons (o := { dst := some 66, op := Op.buildSlice 23 1 #[(0, Operand.tmp 65)], type := 23, pos := "law.go:28", after := #[{ on := 9, ground := Ground.data }], guard := none }) rfl (fun K hK => ?_) AllReadyH.nil
              go_simp
              refine hK.out _ _ ?_ (fun hHeld => ?_)
              · exact hS6a.out
              clear hK K
              try simp only [Act.put, List.setIfInBounds_toArray, List.set_cons_zero, List.set_cons_succ]
              refine wpAnyH_ready (rs := [11]) (by kernel_rfl) (by simp) ?_
              refine AllReadyH.cons (o := { dst := some 67, op := Op.call { callee := Callee.builtin Builtin.append, args := #[Operand.tmp 57, Operand.tmp 66], argTypes := #[23, 23] }, type := 23, pos := "law.go:28", after := #[{ on := 1, ground := Ground.data }, { on := 10, ground := Ground.data }, { on := 8, ground := Ground.chain }], guard := none }) rfl (fun K hK => ?_) AllReadyH.nil
              rw [if_pos (by rfl)]
              refine app1Lw elRl (.tmp 57) (.tmp 66) rfl (w.heap.size + 3) w6 (.slice o2 n2 c2) Q.length (cellsR Q) (rcells (cutR s, .slice o6 n6 c6)) rfl rfl q6.out.p2.row rfl (rcells_one _ rfl) hs6 (by omega) ?_; intro g7 cap7 w7 hown hgr hnw; obtain ⟨⟨d7, f7⟩, q7⟩ := q6.out.push2 (cutR s, .slice o6 n6 c6) hO6'.out hown hgr; have Q7 := hide' q7; have D7 : Hid (w7.heap[bx]? = some (.cells #[.int .i64 s.kind, .int .i64 s.k, .slice os s.steps.length cs] 82 (0, 0))) := (hgr.block bx (Array.getElem?_eq_some_iff.1 D6.out).1 fun e => hnb.out e.symm).trans D6.out; have hS7 := hide' (bx3 D7.out); have hS8 := hide' (bx3 ((Below.heap_setCell w7 ⟨w.heap.size + 2, 2, none⟩ (.slice (some ⟨g7, 0, none⟩) (Q.length + 1) cap7) bx (show bx ≠ w.heap.size + 2 by have := hbx.out; omega)).trans D7.out)); clear hown hgr hnw q7; (try dsimp only)
              refine hK.out _ _ ?_ (fun hHeld => ?_)
              · exact hS7.out
              clear hK K
              try simp only [Act.put, List.setIfInBounds_toArray, List.set_cons_zero, List.set_cons_succ]
              refine wpAnyH_take (i := 12) (oi := { dst := some 68, op := Op.fieldAddr 25 (Operand.tmp 3) 2, type := 0, pos := "law.go:28", after := #[{ on := 0, ground := Ground.phase }, { on := 1, ground := Ground.phase }, { on := 2, ground := Ground.phase }, { on := 3, ground := Ground.phase }, { on := 4, ground := Ground.phase }, { on := 5, ground := Ground.phase }, { on := 6, ground := Ground.phase }, { on := 7, ground := Ground.phase }, { on := 8, ground := Ground.phase }, { on := 9, ground := Ground.phase }, { on := 10, ground := Ground.phase }, { on := 11, ground := Ground.phase }], guard := none }) (v := ?_) rfl (by kernel_rfl) (by kernel_rfl) (by kernel_rfl) (fun _ _ _ h => h) (Or.inl ⟨by rfl, ?_⟩) (by assumption) ?_
              rotate_left
              · intro w hSw; (try dsimp only at hSw); go_simp <;> with_reducible rfl
              simp only [Act.put, List.setIfInBounds_toArray, List.set_cons_zero, List.set_cons_succ]
              refine wpAnyH_ready (rs := [13]) (by kernel_rfl) (by simp) ?_
              refine AllReadyH.cons (o := { dst := none, op := Op.store 23 (Operand.tmp 68) (Operand.tmp 67), type := 0, pos := "law.go:28", after := #[{ on := 12, ground := Ground.data }, { on := 11, ground := Ground.data }, { on := 11, ground := Ground.chain }, { on := 0, ground := Ground.phase }, { on := 1, ground := Ground.phase }, { on := 2, ground := Ground.phase }, { on := 3, ground := Ground.phase }, { on := 4, ground := Ground.phase }, { on := 5, ground := Ground.phase }, { on := 6, ground := Ground.phase }, { on := 7, ground := Ground.phase }, { on := 8, ground := Ground.phase }, { on := 9, ground := Ground.phase }, { on := 10, ground := Ground.phase }, { on := 11, ground := Ground.phase }], guard := none }) rfl (fun K hK => ?_) AllReadyH.nil
              go_simp
              refine hK.out _ _ ?_ (fun hHeld => ?_)
              · exact hS8.out
              clear hK K
              try simp only [Act.put, List.setIfInBounds_toArray, List.set_cons_zero, List.set_cons_succ]
              refine wpAnyH_done (by kernel_rfl) ?_ _
              skip
              have hm := hide' (hN.out (.slice o6 n6 c6))
              clear hN q6 q6a q5 q5d D5 D6 D6a D7 hS0 hS6 hS6a hS7 hS8 z1 z1a y1 d7 f7 hO6' hs' hHeld KR
              go_wp2
              exact ⟨⟨c + 1, Q ++ [(cutR s, .slice o6 n6 c6)], some ⟨g7, 0, none⟩, Q.length + 1, cap7, by omega, by omega, by simp; omega, by go_num, hm, Q7⟩, by simp [intOf]; omega⟩
            refine AllReadyH.cons (o := { dst := some 66, op := Op.buildSlice 23 1 #[(0, Operand.tmp 65)], type := 23, pos := "law.go:28", after := #[{ on := 9, ground := Ground.data }], guard := none }) rfl (fun K hK => ?_) AllReadyH.nil
            go_simp
            refine hK.out _ _ ?_ (fun hHeld => ?_)
            · exact hS6a.out
            clear hK K
            try simp only [Act.put, List.setIfInBounds_toArray, List.set_cons_zero, List.set_cons_succ]
            refine wpAnyH_ready (rs := [1]) (by kernel_rfl) (by simp) ?_
            refine AllReadyH.cons (o := { dst := some 57, op := Op.load 23 (Operand.tmp 56), type := 23, pos := "law.go:28", after := #[{ on := 0, ground := Ground.data }], guard := none }) rfl (fun K hK => ?_) AllReadyH.nil
            go_simp
            refine hK.out _ _ ?_ (fun hHeld => ?_)
            · exact hS6a.out
            clear hK K
            try simp only [Act.put, List.setIfInBounds_toArray, List.set_cons_zero, List.set_cons_succ]
            refine wpAnyH_ready (rs := [11]) (by kernel_rfl) (by simp) ?_
            refine AllReadyH.cons (o := { dst := some 67, op := Op.call { callee := Callee.builtin Builtin.append, args := #[Operand.tmp 57, Operand.tmp 66], argTypes := #[23, 23] }, type := 23, pos := "law.go:28", after := #[{ on := 1, ground := Ground.data }, { on := 10, ground := Ground.data }, { on := 8, ground := Ground.chain }], guard := none }) rfl (fun K hK => ?_) AllReadyH.nil
            rw [if_pos (by rfl)]
            refine app1Lw elRl (.tmp 57) (.tmp 66) rfl (w.heap.size + 3) w6 (.slice o2 n2 c2) Q.length (cellsR Q) (rcells (cutR s, .slice o6 n6 c6)) rfl rfl q6.out.p2.row rfl (rcells_one _ rfl) hs6 (by omega) ?_; intro g7 cap7 w7 hown hgr hnw; obtain ⟨⟨d7, f7⟩, q7⟩ := q6.out.push2 (cutR s, .slice o6 n6 c6) hO6'.out hown hgr; have Q7 := hide' q7; have D7 : Hid (w7.heap[bx]? = some (.cells #[.int .i64 s.kind, .int .i64 s.k, .slice os s.steps.length cs] 82 (0, 0))) := (hgr.block bx (Array.getElem?_eq_some_iff.1 D6.out).1 fun e => hnb.out e.symm).trans D6.out; have hS7 := hide' (bx3 D7.out); have hS8 := hide' (bx3 ((Below.heap_setCell w7 ⟨w.heap.size + 2, 2, none⟩ (.slice (some ⟨g7, 0, none⟩) (Q.length + 1) cap7) bx (show bx ≠ w.heap.size + 2 by have := hbx.out; omega)).trans D7.out)); clear hown hgr hnw q7; (try dsimp only)
            refine hK.out _ _ ?_ (fun hHeld => ?_)
            · exact hS7.out
            clear hK K
            try simp only [Act.put, List.setIfInBounds_toArray, List.set_cons_zero, List.set_cons_succ]
            refine wpAnyH_take (i := 12) (oi := { dst := some 68, op := Op.fieldAddr 25 (Operand.tmp 3) 2, type := 0, pos := "law.go:28", after := #[{ on := 0, ground := Ground.phase }, { on := 1, ground := Ground.phase }, { on := 2, ground := Ground.phase }, { on := 3, ground := Ground.phase }, { on := 4, ground := Ground.phase }, { on := 5, ground := Ground.phase }, { on := 6, ground := Ground.phase }, { on := 7, ground := Ground.phase }, { on := 8, ground := Ground.phase }, { on := 9, ground := Ground.phase }, { on := 10, ground := Ground.phase }, { on := 11, ground := Ground.phase }], guard := none }) (v := ?_) rfl (by kernel_rfl) (by kernel_rfl) (by kernel_rfl) (fun _ _ _ h => h) (Or.inl ⟨by rfl, ?_⟩) (by assumption) ?_
            rotate_left
            · intro w hSw; (try dsimp only at hSw); go_simp <;> with_reducible rfl
            simp only [Act.put, List.setIfInBounds_toArray, List.set_cons_zero, List.set_cons_succ]
            refine wpAnyH_ready (rs := [13]) (by kernel_rfl) (by simp) ?_
            refine AllReadyH.cons (o := { dst := none, op := Op.store 23 (Operand.tmp 68) (Operand.tmp 67), type := 0, pos := "law.go:28", after := #[{ on := 12, ground := Ground.data }, { on := 11, ground := Ground.data }, { on := 11, ground := Ground.chain }, { on := 0, ground := Ground.phase }, { on := 1, ground := Ground.phase }, { on := 2, ground := Ground.phase }, { on := 3, ground := Ground.phase }, { on := 4, ground := Ground.phase }, { on := 5, ground := Ground.phase }, { on := 6, ground := Ground.phase }, { on := 7, ground := Ground.phase }, { on := 8, ground := Ground.phase }, { on := 9, ground := Ground.phase }, { on := 10, ground := Ground.phase }, { on := 11, ground := Ground.phase }], guard := none }) rfl (fun K hK => ?_) AllReadyH.nil
            go_simp
            refine hK.out _ _ ?_ (fun hHeld => ?_)
            · exact hS8.out
            clear hK K
            try simp only [Act.put, List.setIfInBounds_toArray, List.set_cons_zero, List.set_cons_succ]
            refine wpAnyH_done (by kernel_rfl) ?_ _
            skip
            have hm := hide' (hN.out (.slice o6 n6 c6))
            clear hN q6 q6a q5 q5d D5 D6 D6a D7 hS0 hS6 hS6a hS7 hS8 z1 z1a y1 d7 f7 hO6' hs' hHeld KR
            go_wp2
            exact ⟨⟨c + 1, Q ++ [(cutR s, .slice o6 n6 c6)], some ⟨g7, 0, none⟩, Q.length + 1, cap7, by omega, by omega, by simp; omega, by go_num, hm, Q7⟩, by simp [intOf]; omega⟩
          · have hM3 := hide' (hE.out hgo)
            clear hE hM hcB'
            have z0 := hq.out.g0
            have z1 := hq.out.g1
            have z2 := hq.out.g2
            have hbr := hide' hq.out.br
            have y0 : wr.cell? ⟨w.heap.size + 1, 0, none⟩ = some (.string ⟨#[]⟩) := by simp [World.cell?, hbr.out]
            have y1 : wr.cell? ⟨w.heap.size + 1, 1, none⟩ = some (.slice none 0 0) := by simp [World.cell?, hbr.out]
            have y2 : wr.cell? ⟨w.heap.size + 1, 2, none⟩ = some (.slice none 0 0) := by simp [World.cell?, hbr.out]
            have g0 : wr.frozen? ⟨w.heap.size + 1, 0, none⟩ = false := by simp [World.frozen?, hbr.out]
            have g1 : wr.frozen? ⟨w.heap.size + 1, 1, none⟩ = false := by simp [World.frozen?, hbr.out]
            have g2 : wr.frozen? ⟨w.heap.size + 1, 2, none⟩ = false := by simp [World.frozen?, hbr.out]
            have hF := hide' (hFin.out (.slice o1 n1 c1) (.slice o2 n2 c2) P Q (((wr.setCell ⟨w.heap.size + 1, 0, none⟩ (.string nm)).setCell ⟨w.heap.size + 1, 1, none⟩ (.slice o1 n1 c1)).setCell ⟨w.heap.size + 1, 2, none⟩ (.slice o2 n2 c2)) hM2.out hM3.out (hq.out.p1.low3 (.string nm) (.slice o1 n1 c1) (.slice o2 n2 c2)) (hq.out.p2.low3 (.string nm) (.slice o1 n1 c1) (.slice o2 n2 c2)) (((hq.out.bl.setCell (p := ⟨w.heap.size + 1, 0, none⟩) (Nat.le_succ _) _).setCell (p := ⟨w.heap.size + 1, 1, none⟩) (Nat.le_succ _) _).setCell (p := ⟨w.heap.size + 1, 2, none⟩) (Nat.le_succ _) _))
            have r3 : Hid ((((wr.setCell ⟨w.heap.size + 1, 0, none⟩ (.string nm)).setCell ⟨w.heap.size + 1, 1, none⟩ (.slice o1 n1 c1)).setCell ⟨w.heap.size + 1, 2, none⟩ (.slice o2 n2 c2)).heap[w.heap.size + 1]? = some (.cells #[.string nm, .slice o1 n1 c1, .slice o2 n2 c2] 25 (0, 0))) := heap_set_at _ (heap_set_at _ (heap_set_at _ hbr.out))
            clear hq hFin hbr hM2 hM3 KR
            by_cases hltr : c < RL.length
            · have h60 : ¬ c < 60 := fun h => hgo ⟨hltr, h⟩
              clear hgo
              go_wp2
              obtain ⟨WF, hWF⟩ : ∃ WF, WF = ((wr.setCell ⟨w.heap.size + 1, 0, none⟩ (.string nm)).setCell ⟨w.heap.size + 1, 1, none⟩ (.slice o1 n1 c1)).setCell ⟨w.heap.size + 1, 2, none⟩ (.slice o2 n2 c2) := ⟨_, rfl⟩
              rw [← hWF] at hF r3 ⊢
              have k0 : WF.cell? ⟨w.heap.size + 1, 0, none⟩ = some (.string nm) := by simp [World.cell?, r3.out]
              have k1 : WF.cell? ⟨w.heap.size + 1, 1, none⟩ = some (.slice o1 n1 c1) := by simp [World.cell?, r3.out]
              have k2 : WF.cell? ⟨w.heap.size + 1, 2, none⟩ = some (.slice o2 n2 c2) := by simp [World.cell?, r3.out]
              refine bodyPost_ret (v := .agg #[.string nm, .slice o1 n1 c1, .slice o2 n2 c2]) ?_ rfl hF.out
              simp [results, Tryz.results9, go_sem, k0, k1, k2]
            · clear hgo
              go_wp2
              obtain ⟨WF, hWF⟩ : ∃ WF, WF = ((wr.setCell ⟨w.heap.size + 1, 0, none⟩ (.string nm)).setCell ⟨w.heap.size + 1, 1, none⟩ (.slice o1 n1 c1)).setCell ⟨w.heap.size + 1, 2, none⟩ (.slice o2 n2 c2) := ⟨_, rfl⟩
              rw [← hWF] at hF r3 ⊢
              have k0 : WF.cell? ⟨w.heap.size + 1, 0, none⟩ = some (.string nm) := by simp [World.cell?, r3.out]
              have k1 : WF.cell? ⟨w.heap.size + 1, 1, none⟩ = some (.slice o1 n1 c1) := by simp [World.cell?, r3.out]
              have k2 : WF.cell? ⟨w.heap.size + 1, 2, none⟩ = some (.slice o2 n2 c2) := by simp [World.cell?, r3.out]
              refine bodyPost_ret (v := .agg #[.string nm, .slice o1 n1 c1, .slice o2 n2 c2]) ?_ rfl hF.out
              simp [results, Tryz.results9, go_sem, k0, k1, k2]
      · clear hgo
        go_wp2
        go_loopw [6] (fun k wr => ∃ (c : Nat) (Q : List (Rl × Value)) (o2 : Option Addr) (n2 c2 : Nat), c ≤ RL.length ∧ c ≤ 60 ∧ Q.length ≤ c ∧ k = .int .i64 c ∧ Hid (Q.map Prod.fst = (RL.take c).map cutR) ∧ Hid (Gq w nm (.slice oa SL.length cap) (.slice ob RL.length cb) (.slice o1 n1 c1) (.slice o2 n2 c2) P Q wr)) (fun k _ => ((60 : Int) - intOf k).toNat)
        case atStart => exact ⟨0, [], none, 0, 0, Nat.zero_le _, Nat.zero_le _, Nat.zero_le _, rfl, rfl, hq⟩
        case round =>
          clear hq x1
          obtain ⟨c, Q, o2, n2, c2, hcl2, hc60, hQl, rfl, hM, hq⟩ := hrel
          have x2 := hq.out.f2
          have hE : Hid (¬ (c < RL.length ∧ c < 60) → Q.map Prod.fst = (RL.take 60).map cutR) := fun hne => by
            rw [hM.out]
            congr 1
            by_cases h1 : c < RL.length
            · rw [show c = 60 by omega]
            · rw [List.take_of_length_le (by omega), List.take_of_length_le (by omega)]
          by_cases hgo : c < RL.length ∧ c < 60
          · obtain ⟨hltr, h60⟩ := hgo
            obtain ⟨s, hx⟩ : ∃ x, RL[c]? = some x := ⟨_, List.getElem?_eq_getElem hltr⟩
            obtain ⟨g, o, av, rfl, c1', c2', c3', hs⟩ := hcB'.out c s hx
            have d1 := (hq.out.bl.cell (p := ⟨g, o + c * 3, none⟩) (cell_lt c1')).trans c1'
            have d2 := (hq.out.bl.cell (p := ⟨g, o + c * 3 + 1, none⟩) (cell_lt c2')).trans c2'
            have d3 := (hq.out.bl.cell (p := ⟨g, o + c * 3 + 2, none⟩) (cell_lt c3')).trans c3'
            have hs' := hide' hs
            obtain ⟨os, cs, rfl, _, _⟩ := hs
            have hN : Hid (∀ u, (Q ++ [(cutR s, u)]).map Prod.fst = (RL.take (c + 1)).map cutR) := fun u => by rw [take_mapn cutR hx, ← hM.out]; simp
            have q5 := hide' (hq.out.over ((Below.refl _ wr).alloc (Nat.le_refl _) (.cells #[.int .i64 s.kind, .int .i64 s.k, .slice os s.steps.length cs] 82)))
            have D5 := hide' (heap_alloc_new wr (.cells #[.int .i64 s.kind, .int .i64 s.k, .slice os s.steps.length cs] 82))
            have hnb : Hid ((Value.slice o2 n2 c2).ownBlock ≠ some wr.heap.size) := fun e => absurd (own_lt' hq.out.p2.row e) (Nat.lt_irrefl _)
            have hbx := hide' hq.out.lt
            clear hE hcB' c1' c2' c3' hx hM hq hFin
            go_wp2
            generalize hbw : wr.heap.size = bx at *
            generalize wr.alloc (.cells #[.int .i64 s.kind, .int .i64 s.k, .slice os s.steps.length cs] 82) = W5 at *
            clear hbw
            have q5d := hide' (q5.out.over (Below.refl _ _).drew)
            have y1 := q5d.out.g2
            have hS0 := hide' (bx3 (V := W5.drew) D5.out)
            refine wp_region_held_drew (S := (fun V => V.cell? ⟨bx, 0, none⟩ = some (.int .i64 s.kind) ∧ V.cell? ⟨bx, 1, none⟩ = some (.int .i64 s.k) ∧ V.cell? ⟨bx, 2, none⟩ = some (.slice os s.steps.length cs))) (by kernel_rfl) ?_ (fun hHeld => ?_)
            · exact hS0.out
            refine wpAnyH_take (i := 0) (oi := { dst := some 56, op := Op.fieldAddr 25 (Operand.tmp 3) 2, type := 0, pos := "law.go:28", after := #[], guard := none }) (v := ?_) rfl (by kernel_rfl) (by kernel_rfl) (by kernel_rfl) (fun _ _ _ h => h) (Or.inl ⟨by rfl, ?_⟩) (by assumption) ?_
            rotate_left
            · intro w hSw; (try dsimp only at hSw); go_simp <;> with_reducible rfl
            simp only [Act.put, List.setIfInBounds_toArray, List.set_cons_zero, List.set_cons_succ]
            refine wpAnyH_take (i := 2) (oi := { dst := some 58, op := Op.fieldAddr 82 (Operand.tmp 7) 0, type := 0, pos := "law.go:28", after := #[], guard := none }) (v := ?_) rfl (by kernel_rfl) (by kernel_rfl) (by kernel_rfl) (fun _ _ _ h => h) (Or.inl ⟨by rfl, ?_⟩) (by assumption) ?_
            rotate_left
            · intro w hSw; (try dsimp only at hSw); go_simp <;> with_reducible rfl
            simp only [Act.put, List.setIfInBounds_toArray, List.set_cons_zero, List.set_cons_succ]
            refine wpAnyH_take (i := 3) (oi := { dst := some 59, op := Op.load 3 (Operand.tmp 58), type := 3, pos := "law.go:28", after := #[{ on := 2, ground := Ground.data }], guard := none }) (v := ?_) rfl (by kernel_rfl) (by kernel_rfl) (by kernel_rfl) (fun _ _ _ h => h) (Or.inl ⟨by rfl, ?_⟩) (by assumption) ?_
            rotate_left
            · intro w hSw; (try dsimp only at hSw); go_simp <;> with_reducible rfl
            simp only [Act.put, List.setIfInBounds_toArray, List.set_cons_zero, List.set_cons_succ]
            refine wpAnyH_take (i := 4) (oi := { dst := some 60, op := Op.fieldAddr 82 (Operand.tmp 7) 1, type := 0, pos := "law.go:28", after := #[], guard := none }) (v := ?_) rfl (by kernel_rfl) (by kernel_rfl) (by kernel_rfl) (fun _ _ _ h => h) (Or.inl ⟨by rfl, ?_⟩) (by assumption) ?_
            rotate_left
            · intro w hSw; (try dsimp only at hSw); go_simp <;> with_reducible rfl
            simp only [Act.put, List.setIfInBounds_toArray, List.set_cons_zero, List.set_cons_succ]
            refine wpAnyH_take (i := 5) (oi := { dst := some 61, op := Op.load 3 (Operand.tmp 60), type := 3, pos := "law.go:28", after := #[{ on := 4, ground := Ground.data }], guard := none }) (v := ?_) rfl (by kernel_rfl) (by kernel_rfl) (by kernel_rfl) (fun _ _ _ h => h) (Or.inl ⟨by rfl, ?_⟩) (by assumption) ?_
            rotate_left
            · intro w hSw; (try dsimp only at hSw); go_simp <;> with_reducible rfl
            simp only [Act.put, List.setIfInBounds_toArray, List.set_cons_zero, List.set_cons_succ]
            refine wpAnyH_take (i := 6) (oi := { dst := some 62, op := Op.fieldAddr 82 (Operand.tmp 7) 2, type := 0, pos := "law.go:28", after := #[], guard := none }) (v := ?_) rfl (by kernel_rfl) (by kernel_rfl) (by kernel_rfl) (fun _ _ _ h => h) (Or.inl ⟨by rfl, ?_⟩) (by assumption) ?_
            rotate_left
            · intro w hSw; (try dsimp only at hSw); go_simp <;> with_reducible rfl
            simp only [Act.put, List.setIfInBounds_toArray, List.set_cons_zero, List.set_cons_succ]
            refine wpAnyH_take (i := 7) (oi := { dst := some 63, op := Op.load 53 (Operand.tmp 62), type := 53, pos := "law.go:28", after := #[{ on := 6, ground := Ground.data }], guard := none }) (v := ?_) rfl (by kernel_rfl) (by kernel_rfl) (by kernel_rfl) (fun _ _ _ h => h) (Or.inl ⟨by rfl, ?_⟩) (by assumption) ?_
            rotate_left
            · intro w hSw; (try dsimp only at hSw); go_simp <;> with_reducible rfl
            simp only [Act.put, List.setIfInBounds_toArray, List.set_cons_zero, List.set_cons_succ]
            refine wpAnyH_ready (rs := [1, 8]) (by kernel_rfl) (by simp) ?_
            refine AllReadyH.cons (o := { dst := some 57, op := Op.load 23 (Operand.tmp 56), type := 23, pos := "law.go:28", after := #[{ on := 0, ground := Ground.data }], guard := none }) rfl (fun K hK => ?_) ?_
            · skip
              go_simp
              refine hK.out _ _ ?_ (fun hHeld => ?_)
              · exact hS0.out
              clear hK K
              try simp only [Act.put, List.setIfInBounds_toArray, List.set_cons_zero, List.set_cons_succ]
              refine wpAnyH_ready (rs := [8]) (by kernel_rfl) (by simp) ?_
              refine AllReadyH.cons (o := { dst := some 64, op := Op.call { callee := Callee.value (Operand.func 45), args := #[Operand.tmp 63], argTypes := #[53] }, type := 53, pos := "law.go:28", after := #[{ on := 7, ground := Ground.data }], guard := none }) rfl (fun K hK => ?_) AllReadyH.nil
              go_simp
              refine (KR.out _ _ _ hs'.out q5d.out.bl).mono ?_; rintro e w6 ⟨v6, rfl, hO6, hb6⟩; obtain ⟨o6, c6, hv6⟩ := own_shp hO6; obtain ⟨n6, hn6⟩ : ∃ n, n = (s.steps.take 30).length := ⟨_, rfl⟩; rw [← hn6] at hv6; subst hv6; clear hn6; have q6 := hide' (q5d.out.over hb6); have z1 := q6.out.g2; have D6 : Hid (w6.heap[bx]? = some (.cells #[.int .i64 s.kind, .int .i64 s.k, .slice os s.steps.length cs] 82 (0, 0))) := (hb6.block bx (Array.getElem?_eq_some_iff.1 D5.out).1).trans D5.out; have hS6 := hide' (bx3 D6.out); have q6a := hide' (q6.out.over ((Below.refl _ w6).alloc (Nat.le_refl _) (.cells #[.int .i64 s.kind, .int .i64 s.k, .slice o6 n6 c6] 82))); have z1a := q6a.out.g2; have D6a : Hid ((w6.alloc (.cells #[.int .i64 s.kind, .int .i64 s.k, .slice o6 n6 c6] 82)).heap[bx]? = some (.cells #[.int .i64 s.kind, .int .i64 s.k, .slice os s.steps.length cs] 82 (0, 0))) := (((Below.refl w6.heap.size w6).alloc (Nat.le_refl _) _).block bx (Array.getElem?_eq_some_iff.1 D6.out).1).trans D6.out; have hS6a := hide' (bx3 D6a.out); have hO6' := hide' (own_down hO6 (show w.heap.size + 3 ≤ _ from q5d.out.lt)); have hs6 : w.heap.size + 3 ≤ w6.heap.size := q6.out.lt; clear hO6 hb6; (try dsimp only)
              refine hK.out _ _ ?_ (fun hHeld => ?_)
              · exact hS6.out
              clear hK K
              try simp only [Act.put, List.setIfInBounds_toArray, List.set_cons_zero, List.set_cons_succ]
              refine wpAnyH_take (i := 9) (oi := { dst := some 65, op := Op.build 82 #[(0, Operand.tmp 59), (1, Operand.tmp 61), (2, Operand.tmp 64)], type := 82, pos := "law.go:28", after := #[{ on := 3, ground := Ground.data }, { on := 5, ground := Ground.data }, { on := 8, ground := Ground.data }], guard := none }) (v := ?_) rfl (by kernel_rfl) (by kernel_rfl) (by kernel_rfl) (fun _ _ _ h => h) (Or.inl ⟨by rfl, ?_⟩) (by assumption) ?_
              rotate_left
              · intro w hSw; (try dsimp only at hSw); go_simp <;> with_reducible rfl
              simp only [Act.put, List.setIfInBounds_toArray, List.set_cons_zero, List.set_cons_succ]
              refine wpAnyH_ready (rs := [10]) (by kernel_rfl) (by simp) ?_
              refine AllReadyH.cons (o := { dst := some 66, op := Op.buildSlice 23 1 #[(0, Operand.tmp 65)], type := 23, pos := "law.go:28", after := #[{ on := 9, ground := Ground.data }], guard := none }) rfl (fun K hK => ?_) AllReadyH.nil
              go_simp
              refine hK.out _ _ ?_ (fun hHeld => ?_)
              · exact hS6a.out
              clear hK K
              try simp only [Act.put, List.setIfInBounds_toArray, List.set_cons_zero, List.set_cons_succ]
              refine wpAnyH_ready (rs := [11]) (by kernel_rfl) (by simp) ?_
              refine AllReadyH.cons (o := { dst := some 67, op := Op.call { callee := Callee.builtin Builtin.append, args := #[Operand.tmp 57, Operand.tmp 66], argTypes := #[23, 23] }, type := 23, pos := "law.go:28", after := #[{ on := 1, ground := Ground.data }, { on := 10, ground := Ground.data }, { on := 8, ground := Ground.chain }], guard := none }) rfl (fun K hK => ?_) AllReadyH.nil
              rw [if_pos (by rfl)]
              refine app1Lw elRl (.tmp 57) (.tmp 66) rfl (w.heap.size + 3) w6 (.slice o2 n2 c2) Q.length (cellsR Q) (rcells (cutR s, .slice o6 n6 c6)) rfl rfl q6.out.p2.row rfl (rcells_one _ rfl) hs6 (by omega) ?_; intro g7 cap7 w7 hown hgr hnw; obtain ⟨⟨d7, f7⟩, q7⟩ := q6.out.push2 (cutR s, .slice o6 n6 c6) hO6'.out hown hgr; have Q7 := hide' q7; have D7 : Hid (w7.heap[bx]? = some (.cells #[.int .i64 s.kind, .int .i64 s.k, .slice os s.steps.length cs] 82 (0, 0))) := (hgr.block bx (Array.getElem?_eq_some_iff.1 D6.out).1 fun e => hnb.out e.symm).trans D6.out; have hS7 := hide' (bx3 D7.out); have hS8 := hide' (bx3 ((Below.heap_setCell w7 ⟨w.heap.size + 2, 2, none⟩ (.slice (some ⟨g7, 0, none⟩) (Q.length + 1) cap7) bx (show bx ≠ w.heap.size + 2 by have := hbx.out; omega)).trans D7.out)); clear hown hgr hnw q7; (try dsimp only)
              refine hK.out _ _ ?_ (fun hHeld => ?_)
              · exact hS7.out
              clear hK K
              try simp only [Act.put, List.setIfInBounds_toArray, List.set_cons_zero, List.set_cons_succ]
              refine wpAnyH_take (i := 12) (oi := { dst := some 68, op := Op.fieldAddr 25 (Operand.tmp 3) 2, type := 0, pos := "law.go:28", after := #[{ on := 0, ground := Ground.phase }, { on := 1, ground := Ground.phase }, { on := 2, ground := Ground.phase }, { on := 3, ground := Ground.phase }, { on := 4, ground := Ground.phase }, { on := 5, ground := Ground.phase }, { on := 6, ground := Ground.phase }, { on := 7, ground := Ground.phase }, { on := 8, ground := Ground.phase }, { on := 9, ground := Ground.phase }, { on := 10, ground := Ground.phase }, { on := 11, ground := Ground.phase }], guard := none }) (v := ?_) rfl (by kernel_rfl) (by kernel_rfl) (by kernel_rfl) (fun _ _ _ h => h) (Or.inl ⟨by rfl, ?_⟩) (by assumption) ?_
              rotate_left
              · intro w hSw; (try dsimp only at hSw); go_simp <;> with_reducible rfl
              simp only [Act.put, List.setIfInBounds_toArray, List.set_cons_zero, List.set_cons_succ]
              refine wpAnyH_ready (rs := [13]) (by kernel_rfl) (by simp) ?_
              refine AllReadyH.cons (o := { dst := none, op := Op.store 23 (Operand.tmp 68) (Operand.tmp 67), type := 0, pos := "law.go:28", after := #[{ on := 12, ground := Ground.data }, { on := 11, ground := Ground.data }, { on := 11, ground := Ground.chain }, { on := 0, ground := Ground.phase }, { on := 1, ground := Ground.phase }, { on := 2, ground := Ground.phase }, { on := 3, ground := Ground.phase }, { on := 4, ground := Ground.phase }, { on := 5, ground := Ground.phase }, { on := 6, ground := Ground.phase }, { on := 7, ground := Ground.phase }, { on := 8, ground := Ground.phase }, { on := 9, ground := Ground.phase }, { on := 10, ground := Ground.phase }, { on := 11, ground := Ground.phase }], guard := none }) rfl (fun K hK => ?_) AllReadyH.nil
              go_simp
              refine hK.out _ _ ?_ (fun hHeld => ?_)
              · exact hS8.out
              clear hK K
              try simp only [Act.put, List.setIfInBounds_toArray, List.set_cons_zero, List.set_cons_succ]
              refine wpAnyH_done (by kernel_rfl) ?_ _
              skip
              have hm := hide' (hN.out (.slice o6 n6 c6))
              clear hN q6 q6a q5 q5d D5 D6 D6a D7 hS0 hS6 hS6a hS7 hS8 z1 z1a y1 d7 f7 hO6' hs' hHeld KR
              go_wp2
              exact ⟨⟨c + 1, Q ++ [(cutR s, .slice o6 n6 c6)], some ⟨g7, 0, none⟩, Q.length + 1, cap7, by omega, by omega, by simp; omega, by go_num, hm, Q7⟩, by simp [intOf]; omega⟩
            refine AllReadyH.cons (o := { dst := some 64, op := Op.call { callee := Callee.value (Operand.func 45), args := #[Operand.tmp 63], argTypes := #[53] }, type := 53, pos := "law.go:28", after := #[{ on := 7, ground := Ground.data }], guard := none }) rfl (fun K hK => ?_) AllReadyH.nil
            go_simp
            refine (KR.out _ _ _ hs'.out q5d.out.bl).mono ?_; rintro e w6 ⟨v6, rfl, hO6, hb6⟩; obtain ⟨o6, c6, hv6⟩ := own_shp hO6; obtain ⟨n6, hn6⟩ : ∃ n, n = (s.steps.take 30).length := ⟨_, rfl⟩; rw [← hn6] at hv6; subst hv6; clear hn6; have q6 := hide' (q5d.out.over hb6); have z1 := q6.out.g2; have D6 : Hid (w6.heap[bx]? = some (.cells #[.int .i64 s.kind, .int .i64 s.k, .slice os s.steps.length cs] 82 (0, 0))) := (hb6.block bx (Array.getElem?_eq_some_iff.1 D5.out).1).trans D5.out; have hS6 := hide' (bx3 D6.out); have q6a := hide' (q6.out.over ((Below.refl _ w6).alloc (Nat.le_refl _) (.cells #[.int .i64 s.kind, .int .i64 s.k, .slice o6 n6 c6] 82))); have z1a := q6a.out.g2; have D6a : Hid ((w6.alloc (.cells #[.int .i64 s.kind, .int .i64 s.k, .slice o6 n6 c6] 82)).heap[bx]? = some (.cells #[.int .i64 s.kind, .int .i64 s.k, .slice os s.steps.length cs] 82 (0, 0))) := (((Below.refl w6.heap.size w6).alloc (Nat.le_refl _) _).block bx (Array.getElem?_eq_some_iff.1 D6.out).1).trans D6.out; have hS6a := hide' (bx3 D6a.out); have hO6' := hide' (own_down hO6 (show w.heap.size + 3 ≤ _ from q5d.out.lt)); have hs6 : w.heap.size + 3 ≤ w6.heap.size := q6.out.lt; clear hO6 hb6; (try dsimp only)
            refine hK.out _ _ ?_ (fun hHeld => ?_)
            · exact hS6.out
            clear hK K
            try simp only [Act.put, List.setIfInBounds_toArray, List.set_cons_zero, List.set_cons_succ]
            refine wpAnyH_take (i := 9) (oi := { dst := some 65, op := Op.build 82 #[(0, Operand.tmp 59), (1, Operand.tmp 61), (2, Operand.tmp 64)], type := 82, pos := "law.go:28", after := #[{ on := 3, ground := Ground.data }, { on := 5, ground := Ground.data }, { on := 8, ground := Ground.data }], guard := none }) (v := ?_) rfl (by kernel_rfl) (by kernel_rfl) (by kernel_rfl) (fun _ _ _ h => h) (Or.inl ⟨by rfl, ?_⟩) (by assumption) ?_
            rotate_left
            · intro w hSw; (try dsimp only at hSw); go_simp <;> with_reducible rfl
            simp only [Act.put, List.setIfInBounds_toArray, List.set_cons_zero, List.set_cons_succ]
            refine wpAnyH_ready (rs := [1, 10]) (by kernel_rfl) (by simp) ?_
            refine AllReadyH.cons (o := { dst := some 57, op := Op.load 23 (Operand.tmp 56), type := 23, pos := "law.go:28", after := #[{ on := 0, ground := Ground.data }], guard := none }) rfl (fun K hK => ?_) ?_
            · skip
              go_simp
              refine hK.out _ _ ?_ (fun hHeld => ?_)
              · exact hS6.out
              clear hK K
              try simp only [Act.put, List.setIfInBounds_toArray, List.set_cons_zero, List.set_cons_succ]
              refine wpAnyH_ready (rs := [10]) (by kernel_rfl) (by simp) ?_
              refine AllReadyH.cons (o := { dst := some 66, op := Op.buildSlice 23 1 #[(0, Operand.tmp 65)], type := 23, pos := "law.go:28", after := #[{ on := 9, ground := Ground.data }], guard := none }) rfl (fun K hK => ?_) AllReadyH.nil
              go_simp
              refine hK.out _ _ ?_ (fun hHeld => ?_)
              · exact hS6a.out
              clear hK K
              try simp only [Act.put, List.setIfInBounds_toArray, List.set_cons_zero, List.set_cons_succ]
              refine wpAnyH_ready (rs := [11]) (by kernel_rfl) (by simp) ?_
              refine AllReadyH.cons (o := { dst := some 67, op := Op.call { callee := Callee.builtin Builtin.append, args := #[Operand.tmp 57, Operand.tmp 66], argTypes := #[23, 23] }, type := 23, pos := "law.go:28", after := #[{ on := 1, ground := Ground.data }, { on := 10, ground := Ground.data }, { on := 8, ground := Ground.chain }], guard := none }) rfl (fun K hK => ?_) AllReadyH.nil
              rw [if_pos (by rfl)]
              refine app1Lw elRl (.tmp 57) (.tmp 66) rfl (w.heap.size + 3) w6 (.slice o2 n2 c2) Q.length (cellsR Q) (rcells (cutR s, .slice o6 n6 c6)) rfl rfl q6.out.p2.row rfl (rcells_one _ rfl) hs6 (by omega) ?_; intro g7 cap7 w7 hown hgr hnw; obtain ⟨⟨d7, f7⟩, q7⟩ := q6.out.push2 (cutR s, .slice o6 n6 c6) hO6'.out hown hgr; have Q7 := hide' q7; have D7 : Hid (w7.heap[bx]? = some (.cells #[.int .i64 s.kind, .int .i64 s.k, .slice os s.steps.length cs] 82 (0, 0))) := (hgr.block bx (Array.getElem?_eq_some_iff.1 D6.out).1 fun e => hnb.out e.symm).trans D6.out; have hS7 := hide' (bx3 D7.out); have hS8 := hide' (bx3 ((Below.heap_setCell w7 ⟨w.heap.size + 2, 2, none⟩ (.slice (some ⟨g7, 0, none⟩) (Q.length + 1) cap7) bx (show bx ≠ w.heap.size + 2 by have := hbx.out; omega)).trans D7.out)); clear hown hgr hnw q7; (try dsimp only)
              refine hK.out _ _ ?_ (fun hHeld => ?_)
              · exact hS7.out
              clear hK K
              try simp only [Act.put, List.setIfInBounds_toArray, List.set_cons_zero, List.set_cons_succ]
              refine wpAnyH_take (i := 12) (oi := { dst := some 68, op := Op.fieldAddr 25 (Operand.tmp 3) 2, type := 0, pos := "law.go:28", after := #[{ on := 0, ground := Ground.phase }, { on := 1, ground := Ground.phase }, { on := 2, ground := Ground.phase }, { on := 3, ground := Ground.phase }, { on := 4, ground := Ground.phase }, { on := 5, ground := Ground.phase }, { on := 6, ground := Ground.phase }, { on := 7, ground := Ground.phase }, { on := 8, ground := Ground.phase }, { on := 9, ground := Ground.phase }, { on := 10, ground := Ground.phase }, { on := 11, ground := Ground.phase }], guard := none }) (v := ?_) rfl (by kernel_rfl) (by kernel_rfl) (by kernel_rfl) (fun _ _ _ h => h) (Or.inl ⟨by rfl, ?_⟩) (by assumption) ?_
              rotate_left
              · intro w hSw; (try dsimp only at hSw); go_simp <;> with_reducible rfl
              simp only [Act.put, List.setIfInBounds_toArray, List.set_cons_zero, List.set_cons_succ]
              refine wpAnyH_ready (rs := [13]) (by kernel_rfl) (by simp) ?_
              refine AllReadyH.cons (o := { dst := none, op := Op.store 23 (Operand.tmp 68) (Operand.tmp 67), type := 0, pos := "law.go:28", after := #[{ on := 12, ground := Ground.data }, { on := 11, ground := Ground.data }, { on := 11, ground := Ground.chain }, { on := 0, ground := Ground.phase }, { on := 1, ground := Ground.phase }, { on := 2, ground := Ground.phase }, { on := 3, ground := Ground.phase }, { on := 4, ground := Ground.phase }, { on := 5, ground := Ground.phase }, { on := 6, ground := Ground.phase }, { on := 7, ground := Ground.phase }, { on := 8, ground := Ground.phase }, { on := 9, ground := Ground.phase }, { on := 10, ground := Ground.phase }, { on := 11, ground := Ground.phase }], guard := none }) rfl (fun K hK => ?_) AllReadyH.nil
              go_simp
              refine hK.out _ _ ?_ (fun hHeld => ?_)
              · exact hS8.out
              clear hK K
              try simp only [Act.put, List.setIfInBounds_toArray, List.set_cons_zero, List.set_cons_succ]
              refine wpAnyH_done (by kernel_rfl) ?_ _
              skip
              have hm := hide' (hN.out (.slice o6 n6 c6))
              clear hN q6 q6a q5 q5d D5 D6 D6a D7 hS0 hS6 hS6a hS7 hS8 z1 z1a y1 d7 f7 hO6' hs' hHeld KR
              go_wp2
              exact ⟨⟨c + 1, Q ++ [(cutR s, .slice o6 n6 c6)], some ⟨g7, 0, none⟩, Q.length + 1, cap7, by omega, by omega, by simp; omega, by go_num, hm, Q7⟩, by simp [intOf]; omega⟩
            refine AllReadyH.cons (o := { dst := some 66, op := Op.buildSlice 23 1 #[(0, Operand.tmp 65)], type := 23, pos := "law.go:28", after := #[{ on := 9, ground := Ground.data }], guard := none }) rfl (fun K hK => ?_) AllReadyH.nil
            go_simp
            refine hK.out _ _ ?_ (fun hHeld => ?_)
            · exact hS6a.out
            clear hK K
            try simp only [Act.put, List.setIfInBounds_toArray, List.set_cons_zero, List.set_cons_succ]
            refine wpAnyH_ready (rs := [1]) (by kernel_rfl) (by simp) ?_
            refine AllReadyH.cons (o := { dst := some 57, op := Op.load 23 (Operand.tmp 56), type := 23, pos := "law.go:28", after := #[{ on := 0, ground := Ground.data }], guard := none }) rfl (fun K hK => ?_) AllReadyH.nil
            go_simp
            refine hK.out _ _ ?_ (fun hHeld => ?_)
            · exact hS6a.out
            clear hK K
            try simp only [Act.put, List.setIfInBounds_toArray, List.set_cons_zero, List.set_cons_succ]
            refine wpAnyH_ready (rs := [11]) (by kernel_rfl) (by simp) ?_
            refine AllReadyH.cons (o := { dst := some 67, op := Op.call { callee := Callee.builtin Builtin.append, args := #[Operand.tmp 57, Operand.tmp 66], argTypes := #[23, 23] }, type := 23, pos := "law.go:28", after := #[{ on := 1, ground := Ground.data }, { on := 10, ground := Ground.data }, { on := 8, ground := Ground.chain }], guard := none }) rfl (fun K hK => ?_) AllReadyH.nil
            rw [if_pos (by rfl)]
            refine app1Lw elRl (.tmp 57) (.tmp 66) rfl (w.heap.size + 3) w6 (.slice o2 n2 c2) Q.length (cellsR Q) (rcells (cutR s, .slice o6 n6 c6)) rfl rfl q6.out.p2.row rfl (rcells_one _ rfl) hs6 (by omega) ?_; intro g7 cap7 w7 hown hgr hnw; obtain ⟨⟨d7, f7⟩, q7⟩ := q6.out.push2 (cutR s, .slice o6 n6 c6) hO6'.out hown hgr; have Q7 := hide' q7; have D7 : Hid (w7.heap[bx]? = some (.cells #[.int .i64 s.kind, .int .i64 s.k, .slice os s.steps.length cs] 82 (0, 0))) := (hgr.block bx (Array.getElem?_eq_some_iff.1 D6.out).1 fun e => hnb.out e.symm).trans D6.out; have hS7 := hide' (bx3 D7.out); have hS8 := hide' (bx3 ((Below.heap_setCell w7 ⟨w.heap.size + 2, 2, none⟩ (.slice (some ⟨g7, 0, none⟩) (Q.length + 1) cap7) bx (show bx ≠ w.heap.size + 2 by have := hbx.out; omega)).trans D7.out)); clear hown hgr hnw q7; (try dsimp only)
            refine hK.out _ _ ?_ (fun hHeld => ?_)
            · exact hS7.out
            clear hK K
            try simp only [Act.put, List.setIfInBounds_toArray, List.set_cons_zero, List.set_cons_succ]
            refine wpAnyH_take (i := 12) (oi := { dst := some 68, op := Op.fieldAddr 25 (Operand.tmp 3) 2, type := 0, pos := "law.go:28", after := #[{ on := 0, ground := Ground.phase }, { on := 1, ground := Ground.phase }, { on := 2, ground := Ground.phase }, { on := 3, ground := Ground.phase }, { on := 4, ground := Ground.phase }, { on := 5, ground := Ground.phase }, { on := 6, ground := Ground.phase }, { on := 7, ground := Ground.phase }, { on := 8, ground := Ground.phase }, { on := 9, ground := Ground.phase }, { on := 10, ground := Ground.phase }, { on := 11, ground := Ground.phase }], guard := none }) (v := ?_) rfl (by kernel_rfl) (by kernel_rfl) (by kernel_rfl) (fun _ _ _ h => h) (Or.inl ⟨by rfl, ?_⟩) (by assumption) ?_
            rotate_left
            · intro w hSw; (try dsimp only at hSw); go_simp <;> with_reducible rfl
            simp only [Act.put, List.setIfInBounds_toArray, List.set_cons_zero, List.set_cons_succ]
            refine wpAnyH_ready (rs := [13]) (by kernel_rfl) (by simp) ?_
            refine AllReadyH.cons (o := { dst := none, op := Op.store 23 (Operand.tmp 68) (Operand.tmp 67), type := 0, pos := "law.go:28", after := #[{ on := 12, ground := Ground.data }, { on := 11, ground := Ground.data }, { on := 11, ground := Ground.chain }, { on := 0, ground := Ground.phase }, { on := 1, ground := Ground.phase }, { on := 2, ground := Ground.phase }, { on := 3, ground := Ground.phase }, { on := 4, ground := Ground.phase }, { on := 5, ground := Ground.phase }, { on := 6, ground := Ground.phase }, { on := 7, ground := Ground.phase }, { on := 8, ground := Ground.phase }, { on := 9, ground := Ground.phase }, { on := 10, ground := Ground.phase }, { on := 11, ground := Ground.phase }], guard := none }) rfl (fun K hK => ?_) AllReadyH.nil
            go_simp
            refine hK.out _ _ ?_ (fun hHeld => ?_)
            · exact hS8.out
            clear hK K
            try simp only [Act.put, List.setIfInBounds_toArray, List.set_cons_zero, List.set_cons_succ]
            refine wpAnyH_done (by kernel_rfl) ?_ _
            skip
            have hm := hide' (hN.out (.slice o6 n6 c6))
            clear hN q6 q6a q5 q5d D5 D6 D6a D7 hS0 hS6 hS6a hS7 hS8 z1 z1a y1 d7 f7 hO6' hs' hHeld KR
            go_wp2
            exact ⟨⟨c + 1, Q ++ [(cutR s, .slice o6 n6 c6)], some ⟨g7, 0, none⟩, Q.length + 1, cap7, by omega, by omega, by simp; omega, by go_num, hm, Q7⟩, by simp [intOf]; omega⟩
          · have hM3 := hide' (hE.out hgo)
            clear hE hM hcB'
            have z0 := hq.out.g0
            have z1 := hq.out.g1
            have z2 := hq.out.g2
            have hbr := hide' hq.out.br
            have y0 : wr.cell? ⟨w.heap.size + 1, 0, none⟩ = some (.string ⟨#[]⟩) := by simp [World.cell?, hbr.out]
            have y1 : wr.cell? ⟨w.heap.size + 1, 1, none⟩ = some (.slice none 0 0) := by simp [World.cell?, hbr.out]
            have y2 : wr.cell? ⟨w.heap.size + 1, 2, none⟩ = some (.slice none 0 0) := by simp [World.cell?, hbr.out]
            have g0 : wr.frozen? ⟨w.heap.size + 1, 0, none⟩ = false := by simp [World.frozen?, hbr.out]
            have g1 : wr.frozen? ⟨w.heap.size + 1, 1, none⟩ = false := by simp [World.frozen?, hbr.out]
            have g2 : wr.frozen? ⟨w.heap.size + 1, 2, none⟩ = false := by simp [World.frozen?, hbr.out]
            have hF := hide' (hFin.out (.slice o1 n1 c1) (.slice o2 n2 c2) P Q (((wr.setCell ⟨w.heap.size + 1, 0, none⟩ (.string nm)).setCell ⟨w.heap.size + 1, 1, none⟩ (.slice o1 n1 c1)).setCell ⟨w.heap.size + 1, 2, none⟩ (.slice o2 n2 c2)) hM2.out hM3.out (hq.out.p1.low3 (.string nm) (.slice o1 n1 c1) (.slice o2 n2 c2)) (hq.out.p2.low3 (.string nm) (.slice o1 n1 c1) (.slice o2 n2 c2)) (((hq.out.bl.setCell (p := ⟨w.heap.size + 1, 0, none⟩) (Nat.le_succ _) _).setCell (p := ⟨w.heap.size + 1, 1, none⟩) (Nat.le_succ _) _).setCell (p := ⟨w.heap.size + 1, 2, none⟩) (Nat.le_succ _) _))
            have r3 : Hid ((((wr.setCell ⟨w.heap.size + 1, 0, none⟩ (.string nm)).setCell ⟨w.heap.size + 1, 1, none⟩ (.slice o1 n1 c1)).setCell ⟨w.heap.size + 1, 2, none⟩ (.slice o2 n2 c2)).heap[w.heap.size + 1]? = some (.cells #[.string nm, .slice o1 n1 c1, .slice o2 n2 c2] 25 (0, 0))) := heap_set_at _ (heap_set_at _ (heap_set_at _ hbr.out))
            clear hq hFin hbr hM2 hM3 KR
            by_cases hltr : c < RL.length
            · have h60 : ¬ c < 60 := fun h => hgo ⟨hltr, h⟩
              clear hgo
              go_wp2
              obtain ⟨WF, hWF⟩ : ∃ WF, WF = ((wr.setCell ⟨w.heap.size + 1, 0, none⟩ (.string nm)).setCell ⟨w.heap.size + 1, 1, none⟩ (.slice o1 n1 c1)).setCell ⟨w.heap.size + 1, 2, none⟩ (.slice o2 n2 c2) := ⟨_, rfl⟩
              rw [← hWF] at hF r3 ⊢
              have k0 : WF.cell? ⟨w.heap.size + 1, 0, none⟩ = some (.string nm) := by simp [World.cell?, r3.out]
              have k1 : WF.cell? ⟨w.heap.size + 1, 1, none⟩ = some (.slice o1 n1 c1) := by simp [World.cell?, r3.out]
              have k2 : WF.cell? ⟨w.heap.size + 1, 2, none⟩ = some (.slice o2 n2 c2) := by simp [World.cell?, r3.out]
              refine bodyPost_ret (v := .agg #[.string nm, .slice o1 n1 c1, .slice o2 n2 c2]) ?_ rfl hF.out
              simp [results, Tryz.results9, go_sem, k0, k1, k2]
            · clear hgo
              go_wp2
              obtain ⟨WF, hWF⟩ : ∃ WF, WF = ((wr.setCell ⟨w.heap.size + 1, 0, none⟩ (.string nm)).setCell ⟨w.heap.size + 1, 1, none⟩ (.slice o1 n1 c1)).setCell ⟨w.heap.size + 1, 2, none⟩ (.slice o2 n2 c2) := ⟨_, rfl⟩
              rw [← hWF] at hF r3 ⊢
              have k0 : WF.cell? ⟨w.heap.size + 1, 0, none⟩ = some (.string nm) := by simp [World.cell?, r3.out]
              have k1 : WF.cell? ⟨w.heap.size + 1, 1, none⟩ = some (.slice o1 n1 c1) := by simp [World.cell?, r3.out]
              have k2 : WF.cell? ⟨w.heap.size + 1, 2, none⟩ = some (.slice o2 n2 c2) := by simp [World.cell?, r3.out]
              refine bodyPost_ret (v := .agg #[.string nm, .slice o1 n1 c1, .slice o2 n2 c2]) ?_ rfl hF.out
              simp [results, Tryz.results9, go_sem, k0, k1, k2]
end Go.Proofs.YtahfobbiaimoiaaGreatDoor

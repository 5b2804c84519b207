/- Loan.Rows: a row of words is lent. (Printed by mkloanu.py.) -/
import Derived.Test.YtmoiedlchcceaaaDoorJ14
import Derived.Deep.AppendLies
import Derived.Maps.AppendAt
import Derived.Deep.RegionHeld3
namespace Go.Proofs.YtmoiedlchcceaaaDoor.KU
open Go.RowKit
open Go.Proofs.YtmoiedlchcceaaaDoor.K
def lent4 : List Int := [77, 78, 79, 80]
theorem wpList_copyZ {ops : Array Oper} {rest : List Oper} {o : Oper} {a : Act} {Q : Exit → Act → World → Prop} (hgd : o.guard = none) (W : World) (s x : Operand) (H : Nat) (v : Value) (l : List Int)
    (ho : o.op = .call { callee := .builtin .append, args := #[s, x], argTypes := #[22, 22] }) (hs : a.eval s = .slice (some ⟨H, 0, none⟩) 0 0)
    (hH : W.ownsRow H 40 1 (.slice (some ⟨H, 0, none⟩) 0 0) 0 []) (hx : a.eval x = v) (hv : RowI W v l) (hl : l.length ≤ 1000000)
    (h : ∀ u w', w'.ownsRow H 40 1 u l.length (cellsI l) → W.grownBy w' (some H) → wpList Tryd.prog ops Q rest (a.put o.dst u) w') : wpList Tryd.prog ops Q (o :: rest) a W :=
  wpList_plain hgd fun _ hK => wp_copyZ W s x H v l ho hs hH hx hv hl fun u w' h1 h2 => hK _ _ (h u w' h1 h2)
section
variable {w w4 w5 : World} {p : Nat} {tag : Nat → Nat} {ov ow : Value} {ml mw : Nat} {vs us : List Value} {rows : Nat → List Int}
theorem boxL (hk : LN w p tag ov ow ml mw vs us rows) (hB : Below w.heap.size w w4) {g5 cap5 : Nat} {o5 : Obj}
    (hat : (ov = .slice (some ⟨g5, 0, none⟩) ml cap5 ∧ (w4.alloc o5).grownBy w5 (some g5)) ∨ (g5 = (w4.alloc o5).heap.size ∧ (w4.alloc o5).grownBy w5 none)) : BoxN w5 p ov ow := by
  have b1 := (hk.box.below hB).mv (Sm.alloc (X := fun _ => False) (tag := tag) o5) (fun h => h)
  rcases hat with ⟨e, hg⟩ | ⟨_, hg⟩
  · exact b1.mv (Sm.grown (X := (· = 2)) (tag := tag) hg fun g eg => by cases eg; exact hk.live.otag g5 (by rw [e]; rfl)) (by rw [hk.bt]; decide)
  · exact b1.mv (Sm.grown (X := (· = 2)) (tag := tag) hg fun g eg => by cases eg) (by rw [hk.bt]; decide)
theorem boxR (hk : LN w p tag ov ow ml mw vs us rows) (hB : Below w.heap.size w w4) {g5 cap5 : Nat} {o5 : Obj}
    (hat : (ow = .slice (some ⟨g5, 0, none⟩) mw cap5 ∧ (w4.alloc o5).grownBy w5 (some g5)) ∨ (g5 = (w4.alloc o5).heap.size ∧ (w4.alloc o5).grownBy w5 none)) : BoxN w5 p ov ow := by
  have b1 := (hk.box.below hB).mv (Sm.alloc (X := fun _ => False) (tag := tag) o5) (fun h => h)
  rcases hat with ⟨e, hg⟩ | ⟨_, hg⟩
  · exact b1.mv (Sm.grown (X := (· = 3)) (tag := tag) hg fun g eg => by cases eg; exact hk.want.otag g5 (by rw [e]; rfl)) (by rw [hk.bt]; decide)
  · exact b1.mv (Sm.grown (X := (· = 3)) (tag := tag) hg fun g eg => by cases eg) (by rw [hk.bt]; decide)
end
theorem cells_lent (l : List Int) : cellsI l ++ [.int .u64 77, .int .u64 78, .int .u64 79, .int .u64 80] = cellsI (l ++ lent4) := by simp [cellsI, lent4]
theorem lent_len (l : List Int) : (l ++ lent4).length = l.length + 4 := by simp [lent4]
theorem lent_below {w w1 w2 : World} {u : Value} {n g2 cap2 : Nat} {o : Obj} (hB : Below w.heap.size w w1) (hu : ∀ g, u.ownBlock = some g → w.heap.size ≤ g)
    (hat : (u = .slice (some ⟨g2, 0, none⟩) n cap2 ∧ (w1.alloc o).grownBy w2 (some g2)) ∨ (g2 = (w1.alloc o).heap.size ∧ (w1.alloc o).grownBy w2 none)) : Below w.heap.size w w2 := by
  have hBa := hB.alloc hB.size o
  rcases hat with ⟨rfl, hg⟩ | ⟨_, hg⟩
  · exact hBa.grown hg hBa.size (fun j ej => by cases ej; exact hu _ rfl)
  · exact hBa.grown hg hBa.size (fun j ej => by cases ej)
theorem lent_row {w2 : World} {b g2 cap2 : Nat} {l : List Int} (h : w2.ownsRow b 40 1 (.slice (some ⟨g2, 0, none⟩) (l.length + 4) cap2) (l.length + 4) (cellsI l ++ [.int .u64 77, .int .u64 78, .int .u64 79, .int .u64 80])) : w2.ownsRow b 40 1 (.slice (some ⟨g2, 0, none⟩) (l.length + 4) cap2) (l ++ lent4).length (cellsI (l ++ lent4)) := by
  rw [lent_len, ← cells_lent]; exact h
theorem _root_.Go.World.ownsRow.capLe {w : World} {b : Nat} {e : TypeId} {size g n cap : Nat} {xs : List Value} (h : w.ownsRow b e size (.slice (some ⟨g, 0, none⟩) n cap) n xs) : n ≤ cap := by
  rcases h.2 with ⟨h', _⟩ | ⟨g', cap', cur, h', _, _, hnc, _⟩
  · simp at h'
  · simp only [Value.slice.injEq, Option.some.injEq, Addr.mk.injEq, and_true, true_and] at h'
    obtain ⟨rfl, rfl⟩ := h'
    exact hnc
theorem lent_done {w W3 W4 : World} {p m g2 cap2 : Nat} {tag tag3 tag4 : Nat → Nat} {ov ow : Value} {vs us : List Value} {rows : Nat → List Int} {l : List Int} (hL : LN W4 p tag4 ov ow (m + 1) (m + 1) vs us rows) (h3 : FrL tag w tag3 W3) (h4 : FrL tag3 W3 tag4 W4) (hR : RowI W3 (.slice (some ⟨g2, 0, none⟩) l.length cap2) l) (hg : w.heap.size ≤ g2) (hlt : g2 < W3.heap.size) (ht : tag3 g2 = 10 + 2 * m) :
    ∃ g cap tag', Ending.returned (.slice (some ⟨g2, 0, none⟩) l.length cap2) = Ending.returned (.slice (some ⟨g, 0, none⟩) l.length cap) ∧ Loan W4 p tag' (m + 1) ∧ FrL tag w tag' W4 ∧ RowI W4 (.slice (some ⟨g, 0, none⟩) l.length cap) l ∧ w.heap.size ≤ g ∧ tag' g = 10 + 2 * m := by
  have hcell : ∀ o v, W3.cell? ⟨g2, o, none⟩ = some v → W4.cell? ⟨g2, o, none⟩ = some v := fun o v hc => by
    have := h4.block g2 (cell_lt hc) (by omega) (by omega) (by omega)
    unfold World.cell? at hc ⊢
    rw [this]; exact hc
  refine ⟨g2, cap2, tag4, rfl, ⟨_, _, _, _, _, hL⟩, h3.trans h4, ?_, hg, (h4.tg g2 hlt).trans ht⟩
  obtain ⟨oa, cap, e, h1, hc⟩ := hR
  cases e
  refine ⟨_, _, rfl, h1, fun i z hi => ?_⟩
  obtain ⟨g, o, e1, e2⟩ := hc i z hi
  cases e1
  exact ⟨_, _, rfl, hcell _ _ e2⟩
set_option maxRecDepth 100000 in
set_option maxHeartbeats 4000000 in
theorem loanRows (p : Nat) (tag : Nat → Nat) (m : Nat) (v : Value) (l : List Int) (w : World) (hL : Loan w p tag m) (hv : RowI w v l) (hl : l.length ≤ 1000) (hm : m ≤ 100000) :
    Calls Tryd.prog 5 #[.pointer (some ⟨p, 0, none⟩), v] w fun e w' => ∃ g cap tag', e = .returned (.slice (some ⟨g, 0, none⟩) l.length cap) ∧ Loan w' p tag' (m + 1) ∧ FrL tag w tag' w' ∧ RowI w' (.slice (some ⟨g, 0, none⟩) l.length cap) l ∧ w.heap.size ≤ g ∧ tag' g = 10 + 2 * m := by
  obtain ⟨iI, hiI, hzI0, hzI1, hzI2⟩ := info_parts infoI
  obtain ⟨iL, hiL, hzL0, hzL1, hzL2⟩ := info_parts infoL
  obtain ⟨ov, ow, vs, us, rows, hk⟩ := hL
  have hk' := hide' hk
  have hlt := hk.box.lt
  have hZ0 := hide' (owns_zero w w.heap.size (Nat.le_refl _) 40)
  have hR0 := hide' (hv.below ((Below.refl w.heap.size w).alloc (Nat.le_refl _) (.cells #[] 40)) (Nat.le_refl _))
  have B0 : Hid (Below w.heap.size w (w.alloc (.cells #[] 40))) := (Below.refl w.heap.size w).alloc (Nat.le_refl _) _
  obtain ⟨oa, cap, rfl, _, _⟩ := hv
  clear hk
  go_enter Tryd.func5, Tryd.ntmps5
  go_wp2_with (first | (at_builtin; refine wpList_copyZ rfl _ (.tmp 6) (.tmp 7) w.heap.size (.slice oa l.length cap) l rfl rfl hZ0.out rfl hR0.out (by omega) ?_; intro u w1 hu1 hg1; have hul := hide' (fun g (e : u.ownBlock = some g) => (hu1.lt g e).1); obtain ⟨ou, cu, rfl⟩ := own_shape hu1; have hB1 := hide' (B0.out.grown hg1 (by simp) (fun j ej => by cases ej; exact Nat.le_refl _)); have hO1 := hide' (hu1.alloc (.cells #[.int .u64 77, .int .u64 78, .int .u64 79, .int .u64 80] 40)); have hnb := hide' (World.news_of_block (heap_new w1 (.cells #[.int .u64 77, .int .u64 78, .int .u64 79, .int .u64 80] 40))); have hBz := hB1.out.size; clear hu1 hg1) | (at_builtin; refine wpList_append_two _ rfl (.tmp 8) (.tmp 9) 22 rfl w.heap.size 40 iI (.int .u64 0) 1 8 Tryd.underlying22 hiI hzI0 hzI1 hzI2 rfl (by decide) (.slice ou l.length cu) l.length (cellsI l) rfl hO1.out ⟨w1.heap.size, 0, none⟩ 4 4 [.int .u64 77, .int .u64 78, .int .u64 79, .int .u64 80] rfl rfl hnb.out (by simp [Value.oneCell']) (by decide) (by unfold maxLen; omega) (by omega) (by simp; omega) ?_; intro g2 cap2 w2 hnew2 _ hat2; have hB2 := hide' (lent_below hB1.out hul.out hat2); have hF2 := hide' (lent_row hnew2); have hcap2 := hnew2.capLe; have c02 := (hk'.out.box.below hB2.out).c2; have hO2 := hide' ((hk'.out.below hB2.out).live.outer.alloc (.cells #[.slice (some ⟨g2, 0, none⟩) (l.length + 4) cap2] 22)); have hg2 := hide' (hnew2.lt g2 rfl); clear hnew2 hat2 hO1 hnb hB1 hul) | (at_builtin; refine wpList_append_two _ rfl (.tmp 15) (.tmp 17) 30 rfl 0 22 iL (.slice none 0 0) 1 24 Tryd.underlying30 hiL hzL0 hzL1 hzL2 rfl (by decide) ov m vs rfl hO2.out ⟨w2.heap.size, 0, none⟩ 1 1 [.slice (some ⟨g2, 0, none⟩) (l.length + 4) cap2] rfl rfl (cell_one_new _ _ _) (by simp [Value.oneCell']) (by decide) (by unfold maxLen; omega) (by omega) (Nat.zero_le _) ?_; intro g5 cap5 w5 hnew5 hold5 hat5; have hb5 := boxL hk'.out hB2.out hat5; have c05 := hb5.c2; have f05 := hb5.fz 2; clear hb5))
  obtain ⟨tag3, rows3, hrm, hLN, hFr, hgt, hF3⟩ := stageL hk'.out hB2.out (by rw [lent_len]; omega) hF2.out hnew5 hold5 hat5
  generalize w5.setCell ⟨p, 2, none⟩ (.slice (some ⟨g5, 0, none⟩) (m + 1) cap5) = W3 at *
  have hLN' := hide' hLN
  have hFr' := hide' hFr
  have hgt' := hide' (hgt g2 rfl)
  have hF3' := hide' hF3
  have hlt3 := hide' (hF3.lt g2 rfl).2
  have c3w := hLN.box.c3
  have hrm' := hide' hrm
  have hp3 := hLN.box.lt
  clear hLN hFr hgt hF3 hrm hk' hB2 hF2 hnew5 hold5 hat5 c05 f05 c02 hO2 hZ0 hR0 B0
  have cV := hide' (fun V (h : Below W3.heap.size W3 V) => (hLN'.out.box.below h).c3)
  have B3 : Hid (Below W3.heap.size W3 W3.drew) := (Below.refl _ _).drew
  have B4 : Hid (Below W3.heap.size W3 (W3.drew.alloc (.cells #[] 40))) := B3.out.alloc (Nat.le_refl _) _
  have c3 := cV.out _ B3.out
  have c4 := cV.out _ B4.out
  have hZ := hide' (owns_zero W3.drew W3.heap.size (Nat.le_refl _) 40)
  have hR : Hid (RowI (W3.drew.alloc (.cells #[] 40)) (.slice (some ⟨g2, 0, none⟩) (l.length + 4) cap2) (l ++ lent4)) := by
    have := (RowI.of_owns hF3'.out).below B4.out (Nat.le_refl _)
    rw [lent_len] at *
    exact this
  have hFl := hide' (lent_len l)
  have hFR : Hid (RowI W3 (.slice (some ⟨g2, 0, none⟩) l.length cap2) l) := by
    obtain ⟨oa', cap', e, h1, h2⟩ := RowI.of_owns hF3'.out
    rw [lent_len] at e
    cases e
    refine ⟨_, _, rfl, ⟨by rw [lent_len] at h1; omega, h1.2⟩, fun i z hi => h2 i z ?_⟩
    rw [List.getElem?_append_left (List.getElem?_eq_some_iff.1 hi).1]; exact hi
  generalize l ++ lent4 = F at *
  refine wp_region_held_drew (S := (fun _ => True)) (by kernel_rfl) ?_ (fun hHeld => ?_)
  · trivial
  refine wpAnyH_take (i := 0) (oi := { dst := some 21, op := Op.move (Operand.tmp 0), type := 29, pos := "keep.go:224", after := #[], guard := none }) (v := ?_) rfl (by kernel_rfl) (by kernel_rfl) (by kernel_rfl) (fun _ _ _ h => h) (Or.inl ⟨by rfl, ?_⟩) (by assumption) ?_
  rotate_left
  · intro w hSw; (try dsimp only at hSw); go_simp <;> with_reducible rfl
  simp only [Act.put, List.setIfInBounds_toArray, List.set_cons_zero, List.set_cons_succ]
  refine wpAnyH_take (i := 1) (oi := { dst := some 22, op := Op.move (Operand.tmp 0), type := 29, pos := "keep.go:224", after := #[], guard := none }) (v := ?_) rfl (by kernel_rfl) (by kernel_rfl) (by kernel_rfl) (fun _ _ _ h => h) (Or.inl ⟨by rfl, ?_⟩) (by assumption) ?_
  rotate_left
  · intro w hSw; (try dsimp only at hSw); go_simp <;> with_reducible rfl
  simp only [Act.put, List.setIfInBounds_toArray, List.set_cons_zero, List.set_cons_succ]
  refine wpAnyH_take (i := 2) (oi := { dst := some 23, op := Op.nilCheck (Operand.tmp 22), type := 0, pos := "keep.go:224", after := #[{ on := 1, ground := Ground.data }], guard := none }) (v := ?_) rfl (by kernel_rfl) (by kernel_rfl) (by kernel_rfl) (fun _ _ _ h => h) (Or.inl ⟨by rfl, ?_⟩) (by assumption) ?_
  rotate_left
  · intro w hSw; (try dsimp only at hSw); go_simp <;> with_reducible rfl
  simp only [Act.put, List.setIfInBounds_toArray, List.set_cons_zero, List.set_cons_succ]
  refine wpAnyH_take (i := 3) (oi := { dst := some 24, op := Op.fieldAddr 32 (Operand.tmp 23) 3, type := 0, pos := "keep.go:224", after := #[{ on := 2, ground := Ground.data }], guard := none }) (v := ?_) rfl (by kernel_rfl) (by kernel_rfl) (by kernel_rfl) (fun _ _ _ h => h) (Or.inl ⟨by rfl, ?_⟩) (by assumption) ?_
  rotate_left
  · intro w hSw; (try dsimp only at hSw); go_simp <;> with_reducible rfl
  simp only [Act.put, List.setIfInBounds_toArray, List.set_cons_zero, List.set_cons_succ]
  refine wpAnyH_take (i := 6) (oi := { dst := some 27, op := Op.move (Operand.tmp 5), type := 22, pos := "keep.go:224", after := #[], guard := none }) (v := ?_) rfl (by kernel_rfl) (by kernel_rfl) (by kernel_rfl) (fun _ _ _ h => h) (Or.inl ⟨by rfl, ?_⟩) (by assumption) ?_
  rotate_left
  · intro w hSw; (try dsimp only at hSw); go_simp <;> with_reducible rfl
  simp only [Act.put, List.setIfInBounds_toArray, List.set_cons_zero, List.set_cons_succ]
  refine wpAnyH_ready (rs := [4, 5]) (by kernel_rfl) (by simp) ?_
  refine AllReadyH.cons (o := { dst := some 25, op := Op.load 30 (Operand.tmp 24), type := 30, pos := "keep.go:224", after := #[{ on := 3, ground := Ground.data }], guard := none }) rfl (fun K hK => ?_) ?_
  · skip
    go_simp
    refine hK.out _ _ ?_ (fun hHeld => ?_)
    · trivial
    clear hK K
    try simp only [Act.put, List.setIfInBounds_toArray, List.set_cons_zero, List.set_cons_succ]
    refine wpAnyH_ready (rs := [5]) (by kernel_rfl) (by simp) ?_
    refine AllReadyH.cons (o := { dst := some 26, op := Op.buildSlice 22 0 #[], type := 22, pos := "keep.go:224", after := #[], guard := none }) rfl (fun K hK => ?_) AllReadyH.nil
    go_simp
    refine hK.out _ _ ?_ (fun hHeld => ?_)
    · trivial
    clear hK K
    try simp only [Act.put, List.setIfInBounds_toArray, List.set_cons_zero, List.set_cons_succ]
    refine wpAnyH_ready (rs := [7]) (by kernel_rfl) (by simp) ?_
    refine AllReadyH.cons (o := { dst := some 28, op := Op.call { callee := Callee.builtin Builtin.append, args := #[Operand.tmp 26, Operand.tmp 27], argTypes := #[22, 22] }, type := 22, pos := "keep.go:224", after := #[{ on := 5, ground := Ground.data }, { on := 6, ground := Ground.data }], guard := none }) rfl (fun K hK => ?_) AllReadyH.nil
    rw [if_pos (by rfl)]
    refine wp_copyZ _ (.tmp 26) (.tmp 27) W3.heap.size (.slice (some ⟨g2, 0, none⟩) (l.length + 4) cap2) F rfl rfl hZ.out rfl hR.out (by rw [hFl.out]; omega) ?_; intro u w6 hu6 hg6; obtain ⟨ou6, cu6, rfl⟩ := own_shape hu6; have hB6 := hide' (B4.out.grown hg6 (by simp) (fun j ej => by cases ej; exact Nat.le_refl _)); have c6 := cV.out _ hB6.out; have B7 : Hid (Below W3.heap.size W3 (w6.alloc (.cells #[.slice ou6 F.length cu6] 22))) := hB6.out.alloc hB6.out.size _; have c7 := cV.out _ B7.out; have h1u := hide' (own_one hu6); have hu6' := hide' hu6; have hO7 := hide' ((hLN'.out.below hB6.out).want.outer.alloc (.cells #[.slice ou6 F.length cu6] 22)); clear hu6 hg6; (try dsimp only)
    refine hK.out _ _ ?_ (fun hHeld => ?_)
    · trivial
    clear hK K
    try simp only [Act.put, List.setIfInBounds_toArray, List.set_cons_zero, List.set_cons_succ]
    refine wpAnyH_ready (rs := [8]) (by kernel_rfl) (by simp) ?_
    refine AllReadyH.cons (o := { dst := some 29, op := Op.buildSlice 30 1 #[(0, Operand.tmp 28)], type := 30, pos := "keep.go:224", after := #[{ on := 7, ground := Ground.data }], guard := none }) rfl (fun K hK => ?_) AllReadyH.nil
    go_simp
    refine hK.out _ _ ?_ (fun hHeld => ?_)
    · trivial
    clear hK K
    try simp only [Act.put, List.setIfInBounds_toArray, List.set_cons_zero, List.set_cons_succ]
    refine wpAnyH_ready (rs := [9]) (by kernel_rfl) (by simp) ?_
    refine AllReadyH.cons (o := { dst := some 30, op := Op.call { callee := Callee.builtin Builtin.append, args := #[Operand.tmp 25, Operand.tmp 29], argTypes := #[30, 30] }, type := 30, pos := "keep.go:224", after := #[{ on := 4, ground := Ground.data }, { on := 8, ground := Ground.data }, { on := 7, ground := Ground.chain }], guard := none }) rfl (fun K hK => ?_) AllReadyH.nil
    rw [if_pos (by rfl)]
    refine wp_append_two _ (.tmp 25) (.tmp 29) 30 rfl 0 22 iL (.slice none 0 0) 1 24 Tryd.underlying30 hiL hzL0 hzL1 hzL2 rfl (by decide) ow m us rfl hO7.out ⟨w6.heap.size, 0, none⟩ 1 1 [.slice ou6 F.length cu6] rfl rfl (cell_one_new _ _ _) (by simpa using h1u.out) (by decide) (by unfold maxLen; omega) (by omega) (Nat.zero_le _) ?_; intro g8 cap8 w8 hnew8 hold8 hat8; have hb8 := boxR hLN'.out hB6.out hat8; have c8 := hb8.c3; have f8 := hb8.fz 3; have hnew8' := hide' hnew8; have hold8' := hide' hold8; have hat8' := hide' hat8; clear hb8 hnew8 hold8 hat8; (try dsimp only)
    refine hK.out _ _ ?_ (fun hHeld => ?_)
    · trivial
    clear hK K
    try simp only [Act.put, List.setIfInBounds_toArray, List.set_cons_zero, List.set_cons_succ]
    refine wpAnyH_take (i := 10) (oi := { dst := some 31, op := Op.nilCheck (Operand.tmp 21), type := 0, pos := "keep.go:224", after := #[{ on := 0, ground := Ground.data }, { on := 0, ground := Ground.phase }, { on := 1, ground := Ground.phase }, { on := 2, ground := Ground.phase }, { on := 3, ground := Ground.phase }, { on := 4, ground := Ground.phase }, { on := 5, ground := Ground.phase }, { on := 6, ground := Ground.phase }, { on := 7, ground := Ground.phase }, { on := 8, ground := Ground.phase }, { on := 9, ground := Ground.phase }], guard := none }) (v := ?_) rfl (by kernel_rfl) (by kernel_rfl) (by kernel_rfl) (fun _ _ _ h => h) (Or.inl ⟨by rfl, ?_⟩) (by assumption) ?_
    rotate_left
    · intro w hSw; (try dsimp only at hSw); go_simp <;> with_reducible rfl
    simp only [Act.put, List.setIfInBounds_toArray, List.set_cons_zero, List.set_cons_succ]
    refine wpAnyH_take (i := 11) (oi := { dst := some 32, op := Op.fieldAddr 32 (Operand.tmp 31) 3, type := 0, pos := "keep.go:224", after := #[{ on := 10, ground := Ground.data }, { on := 0, ground := Ground.phase }, { on := 1, ground := Ground.phase }, { on := 2, ground := Ground.phase }, { on := 3, ground := Ground.phase }, { on := 4, ground := Ground.phase }, { on := 5, ground := Ground.phase }, { on := 6, ground := Ground.phase }, { on := 7, ground := Ground.phase }, { on := 8, ground := Ground.phase }, { on := 9, ground := Ground.phase }], guard := none }) (v := ?_) rfl (by kernel_rfl) (by kernel_rfl) (by kernel_rfl) (fun _ _ _ h => h) (Or.inl ⟨by rfl, ?_⟩) (by assumption) ?_
    rotate_left
    · intro w hSw; (try dsimp only at hSw); go_simp <;> with_reducible rfl
    simp only [Act.put, List.setIfInBounds_toArray, List.set_cons_zero, List.set_cons_succ]
    refine wpAnyH_ready (rs := [12]) (by kernel_rfl) (by simp) ?_
    refine AllReadyH.cons (o := { dst := none, op := Op.store 30 (Operand.tmp 32) (Operand.tmp 30), type := 0, pos := "keep.go:224", after := #[{ on := 11, ground := Ground.data }, { on := 9, ground := Ground.data }, { on := 9, ground := Ground.chain }, { on := 0, ground := Ground.phase }, { on := 1, ground := Ground.phase }, { on := 2, ground := Ground.phase }, { on := 3, ground := Ground.phase }, { on := 4, ground := Ground.phase }, { on := 5, ground := Ground.phase }, { on := 6, ground := Ground.phase }, { on := 7, ground := Ground.phase }, { on := 8, ground := Ground.phase }, { on := 9, ground := Ground.phase }], guard := none }) rfl (fun K hK => ?_) AllReadyH.nil
    go_simp
    refine hK.out _ _ ?_ (fun hHeld => ?_)
    · trivial
    clear hK K
    try simp only [Act.put, List.setIfInBounds_toArray, List.set_cons_zero, List.set_cons_succ]
    refine wpAnyH_done (by kernel_rfl) ?_ _
    skip
    obtain ⟨tag4, hL4, hFr4⟩ := stageW hLN'.out hB6.out (by rw [hrm'.out]; exact hu6'.out) hnew8'.out hold8'.out hat8'.out
    have hL4' := hide' hL4
    have hFr4' := hide' hFr4
    clear hL4 hFr4 hnew8' hold8' hat8'
    go_wp2
    go_ret
    exact lent_done hL4'.out hFr'.out hFr4'.out hFR.out hg2.out.1 hlt3.out hgt'.out
  refine AllReadyH.cons (o := { dst := some 26, op := Op.buildSlice 22 0 #[], type := 22, pos := "keep.go:224", after := #[], guard := none }) rfl (fun K hK => ?_) AllReadyH.nil
  go_simp
  refine hK.out _ _ ?_ (fun hHeld => ?_)
  · trivial
  clear hK K
  try simp only [Act.put, List.setIfInBounds_toArray, List.set_cons_zero, List.set_cons_succ]
  refine wpAnyH_ready (rs := [4, 7]) (by kernel_rfl) (by simp) ?_
  refine AllReadyH.cons (o := { dst := some 25, op := Op.load 30 (Operand.tmp 24), type := 30, pos := "keep.go:224", after := #[{ on := 3, ground := Ground.data }], guard := none }) rfl (fun K hK => ?_) ?_
  · skip
    go_simp
    refine hK.out _ _ ?_ (fun hHeld => ?_)
    · trivial
    clear hK K
    try simp only [Act.put, List.setIfInBounds_toArray, List.set_cons_zero, List.set_cons_succ]
    refine wpAnyH_ready (rs := [7]) (by kernel_rfl) (by simp) ?_
    refine AllReadyH.cons (o := { dst := some 28, op := Op.call { callee := Callee.builtin Builtin.append, args := #[Operand.tmp 26, Operand.tmp 27], argTypes := #[22, 22] }, type := 22, pos := "keep.go:224", after := #[{ on := 5, ground := Ground.data }, { on := 6, ground := Ground.data }], guard := none }) rfl (fun K hK => ?_) AllReadyH.nil
    rw [if_pos (by rfl)]
    refine wp_copyZ _ (.tmp 26) (.tmp 27) W3.heap.size (.slice (some ⟨g2, 0, none⟩) (l.length + 4) cap2) F rfl rfl hZ.out rfl hR.out (by rw [hFl.out]; omega) ?_; intro u w6 hu6 hg6; obtain ⟨ou6, cu6, rfl⟩ := own_shape hu6; have hB6 := hide' (B4.out.grown hg6 (by simp) (fun j ej => by cases ej; exact Nat.le_refl _)); have c6 := cV.out _ hB6.out; have B7 : Hid (Below W3.heap.size W3 (w6.alloc (.cells #[.slice ou6 F.length cu6] 22))) := hB6.out.alloc hB6.out.size _; have c7 := cV.out _ B7.out; have h1u := hide' (own_one hu6); have hu6' := hide' hu6; have hO7 := hide' ((hLN'.out.below hB6.out).want.outer.alloc (.cells #[.slice ou6 F.length cu6] 22)); clear hu6 hg6; (try dsimp only)
    refine hK.out _ _ ?_ (fun hHeld => ?_)
    · trivial
    clear hK K
    try simp only [Act.put, List.setIfInBounds_toArray, List.set_cons_zero, List.set_cons_succ]
    refine wpAnyH_ready (rs := [8]) (by kernel_rfl) (by simp) ?_
    refine AllReadyH.cons (o := { dst := some 29, op := Op.buildSlice 30 1 #[(0, Operand.tmp 28)], type := 30, pos := "keep.go:224", after := #[{ on := 7, ground := Ground.data }], guard := none }) rfl (fun K hK => ?_) AllReadyH.nil
    go_simp
    refine hK.out _ _ ?_ (fun hHeld => ?_)
    · trivial
    clear hK K
    try simp only [Act.put, List.setIfInBounds_toArray, List.set_cons_zero, List.set_cons_succ]
    refine wpAnyH_ready (rs := [9]) (by kernel_rfl) (by simp) ?_
    refine AllReadyH.cons (o := { dst := some 30, op := Op.call { callee := Callee.builtin Builtin.append, args := #[Operand.tmp 25, Operand.tmp 29], argTypes := #[30, 30] }, type := 30, pos := "keep.go:224", after := #[{ on := 4, ground := Ground.data }, { on := 8, ground := Ground.data }, { on := 7, ground := Ground.chain }], guard := none }) rfl (fun K hK => ?_) AllReadyH.nil
    rw [if_pos (by rfl)]
    refine wp_append_two _ (.tmp 25) (.tmp 29) 30 rfl 0 22 iL (.slice none 0 0) 1 24 Tryd.underlying30 hiL hzL0 hzL1 hzL2 rfl (by decide) ow m us rfl hO7.out ⟨w6.heap.size, 0, none⟩ 1 1 [.slice ou6 F.length cu6] rfl rfl (cell_one_new _ _ _) (by simpa using h1u.out) (by decide) (by unfold maxLen; omega) (by omega) (Nat.zero_le _) ?_; intro g8 cap8 w8 hnew8 hold8 hat8; have hb8 := boxR hLN'.out hB6.out hat8; have c8 := hb8.c3; have f8 := hb8.fz 3; have hnew8' := hide' hnew8; have hold8' := hide' hold8; have hat8' := hide' hat8; clear hb8 hnew8 hold8 hat8; (try dsimp only)
    refine hK.out _ _ ?_ (fun hHeld => ?_)
    · trivial
    clear hK K
    try simp only [Act.put, List.setIfInBounds_toArray, List.set_cons_zero, List.set_cons_succ]
    refine wpAnyH_take (i := 10) (oi := { dst := some 31, op := Op.nilCheck (Operand.tmp 21), type := 0, pos := "keep.go:224", after := #[{ on := 0, ground := Ground.data }, { on := 0, ground := Ground.phase }, { on := 1, ground := Ground.phase }, { on := 2, ground := Ground.phase }, { on := 3, ground := Ground.phase }, { on := 4, ground := Ground.phase }, { on := 5, ground := Ground.phase }, { on := 6, ground := Ground.phase }, { on := 7, ground := Ground.phase }, { on := 8, ground := Ground.phase }, { on := 9, ground := Ground.phase }], guard := none }) (v := ?_) rfl (by kernel_rfl) (by kernel_rfl) (by kernel_rfl) (fun _ _ _ h => h) (Or.inl ⟨by rfl, ?_⟩) (by assumption) ?_
    rotate_left
    · intro w hSw; (try dsimp only at hSw); go_simp <;> with_reducible rfl
    simp only [Act.put, List.setIfInBounds_toArray, List.set_cons_zero, List.set_cons_succ]
    refine wpAnyH_take (i := 11) (oi := { dst := some 32, op := Op.fieldAddr 32 (Operand.tmp 31) 3, type := 0, pos := "keep.go:224", after := #[{ on := 10, ground := Ground.data }, { on := 0, ground := Ground.phase }, { on := 1, ground := Ground.phase }, { on := 2, ground := Ground.phase }, { on := 3, ground := Ground.phase }, { on := 4, ground := Ground.phase }, { on := 5, ground := Ground.phase }, { on := 6, ground := Ground.phase }, { on := 7, ground := Ground.phase }, { on := 8, ground := Ground.phase }, { on := 9, ground := Ground.phase }], guard := none }) (v := ?_) rfl (by kernel_rfl) (by kernel_rfl) (by kernel_rfl) (fun _ _ _ h => h) (Or.inl ⟨by rfl, ?_⟩) (by assumption) ?_
    rotate_left
    · intro w hSw; (try dsimp only at hSw); go_simp <;> with_reducible rfl
    simp only [Act.put, List.setIfInBounds_toArray, List.set_cons_zero, List.set_cons_succ]
    refine wpAnyH_ready (rs := [12]) (by kernel_rfl) (by simp) ?_
    refine AllReadyH.cons (o := { dst := none, op := Op.store 30 (Operand.tmp 32) (Operand.tmp 30), type := 0, pos := "keep.go:224", after := #[{ on := 11, ground := Ground.data }, { on := 9, ground := Ground.data }, { on := 9, ground := Ground.chain }, { on := 0, ground := Ground.phase }, { on := 1, ground := Ground.phase }, { on := 2, ground := Ground.phase }, { on := 3, ground := Ground.phase }, { on := 4, ground := Ground.phase }, { on := 5, ground := Ground.phase }, { on := 6, ground := Ground.phase }, { on := 7, ground := Ground.phase }, { on := 8, ground := Ground.phase }, { on := 9, ground := Ground.phase }], guard := none }) rfl (fun K hK => ?_) AllReadyH.nil
    go_simp
    refine hK.out _ _ ?_ (fun hHeld => ?_)
    · trivial
    clear hK K
    try simp only [Act.put, List.setIfInBounds_toArray, List.set_cons_zero, List.set_cons_succ]
    refine wpAnyH_done (by kernel_rfl) ?_ _
    skip
    obtain ⟨tag4, hL4, hFr4⟩ := stageW hLN'.out hB6.out (by rw [hrm'.out]; exact hu6'.out) hnew8'.out hold8'.out hat8'.out
    have hL4' := hide' hL4
    have hFr4' := hide' hFr4
    clear hL4 hFr4 hnew8' hold8' hat8'
    go_wp2
    go_ret
    exact lent_done hL4'.out hFr'.out hFr4'.out hFR.out hg2.out.1 hlt3.out hgt'.out
  refine AllReadyH.cons (o := { dst := some 28, op := Op.call { callee := Callee.builtin Builtin.append, args := #[Operand.tmp 26, Operand.tmp 27], argTypes := #[22, 22] }, type := 22, pos := "keep.go:224", after := #[{ on := 5, ground := Ground.data }, { on := 6, ground := Ground.data }], guard := none }) rfl (fun K hK => ?_) AllReadyH.nil
  rw [if_pos (by rfl)]
  refine wp_copyZ _ (.tmp 26) (.tmp 27) W3.heap.size (.slice (some ⟨g2, 0, none⟩) (l.length + 4) cap2) F rfl rfl hZ.out rfl hR.out (by rw [hFl.out]; omega) ?_; intro u w6 hu6 hg6; obtain ⟨ou6, cu6, rfl⟩ := own_shape hu6; have hB6 := hide' (B4.out.grown hg6 (by simp) (fun j ej => by cases ej; exact Nat.le_refl _)); have c6 := cV.out _ hB6.out; have B7 : Hid (Below W3.heap.size W3 (w6.alloc (.cells #[.slice ou6 F.length cu6] 22))) := hB6.out.alloc hB6.out.size _; have c7 := cV.out _ B7.out; have h1u := hide' (own_one hu6); have hu6' := hide' hu6; have hO7 := hide' ((hLN'.out.below hB6.out).want.outer.alloc (.cells #[.slice ou6 F.length cu6] 22)); clear hu6 hg6; (try dsimp only)
  refine hK.out _ _ ?_ (fun hHeld => ?_)
  · trivial
  clear hK K
  try simp only [Act.put, List.setIfInBounds_toArray, List.set_cons_zero, List.set_cons_succ]
  refine wpAnyH_ready (rs := [4, 8]) (by kernel_rfl) (by simp) ?_
  refine AllReadyH.cons (o := { dst := some 25, op := Op.load 30 (Operand.tmp 24), type := 30, pos := "keep.go:224", after := #[{ on := 3, ground := Ground.data }], guard := none }) rfl (fun K hK => ?_) ?_
  · skip
    go_simp
    refine hK.out _ _ ?_ (fun hHeld => ?_)
    · trivial
    clear hK K
    try simp only [Act.put, List.setIfInBounds_toArray, List.set_cons_zero, List.set_cons_succ]
    refine wpAnyH_ready (rs := [8]) (by kernel_rfl) (by simp) ?_
    refine AllReadyH.cons (o := { dst := some 29, op := Op.buildSlice 30 1 #[(0, Operand.tmp 28)], type := 30, pos := "keep.go:224", after := #[{ on := 7, ground := Ground.data }], guard := none }) rfl (fun K hK => ?_) AllReadyH.nil
    go_simp
    refine hK.out _ _ ?_ (fun hHeld => ?_)
    · trivial
    clear hK K
    try simp only [Act.put, List.setIfInBounds_toArray, List.set_cons_zero, List.set_cons_succ]
    refine wpAnyH_ready (rs := [9]) (by kernel_rfl) (by simp) ?_
    refine AllReadyH.cons (o := { dst := some 30, op := Op.call { callee := Callee.builtin Builtin.append, args := #[Operand.tmp 25, Operand.tmp 29], argTypes := #[30, 30] }, type := 30, pos := "keep.go:224", after := #[{ on := 4, ground := Ground.data }, { on := 8, ground := Ground.data }, { on := 7, ground := Ground.chain }], guard := none }) rfl (fun K hK => ?_) AllReadyH.nil
    rw [if_pos (by rfl)]
    refine wp_append_two _ (.tmp 25) (.tmp 29) 30 rfl 0 22 iL (.slice none 0 0) 1 24 Tryd.underlying30 hiL hzL0 hzL1 hzL2 rfl (by decide) ow m us rfl hO7.out ⟨w6.heap.size, 0, none⟩ 1 1 [.slice ou6 F.length cu6] rfl rfl (cell_one_new _ _ _) (by simpa using h1u.out) (by decide) (by unfold maxLen; omega) (by omega) (Nat.zero_le _) ?_; intro g8 cap8 w8 hnew8 hold8 hat8; have hb8 := boxR hLN'.out hB6.out hat8; have c8 := hb8.c3; have f8 := hb8.fz 3; have hnew8' := hide' hnew8; have hold8' := hide' hold8; have hat8' := hide' hat8; clear hb8 hnew8 hold8 hat8; (try dsimp only)
    refine hK.out _ _ ?_ (fun hHeld => ?_)
    · trivial
    clear hK K
    try simp only [Act.put, List.setIfInBounds_toArray, List.set_cons_zero, List.set_cons_succ]
    refine wpAnyH_take (i := 10) (oi := { dst := some 31, op := Op.nilCheck (Operand.tmp 21), type := 0, pos := "keep.go:224", after := #[{ on := 0, ground := Ground.data }, { on := 0, ground := Ground.phase }, { on := 1, ground := Ground.phase }, { on := 2, ground := Ground.phase }, { on := 3, ground := Ground.phase }, { on := 4, ground := Ground.phase }, { on := 5, ground := Ground.phase }, { on := 6, ground := Ground.phase }, { on := 7, ground := Ground.phase }, { on := 8, ground := Ground.phase }, { on := 9, ground := Ground.phase }], guard := none }) (v := ?_) rfl (by kernel_rfl) (by kernel_rfl) (by kernel_rfl) (fun _ _ _ h => h) (Or.inl ⟨by rfl, ?_⟩) (by assumption) ?_
    rotate_left
    · intro w hSw; (try dsimp only at hSw); go_simp <;> with_reducible rfl
    simp only [Act.put, List.setIfInBounds_toArray, List.set_cons_zero, List.set_cons_succ]
    refine wpAnyH_take (i := 11) (oi := { dst := some 32, op := Op.fieldAddr 32 (Operand.tmp 31) 3, type := 0, pos := "keep.go:224", after := #[{ on := 10, ground := Ground.data }, { on := 0, ground := Ground.phase }, { on := 1, ground := Ground.phase }, { on := 2, ground := Ground.phase }, { on := 3, ground := Ground.phase }, { on := 4, ground := Ground.phase }, { on := 5, ground := Ground.phase }, { on := 6, ground := Ground.phase }, { on := 7, ground := Ground.phase }, { on := 8, ground := Ground.phase }, { on := 9, ground := Ground.phase }], guard := none }) (v := ?_) rfl (by kernel_rfl) (by kernel_rfl) (by kernel_rfl) (fun _ _ _ h => h) (Or.inl ⟨by rfl, ?_⟩) (by assumption) ?_
    rotate_left
    · intro w hSw; (try dsimp only at hSw); go_simp <;> with_reducible rfl
    simp only [Act.put, List.setIfInBounds_toArray, List.set_cons_zero, List.set_cons_succ]
    refine wpAnyH_ready (rs := [12]) (by kernel_rfl) (by simp) ?_
    refine AllReadyH.cons (o := { dst := none, op := Op.store 30 (Operand.tmp 32) (Operand.tmp 30), type := 0, pos := "keep.go:224", after := #[{ on := 11, ground := Ground.data }, { on := 9, ground := Ground.data }, { on := 9, ground := Ground.chain }, { on := 0, ground := Ground.phase }, { on := 1, ground := Ground.phase }, { on := 2, ground := Ground.phase }, { on := 3, ground := Ground.phase }, { on := 4, ground := Ground.phase }, { on := 5, ground := Ground.phase }, { on := 6, ground := Ground.phase }, { on := 7, ground := Ground.phase }, { on := 8, ground := Ground.phase }, { on := 9, ground := Ground.phase }], guard := none }) rfl (fun K hK => ?_) AllReadyH.nil
    go_simp
    refine hK.out _ _ ?_ (fun hHeld => ?_)
    · trivial
    clear hK K
    try simp only [Act.put, List.setIfInBounds_toArray, List.set_cons_zero, List.set_cons_succ]
    refine wpAnyH_done (by kernel_rfl) ?_ _
    skip
    obtain ⟨tag4, hL4, hFr4⟩ := stageW hLN'.out hB6.out (by rw [hrm'.out]; exact hu6'.out) hnew8'.out hold8'.out hat8'.out
    have hL4' := hide' hL4
    have hFr4' := hide' hFr4
    clear hL4 hFr4 hnew8' hold8' hat8'
    go_wp2
    go_ret
    exact lent_done hL4'.out hFr'.out hFr4'.out hFR.out hg2.out.1 hlt3.out hgt'.out
  refine AllReadyH.cons (o := { dst := some 29, op := Op.buildSlice 30 1 #[(0, Operand.tmp 28)], type := 30, pos := "keep.go:224", after := #[{ on := 7, ground := Ground.data }], guard := none }) rfl (fun K hK => ?_) AllReadyH.nil
  go_simp
  refine hK.out _ _ ?_ (fun hHeld => ?_)
  · trivial
  clear hK K
  try simp only [Act.put, List.setIfInBounds_toArray, List.set_cons_zero, List.set_cons_succ]
  refine wpAnyH_ready (rs := [4]) (by kernel_rfl) (by simp) ?_
  refine AllReadyH.cons (o := { dst := some 25, op := Op.load 30 (Operand.tmp 24), type := 30, pos := "keep.go:224", after := #[{ on := 3, ground := Ground.data }], guard := none }) rfl (fun K hK => ?_) AllReadyH.nil
  go_simp
  refine hK.out _ _ ?_ (fun hHeld => ?_)
  · trivial
  clear hK K
  try simp only [Act.put, List.setIfInBounds_toArray, List.set_cons_zero, List.set_cons_succ]
  refine wpAnyH_ready (rs := [9]) (by kernel_rfl) (by simp) ?_
  refine AllReadyH.cons (o := { dst := some 30, op := Op.call { callee := Callee.builtin Builtin.append, args := #[Operand.tmp 25, Operand.tmp 29], argTypes := #[30, 30] }, type := 30, pos := "keep.go:224", after := #[{ on := 4, ground := Ground.data }, { on := 8, ground := Ground.data }, { on := 7, ground := Ground.chain }], guard := none }) rfl (fun K hK => ?_) AllReadyH.nil
  rw [if_pos (by rfl)]
  refine wp_append_two _ (.tmp 25) (.tmp 29) 30 rfl 0 22 iL (.slice none 0 0) 1 24 Tryd.underlying30 hiL hzL0 hzL1 hzL2 rfl (by decide) ow m us rfl hO7.out ⟨w6.heap.size, 0, none⟩ 1 1 [.slice ou6 F.length cu6] rfl rfl (cell_one_new _ _ _) (by simpa using h1u.out) (by decide) (by unfold maxLen; omega) (by omega) (Nat.zero_le _) ?_; intro g8 cap8 w8 hnew8 hold8 hat8; have hb8 := boxR hLN'.out hB6.out hat8; have c8 := hb8.c3; have f8 := hb8.fz 3; have hnew8' := hide' hnew8; have hold8' := hide' hold8; have hat8' := hide' hat8; clear hb8 hnew8 hold8 hat8; (try dsimp only)
  refine hK.out _ _ ?_ (fun hHeld => ?_)
  · trivial
  clear hK K
  try simp only [Act.put, List.setIfInBounds_toArray, List.set_cons_zero, List.set_cons_succ]
  refine wpAnyH_take (i := 10) (oi := { dst := some 31, op := Op.nilCheck (Operand.tmp 21), type := 0, pos := "keep.go:224", after := #[{ on := 0, ground := Ground.data }, { on := 0, ground := Ground.phase }, { on := 1, ground := Ground.phase }, { on := 2, ground := Ground.phase }, { on := 3, ground := Ground.phase }, { on := 4, ground := Ground.phase }, { on := 5, ground := Ground.phase }, { on := 6, ground := Ground.phase }, { on := 7, ground := Ground.phase }, { on := 8, ground := Ground.phase }, { on := 9, ground := Ground.phase }], guard := none }) (v := ?_) rfl (by kernel_rfl) (by kernel_rfl) (by kernel_rfl) (fun _ _ _ h => h) (Or.inl ⟨by rfl, ?_⟩) (by assumption) ?_
  rotate_left
  · intro w hSw; (try dsimp only at hSw); go_simp <;> with_reducible rfl
  simp only [Act.put, List.setIfInBounds_toArray, List.set_cons_zero, List.set_cons_succ]
  refine wpAnyH_take (i := 11) (oi := { dst := some 32, op := Op.fieldAddr 32 (Operand.tmp 31) 3, type := 0, pos := "keep.go:224", after := #[{ on := 10, ground := Ground.data }, { on := 0, ground := Ground.phase }, { on := 1, ground := Ground.phase }, { on := 2, ground := Ground.phase }, { on := 3, ground := Ground.phase }, { on := 4, ground := Ground.phase }, { on := 5, ground := Ground.phase }, { on := 6, ground := Ground.phase }, { on := 7, ground := Ground.phase }, { on := 8, ground := Ground.phase }, { on := 9, ground := Ground.phase }], guard := none }) (v := ?_) rfl (by kernel_rfl) (by kernel_rfl) (by kernel_rfl) (fun _ _ _ h => h) (Or.inl ⟨by rfl, ?_⟩) (by assumption) ?_
  rotate_left
  · intro w hSw; (try dsimp only at hSw); go_simp <;> with_reducible rfl
  simp only [Act.put, List.setIfInBounds_toArray, List.set_cons_zero, List.set_cons_succ]
  refine wpAnyH_ready (rs := [12]) (by kernel_rfl) (by simp) ?_
  refine AllReadyH.cons (o := { dst := none, op := Op.store 30 (Operand.tmp 32) (Operand.tmp 30), type := 0, pos := "keep.go:224", after := #[{ on := 11, ground := Ground.data }, { on := 9, ground := Ground.data }, { on := 9, ground := Ground.chain }, { on := 0, ground := Ground.phase }, { on := 1, ground := Ground.phase }, { on := 2, ground := Ground.phase }, { on := 3, ground := Ground.phase }, { on := 4, ground := Ground.phase }, { on := 5, ground := Ground.phase }, { on := 6, ground := Ground.phase }, { on := 7, ground := Ground.phase }, { on := 8, ground := Ground.phase }, { on := 9, ground := Ground.phase }], guard := none }) rfl (fun K hK => ?_) AllReadyH.nil
  go_simp
  refine hK.out _ _ ?_ (fun hHeld => ?_)
  · trivial
  clear hK K
  try simp only [Act.put, List.setIfInBounds_toArray, List.set_cons_zero, List.set_cons_succ]
  refine wpAnyH_done (by kernel_rfl) ?_ _
  skip
  obtain ⟨tag4, hL4, hFr4⟩ := stageW hLN'.out hB6.out (by rw [hrm'.out]; exact hu6'.out) hnew8'.out hold8'.out hat8'.out
  have hL4' := hide' hL4
  have hFr4' := hide' hFr4
  clear hL4 hFr4 hnew8' hold8' hat8'
  go_wp2
  go_ret
  exact lent_done hL4'.out hFr'.out hFr4'.out hFR.out hg2.out.1 hlt3.out hgt'.out
end Go.Proofs.YtmoiedlchcceaaaDoor.KU

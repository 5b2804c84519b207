/- Loan.Back: each list, each row of words is as it was lent; it turns nothing but the loan's own. (Printed by mk2loan.py.) -/
import Derived.Test.YtlijlelejobchaaGreatDoorJ20
import Derived.Test.YtlijlelejobchaaGreatDoorJ31
import Derived.Deep.AppendLies
import Derived.Maps.AppendAt
import Derived.Deep.RegionHeld3
namespace Go.Proofs.YtlijlelejobchaaGreatDoor.K
open Go.RowKit
/-- The lists below i are written over, and k places of list i. -/
def rowsN (rows : Nat → List Int) (i k j : Nat) : List Int := if j < i then List.replicate (rows j).length (-99) else if j = i then List.replicate k (-99) ++ (rows i).drop k else rows j
theorem rowsN_i (rows : Nat → List Int) (i k : Nat) : rowsN rows i k i = List.replicate k (-99) ++ (rows i).drop k := by rw [rowsN, if_neg (Nat.lt_irrefl _), if_pos rfl]
theorem rowsN_at (rows : Nat → List Int) (i : Nat) : rowsN rows i 0 i = rows i := by rw [rowsN_i]; simp
theorem rowsN_len (rows : Nat → List Int) (i k : Nat) (h : k ≤ (rows i).length) : (rowsN rows i k i).length = (rows i).length := by
  rw [rowsN_i, List.length_append, List.length_replicate, List.length_drop]; omega
theorem rowsN_set (rows : Nat → List Int) (i k : Nat) (h : k < (rows i).length) : rowsN rows i (k + 1) i = (rowsN rows i k i).set k (-99) := by
  rw [rowsN_i, rowsN_i, List.set_append_right _ _ (by rw [List.length_replicate]; exact Nat.le_refl _), List.length_replicate, Nat.sub_self, List.drop_eq_getElem_cons h, List.set_cons_zero, List.replicate_succ', List.append_assoc]; rfl
theorem rowsN_ne (rows : Nat → List Int) (i k j : Nat) (h : j ≠ i) : rowsN rows i (k + 1) j = rowsN rows i k j := by
  unfold rowsN; rw [if_neg h, if_neg h]
theorem rowsN_next (rows : Nat → List Int) (i j : Nat) : rowsN rows (i + 1) 0 j = rowsN rows i (rows i).length j := by
  unfold rowsN
  by_cases h1 : j < i
  · rw [if_pos h1, if_pos (by omega)]
  · by_cases h2 : j = i
    · subst h2; rw [if_neg h1, if_pos (by omega), if_pos rfl, List.drop_length, List.append_nil]
    · rw [if_neg (by omega), if_neg h1, if_neg h2]
      by_cases h3 : j = i + 1
      · subst h3; rw [if_pos rfl]; rfl
      · rw [if_neg h3]
theorem rowsN_zero (rows : Nat → List Int) (j : Nat) : rowsN rows 0 0 j = rows j := by
  unfold rowsN
  by_cases h : j = 0
  · subst h; rfl
  · rw [if_neg (by omega), if_neg h]
end Go.Proofs.YtlijlelejobchaaGreatDoor.K
namespace Go.Proofs.YtlijlelejobchaaGreatDoor.KU
open Go.RowKit
open Go.Proofs.YtlijlelejobchaaGreatDoor.K
def lent4 : List Int := [77, 78, 79, 80]
theorem wpList_copyZ {ops : Array Oper} {rest : List Oper} {o : Oper} {a : Act} {Q : Exit → Act → World → Prop} (hgd : o.guard = none) (W : World) (s x : Operand) (H : Nat) (v : Value) (l : List Int)
    (ho : o.op = .call { callee := .builtin .append, args := #[s, x], argTypes := #[22, 22] }) (hs : a.eval s = .slice (some ⟨H, 0, none⟩) 0 0)
    (hH : W.ownsRow H 55 1 (.slice (some ⟨H, 0, none⟩) 0 0) 0 []) (hx : a.eval x = v) (hv : RowI W v l) (hl : l.length ≤ 1000000)
    (h : ∀ u w', w'.ownsRow H 55 1 u l.length (cellsI l) → W.grownBy w' (some H) → wpList Tryz.prog ops Q rest (a.put o.dst u) w') : wpList Tryz.prog ops Q (o :: rest) a W :=
  wpList_plain hgd fun _ hK => wp_copyZ W s x H v l ho hs hH hx hv hl fun u w' h1 h2 => hK _ _ (h u w' h1 h2)
section
variable {w w4 w5 : World} {p : Nat} {tag : Nat → Nat} {y z ov ow : Value} {ml mw : Nat} {vs us : List Value} {rows : Nat → List Int}
theorem boxL (hk : LN w p y z tag ov ow ml mw vs us rows) (hB : Below w.heap.size w w4) {g5 cap5 : Nat} {o5 : Obj}
    (hat : (ov = .slice (some ⟨g5, 0, none⟩) ml cap5 ∧ (w4.alloc o5).grownBy w5 (some g5)) ∨ (g5 = (w4.alloc o5).heap.size ∧ (w4.alloc o5).grownBy w5 none)) : BoxN w5 p y z ov ow := by
  have b1 := (hk.box.below hB).mv (Sm.alloc (X := fun _ => False) (tag := tag) o5) (fun h => h)
  rcases hat with ⟨e, hg⟩ | ⟨_, hg⟩
  · exact b1.mv (Sm.grown (X := (· = 2)) (tag := tag) hg fun g eg => by cases eg; exact hk.live.otag g5 (by rw [e]; rfl)) (by rw [hk.bt]; decide)
  · exact b1.mv (Sm.grown (X := (· = 2)) (tag := tag) hg fun g eg => by cases eg) (by rw [hk.bt]; decide)
theorem boxR (hk : LN w p y z tag ov ow ml mw vs us rows) (hB : Below w.heap.size w w4) {g5 cap5 : Nat} {o5 : Obj}
    (hat : (ow = .slice (some ⟨g5, 0, none⟩) mw cap5 ∧ (w4.alloc o5).grownBy w5 (some g5)) ∨ (g5 = (w4.alloc o5).heap.size ∧ (w4.alloc o5).grownBy w5 none)) : BoxN w5 p y z ov ow := by
  have b1 := (hk.box.below hB).mv (Sm.alloc (X := fun _ => False) (tag := tag) o5) (fun h => h)
  rcases hat with ⟨e, hg⟩ | ⟨_, hg⟩
  · exact b1.mv (Sm.grown (X := (· = 3)) (tag := tag) hg fun g eg => by cases eg; exact hk.want.otag g5 (by rw [e]; rfl)) (by rw [hk.bt]; decide)
  · exact b1.mv (Sm.grown (X := (· = 3)) (tag := tag) hg fun g eg => by cases eg) (by rw [hk.bt]; decide)
end
theorem cells_lent (l : List Int) : cellsI l ++ [.int .u64 77, .int .u64 78, .int .u64 79, .int .u64 80] = cellsI (l ++ lent4) := by simp [cellsI, lent4]
theorem lent_len (l : List Int) : (l ++ lent4).length = l.length + 4 := by simp [lent4]
theorem lent_below {w w1 w2 : World} {u : Value} {n g2 cap2 : Nat} {o : Obj} (hB : Below w.heap.size w w1) (hu : ∀ g, u.ownBlock = some g → w.heap.size ≤ g)
    (hat : (u = .slice (some ⟨g2, 0, none⟩) n cap2 ∧ (w1.alloc o).grownBy w2 (some g2)) ∨ (g2 = (w1.alloc o).heap.size ∧ (w1.alloc o).grownBy w2 none)) : Below w.heap.size w w2 := by
  have hBa := hB.alloc hB.size o
  rcases hat with ⟨rfl, hg⟩ | ⟨_, hg⟩
  · exact hBa.grown hg hBa.size (fun j ej => by cases ej; exact hu _ rfl)
  · exact hBa.grown hg hBa.size (fun j ej => by cases ej)
theorem lent_row {w2 : World} {b g2 cap2 : Nat} {l : List Int} (h : w2.ownsRow b 55 1 (.slice (some ⟨g2, 0, none⟩) (l.length + 4) cap2) (l.length + 4) (cellsI l ++ [.int .u64 77, .int .u64 78, .int .u64 79, .int .u64 80])) : w2.ownsRow b 55 1 (.slice (some ⟨g2, 0, none⟩) (l.length + 4) cap2) (l ++ lent4).length (cellsI (l ++ lent4)) := by
  rw [lent_len, ← cells_lent]; exact h
theorem _root_.Go.World.ownsRow.capLeU {w : World} {b : Nat} {e : TypeId} {size g n cap : Nat} {xs : List Value} (h : w.ownsRow b e size (.slice (some ⟨g, 0, none⟩) n cap) n xs) : n ≤ cap := by
  rcases h.2 with ⟨h', _⟩ | ⟨g', cap', cur, h', _, _, hnc, _⟩
  · simp at h'
  · simp only [Value.slice.injEq, Option.some.injEq, Addr.mk.injEq, and_true, true_and] at h'
    obtain ⟨rfl, rfl⟩ := h'
    exact hnc
theorem lent_done {w W3 W4 : World} {p m g2 cap2 : Nat} {tag tag3 tag4 : Nat → Nat} {y z ov ow : Value} {vs us : List Value} {rows : Nat → List Int} {l : List Int} (hL : LN W4 p y z tag4 ov ow (m + 1) (m + 1) vs us rows) (h3 : FrL tag w tag3 W3) (h4 : FrL tag3 W3 tag4 W4) (hR : RowI W3 (.slice (some ⟨g2, 0, none⟩) l.length cap2) l) (hg : w.heap.size ≤ g2) (hlt : g2 < W3.heap.size) (ht : tag3 g2 = 10 + 2 * m) :
    ∃ g cap tag', Ending.returned (.slice (some ⟨g2, 0, none⟩) l.length cap2) = Ending.returned (.slice (some ⟨g, 0, none⟩) l.length cap) ∧ Loan W4 p y z tag' (m + 1) ∧ FrL tag w tag' W4 ∧ RowI W4 (.slice (some ⟨g, 0, none⟩) l.length cap) l ∧ w.heap.size ≤ g ∧ tag' g = 10 + 2 * m := by
  have hcell : ∀ o v, W3.cell? ⟨g2, o, none⟩ = some v → W4.cell? ⟨g2, o, none⟩ = some v := fun o v hc => by
    have := h4.block g2 (cell_lt hc) (by omega) (by omega) (by omega)
    unfold World.cell? at hc ⊢
    rw [this]; exact hc
  refine ⟨g2, cap2, tag4, rfl, ⟨_, _, _, _, _, hL⟩, h3.trans h4, ?_, hg, (h4.tg g2 hlt).trans ht⟩
  obtain ⟨oa, cap, e, h1, hc⟩ := hR
  cases e
  refine ⟨_, _, rfl, h1, fun i z hi => ?_⟩
  obtain ⟨g, o, e1, e2⟩ := hc i z hi
  cases e1
  exact ⟨_, _, rfl, hcell _ _ e2⟩
set_option maxRecDepth 100000 in
set_option maxHeartbeats 4000000 in
theorem loanRows (p : Nat) (y z : Value) (tag : Nat → Nat) (m : Nat) (v : Value) (l : List Int) (w : World) (hL : Loan w p y z tag m) (hv : RowI w v l) (hl : l.length ≤ 1000) (hm : m ≤ 100000) :
    Calls Tryz.prog 8 #[.pointer (some ⟨p, 0, none⟩), v] w fun e w' => ∃ g cap tag', e = .returned (.slice (some ⟨g, 0, none⟩) l.length cap) ∧ Loan w' p y z tag' (m + 1) ∧ FrL tag w tag' w' ∧ RowI w' (.slice (some ⟨g, 0, none⟩) l.length cap) l ∧ w.heap.size ≤ g ∧ tag' g = 10 + 2 * m := by
  obtain ⟨iI, hiI, hzI0, hzI1, hzI2⟩ := info_parts infoI
  obtain ⟨iL, hiL, hzL0, hzL1, hzL2⟩ := info_parts infoL
  obtain ⟨ov, ow, vs, us, rows, hk⟩ := hL
  have hk' := hide' hk
  have hlt := hk.box.lt
  have hZ0 := hide' (owns_zero w w.heap.size (Nat.le_refl _) 55)
  have hR0 := hide' (hv.below ((Below.refl w.heap.size w).alloc (Nat.le_refl _) (.cells #[] 55)) (Nat.le_refl _))
  have B0 : Hid (Below w.heap.size w (w.alloc (.cells #[] 55))) := (Below.refl w.heap.size w).alloc (Nat.le_refl _) _
  obtain ⟨oa, cap, rfl, _, _⟩ := hv
  clear hk
  go_enter Tryz.func8, Tryz.ntmps8
  go_wp2_with (first | (at_builtin; refine wpList_copyZ rfl _ (.tmp 6) (.tmp 7) w.heap.size (.slice oa l.length cap) l rfl rfl hZ0.out rfl hR0.out (by omega) ?_; intro u w1 hu1 hg1; have hul := hide' (fun g (e : u.ownBlock = some g) => (hu1.lt g e).1); obtain ⟨ou, cu, rfl⟩ := own_shape hu1; have hB1 := hide' (B0.out.grown hg1 (by simp) (fun j ej => by cases ej; exact Nat.le_refl _)); have hO1 := hide' (hu1.alloc (.cells #[.int .u64 77, .int .u64 78, .int .u64 79, .int .u64 80] 55)); have hnb := hide' (World.news_of_block (heap_new w1 (.cells #[.int .u64 77, .int .u64 78, .int .u64 79, .int .u64 80] 55))); have hBz := hB1.out.size; clear hu1 hg1) | (at_builtin; refine wpList_append_two _ rfl (.tmp 8) (.tmp 9) 22 rfl w.heap.size 55 iI (.int .u64 0) 1 8 Tryz.underlying22 hiI hzI0 hzI1 hzI2 rfl (by decide) (.slice ou l.length cu) l.length (cellsI l) rfl hO1.out ⟨w1.heap.size, 0, none⟩ 4 4 [.int .u64 77, .int .u64 78, .int .u64 79, .int .u64 80] rfl rfl hnb.out (by simp [Value.oneCell']) (by decide) (by unfold maxLen; omega) (by omega) (by simp; omega) ?_; intro g2 cap2 w2 hnew2 _ hat2; have hB2 := hide' (lent_below hB1.out hul.out hat2); have hF2 := hide' (lent_row hnew2); have hcap2 := hnew2.capLeU; have c02 := (hk'.out.box.below hB2.out).c2; have hO2 := hide' ((hk'.out.below hB2.out).live.outer.alloc (.cells #[.slice (some ⟨g2, 0, none⟩) (l.length + 4) cap2] 22)); have hg2 := hide' (hnew2.lt g2 rfl); clear hnew2 hat2 hO1 hnb hB1 hul) | (at_builtin; refine wpList_append_two _ rfl (.tmp 15) (.tmp 17) 38 rfl 0 22 iL (.slice none 0 0) 1 24 Tryz.underlying38 hiL hzL0 hzL1 hzL2 rfl (by decide) ov m vs rfl hO2.out ⟨w2.heap.size, 0, none⟩ 1 1 [.slice (some ⟨g2, 0, none⟩) (l.length + 4) cap2] rfl rfl (cell_one_new _ _ _) (by simp [Value.oneCell']) (by decide) (by unfold maxLen; omega) (by omega) (Nat.zero_le _) ?_; intro g5 cap5 w5 hnew5 hold5 hat5; have hb5 := boxL hk'.out hB2.out hat5; have c05 := hb5.c2; have f05 := hb5.fz 2; clear hb5))
  obtain ⟨tag3, rows3, hrm, hLN, hFr, hgt, hF3⟩ := stageL hk'.out hB2.out (by rw [lent_len]; omega) hF2.out hnew5 hold5 hat5
  generalize w5.setCell ⟨p, 2, none⟩ (.slice (some ⟨g5, 0, none⟩) (m + 1) cap5) = W3 at *
  have hLN' := hide' hLN
  have hFr' := hide' hFr
  have hgt' := hide' (hgt g2 rfl)
  have hF3' := hide' hF3
  have hlt3 := hide' (hF3.lt g2 rfl).2
  have c3w := hLN.box.c3
  have hrm' := hide' hrm
  have hp3 := hLN.box.lt
  clear hLN hFr hgt hF3 hrm hk' hB2 hF2 hnew5 hold5 hat5 c05 f05 c02 hO2 hZ0 hR0 B0
  have cV := hide' (fun V (h : Below W3.heap.size W3 V) => (hLN'.out.box.below h).c3)
  have B3 : Hid (Below W3.heap.size W3 W3.drew) := (Below.refl _ _).drew
  have B4 : Hid (Below W3.heap.size W3 (W3.drew.alloc (.cells #[] 55))) := B3.out.alloc (Nat.le_refl _) _
  have c3 := cV.out _ B3.out
  have c4 := cV.out _ B4.out
  have hZ := hide' (owns_zero W3.drew W3.heap.size (Nat.le_refl _) 55)
  have hR : Hid (RowI (W3.drew.alloc (.cells #[] 55)) (.slice (some ⟨g2, 0, none⟩) (l.length + 4) cap2) (l ++ lent4)) := by
    have := (RowI.of_owns hF3'.out).below B4.out (Nat.le_refl _)
    rw [lent_len] at *
    exact this
  have hFl := hide' (lent_len l)
  have hFR : Hid (RowI W3 (.slice (some ⟨g2, 0, none⟩) l.length cap2) l) := by
    obtain ⟨oa', cap', e, h1, h2⟩ := RowI.of_owns hF3'.out
    rw [lent_len] at e
    cases e
    refine ⟨_, _, rfl, ⟨by rw [lent_len] at h1; omega, h1.2⟩, fun i z hi => h2 i z ?_⟩
    rw [List.getElem?_append_left (List.getElem?_eq_some_iff.1 hi).1]; exact hi
  generalize l ++ lent4 = F at *
  refine wp_region_held_drew (S := (fun _ => True)) (by kernel_rfl) ?_ (fun hHeld => ?_)
  · trivial
  refine wpAnyH_take (i := 0) (oi := { dst := some 21, op := Op.move (Operand.tmp 0), type := 37, pos := "keep.go:224", after := #[], guard := none }) (v := ?_) rfl (by kernel_rfl) (by kernel_rfl) (by kernel_rfl) (fun _ _ _ h => h) (Or.inl ⟨by rfl, ?_⟩) (by assumption) ?_
  rotate_left
  · intro w hSw; (try dsimp only at hSw); go_simp <;> with_reducible rfl
  simp only [Act.put, List.setIfInBounds_toArray, List.set_cons_zero, List.set_cons_succ]
  refine wpAnyH_take (i := 1) (oi := { dst := some 22, op := Op.move (Operand.tmp 0), type := 37, pos := "keep.go:224", after := #[], guard := none }) (v := ?_) rfl (by kernel_rfl) (by kernel_rfl) (by kernel_rfl) (fun _ _ _ h => h) (Or.inl ⟨by rfl, ?_⟩) (by assumption) ?_
  rotate_left
  · intro w hSw; (try dsimp only at hSw); go_simp <;> with_reducible rfl
  simp only [Act.put, List.setIfInBounds_toArray, List.set_cons_zero, List.set_cons_succ]
  refine wpAnyH_take (i := 2) (oi := { dst := some 23, op := Op.nilCheck (Operand.tmp 22), type := 0, pos := "keep.go:224", after := #[{ on := 1, ground := Ground.data }], guard := none }) (v := ?_) rfl (by kernel_rfl) (by kernel_rfl) (by kernel_rfl) (fun _ _ _ h => h) (Or.inl ⟨by rfl, ?_⟩) (by assumption) ?_
  rotate_left
  · intro w hSw; (try dsimp only at hSw); go_simp <;> with_reducible rfl
  simp only [Act.put, List.setIfInBounds_toArray, List.set_cons_zero, List.set_cons_succ]
  refine wpAnyH_take (i := 3) (oi := { dst := some 24, op := Op.fieldAddr 40 (Operand.tmp 23) 3, type := 0, pos := "keep.go:224", after := #[{ on := 2, ground := Ground.data }], guard := none }) (v := ?_) rfl (by kernel_rfl) (by kernel_rfl) (by kernel_rfl) (fun _ _ _ h => h) (Or.inl ⟨by rfl, ?_⟩) (by assumption) ?_
  rotate_left
  · intro w hSw; (try dsimp only at hSw); go_simp <;> with_reducible rfl
  simp only [Act.put, List.setIfInBounds_toArray, List.set_cons_zero, List.set_cons_succ]
  refine wpAnyH_take (i := 6) (oi := { dst := some 27, op := Op.move (Operand.tmp 5), type := 22, pos := "keep.go:224", after := #[], guard := none }) (v := ?_) rfl (by kernel_rfl) (by kernel_rfl) (by kernel_rfl) (fun _ _ _ h => h) (Or.inl ⟨by rfl, ?_⟩) (by assumption) ?_
  rotate_left
  · intro w hSw; (try dsimp only at hSw); go_simp <;> with_reducible rfl
  simp only [Act.put, List.setIfInBounds_toArray, List.set_cons_zero, List.set_cons_succ]
  refine wpAnyH_ready (rs := [4, 5]) (by kernel_rfl) (by simp) ?_
  refine AllReadyH.cons (o := { dst := some 25, op := Op.load 38 (Operand.tmp 24), type := 38, pos := "keep.go:224", after := #[{ on := 3, ground := Ground.data }], guard := none }) rfl (fun K hK => ?_) ?_
  · skip
    go_simp
    refine hK.out _ _ ?_ (fun hHeld => ?_)
    · trivial
    clear hK K
    try simp only [Act.put, List.setIfInBounds_toArray, List.set_cons_zero, List.set_cons_succ]
    refine wpAnyH_ready (rs := [5]) (by kernel_rfl) (by simp) ?_
    refine AllReadyH.cons (o := { dst := some 26, op := Op.buildSlice 22 0 #[], type := 22, pos := "keep.go:224", after := #[], guard := none }) rfl (fun K hK => ?_) AllReadyH.nil
    go_simp
    refine hK.out _ _ ?_ (fun hHeld => ?_)
    · trivial
    clear hK K
    try simp only [Act.put, List.setIfInBounds_toArray, List.set_cons_zero, List.set_cons_succ]
    refine wpAnyH_ready (rs := [7]) (by kernel_rfl) (by simp) ?_
    refine AllReadyH.cons (o := { dst := some 28, op := Op.call { callee := Callee.builtin Builtin.append, args := #[Operand.tmp 26, Operand.tmp 27], argTypes := #[22, 22] }, type := 22, pos := "keep.go:224", after := #[{ on := 5, ground := Ground.data }, { on := 6, ground := Ground.data }], guard := none }) rfl (fun K hK => ?_) AllReadyH.nil
    rw [if_pos (by rfl)]
    refine wp_copyZ _ (.tmp 26) (.tmp 27) W3.heap.size (.slice (some ⟨g2, 0, none⟩) (l.length + 4) cap2) F rfl rfl hZ.out rfl hR.out (by rw [hFl.out]; omega) ?_; intro u w6 hu6 hg6; obtain ⟨ou6, cu6, rfl⟩ := own_shape hu6; have hB6 := hide' (B4.out.grown hg6 (by simp) (fun j ej => by cases ej; exact Nat.le_refl _)); have c6 := cV.out _ hB6.out; have B7 : Hid (Below W3.heap.size W3 (w6.alloc (.cells #[.slice ou6 F.length cu6] 22))) := hB6.out.alloc hB6.out.size _; have c7 := cV.out _ B7.out; have h1u := hide' (own_one hu6); have hu6' := hide' hu6; have hO7 := hide' ((hLN'.out.below hB6.out).want.outer.alloc (.cells #[.slice ou6 F.length cu6] 22)); clear hu6 hg6; (try dsimp only)
    refine hK.out _ _ ?_ (fun hHeld => ?_)
    · trivial
    clear hK K
    try simp only [Act.put, List.setIfInBounds_toArray, List.set_cons_zero, List.set_cons_succ]
    refine wpAnyH_ready (rs := [8]) (by kernel_rfl) (by simp) ?_
    refine AllReadyH.cons (o := { dst := some 29, op := Op.buildSlice 38 1 #[(0, Operand.tmp 28)], type := 38, pos := "keep.go:224", after := #[{ on := 7, ground := Ground.data }], guard := none }) rfl (fun K hK => ?_) AllReadyH.nil
    go_simp
    refine hK.out _ _ ?_ (fun hHeld => ?_)
    · trivial
    clear hK K
    try simp only [Act.put, List.setIfInBounds_toArray, List.set_cons_zero, List.set_cons_succ]
    refine wpAnyH_ready (rs := [9]) (by kernel_rfl) (by simp) ?_
    refine AllReadyH.cons (o := { dst := some 30, op := Op.call { callee := Callee.builtin Builtin.append, args := #[Operand.tmp 25, Operand.tmp 29], argTypes := #[38, 38] }, type := 38, pos := "keep.go:224", after := #[{ on := 4, ground := Ground.data }, { on := 8, ground := Ground.data }, { on := 7, ground := Ground.chain }], guard := none }) rfl (fun K hK => ?_) AllReadyH.nil
    rw [if_pos (by rfl)]
    refine wp_append_two _ (.tmp 25) (.tmp 29) 38 rfl 0 22 iL (.slice none 0 0) 1 24 Tryz.underlying38 hiL hzL0 hzL1 hzL2 rfl (by decide) ow m us rfl hO7.out ⟨w6.heap.size, 0, none⟩ 1 1 [.slice ou6 F.length cu6] rfl rfl (cell_one_new _ _ _) (by simpa using h1u.out) (by decide) (by unfold maxLen; omega) (by omega) (Nat.zero_le _) ?_; intro g8 cap8 w8 hnew8 hold8 hat8; have hb8 := boxR hLN'.out hB6.out hat8; have c8 := hb8.c3; have f8 := hb8.fz 3; have hnew8' := hide' hnew8; have hold8' := hide' hold8; have hat8' := hide' hat8; clear hb8 hnew8 hold8 hat8; (try dsimp only)
    refine hK.out _ _ ?_ (fun hHeld => ?_)
    · trivial
    clear hK K
    try simp only [Act.put, List.setIfInBounds_toArray, List.set_cons_zero, List.set_cons_succ]
    refine wpAnyH_take (i := 10) (oi := { dst := some 31, op := Op.nilCheck (Operand.tmp 21), type := 0, pos := "keep.go:224", after := #[{ on := 0, ground := Ground.data }, { on := 0, ground := Ground.phase }, { on := 1, ground := Ground.phase }, { on := 2, ground := Ground.phase }, { on := 3, ground := Ground.phase }, { on := 4, ground := Ground.phase }, { on := 5, ground := Ground.phase }, { on := 6, ground := Ground.phase }, { on := 7, ground := Ground.phase }, { on := 8, ground := Ground.phase }, { on := 9, ground := Ground.phase }], guard := none }) (v := ?_) rfl (by kernel_rfl) (by kernel_rfl) (by kernel_rfl) (fun _ _ _ h => h) (Or.inl ⟨by rfl, ?_⟩) (by assumption) ?_
    rotate_left
    · intro w hSw; (try dsimp only at hSw); go_simp <;> with_reducible rfl
    simp only [Act.put, List.setIfInBounds_toArray, List.set_cons_zero, List.set_cons_succ]
    refine wpAnyH_take (i := 11) (oi := { dst := some 32, op := Op.fieldAddr 40 (Operand.tmp 31) 3, type := 0, pos := "keep.go:224", after := #[{ on := 10, ground := Ground.data }, { on := 0, ground := Ground.phase }, { on := 1, ground := Ground.phase }, { on := 2, ground := Ground.phase }, { on := 3, ground := Ground.phase }, { on := 4, ground := Ground.phase }, { on := 5, ground := Ground.phase }, { on := 6, ground := Ground.phase }, { on := 7, ground := Ground.phase }, { on := 8, ground := Ground.phase }, { on := 9, ground := Ground.phase }], guard := none }) (v := ?_) rfl (by kernel_rfl) (by kernel_rfl) (by kernel_rfl) (fun _ _ _ h => h) (Or.inl ⟨by rfl, ?_⟩) (by assumption) ?_
    rotate_left
    · intro w hSw; (try dsimp only at hSw); go_simp <;> with_reducible rfl
    simp only [Act.put, List.setIfInBounds_toArray, List.set_cons_zero, List.set_cons_succ]
    refine wpAnyH_ready (rs := [12]) (by kernel_rfl) (by simp) ?_
    refine AllReadyH.cons (o := { dst := none, op := Op.store 38 (Operand.tmp 32) (Operand.tmp 30), type := 0, pos := "keep.go:224", after := #[{ on := 11, ground := Ground.data }, { on := 9, ground := Ground.data }, { on := 9, ground := Ground.chain }, { on := 0, ground := Ground.phase }, { on := 1, ground := Ground.phase }, { on := 2, ground := Ground.phase }, { on := 3, ground := Ground.phase }, { on := 4, ground := Ground.phase }, { on := 5, ground := Ground.phase }, { on := 6, ground := Ground.phase }, { on := 7, ground := Ground.phase }, { on := 8, ground := Ground.phase }, { on := 9, ground := Ground.phase }], guard := none }) rfl (fun K hK => ?_) AllReadyH.nil
    go_simp
    refine hK.out _ _ ?_ (fun hHeld => ?_)
    · trivial
    clear hK K
    try simp only [Act.put, List.setIfInBounds_toArray, List.set_cons_zero, List.set_cons_succ]
    refine wpAnyH_done (by kernel_rfl) ?_ _
    skip
    obtain ⟨tag4, hL4, hFr4⟩ := stageW hLN'.out hB6.out (by rw [hrm'.out]; exact hu6'.out) hnew8'.out hold8'.out hat8'.out
    have hL4' := hide' hL4
    have hFr4' := hide' hFr4
    clear hL4 hFr4 hnew8' hold8' hat8'
    go_wp2
    go_ret
    exact lent_done hL4'.out hFr'.out hFr4'.out hFR.out hg2.out.1 hlt3.out hgt'.out
  refine AllReadyH.cons (o := { dst := some 26, op := Op.buildSlice 22 0 #[], type := 22, pos := "keep.go:224", after := #[], guard := none }) rfl (fun K hK => ?_) AllReadyH.nil
  go_simp
  refine hK.out _ _ ?_ (fun hHeld => ?_)
  · trivial
  clear hK K
  try simp only [Act.put, List.setIfInBounds_toArray, List.set_cons_zero, List.set_cons_succ]
  refine wpAnyH_ready (rs := [4, 7]) (by kernel_rfl) (by simp) ?_
  refine AllReadyH.cons (o := { dst := some 25, op := Op.load 38 (Operand.tmp 24), type := 38, pos := "keep.go:224", after := #[{ on := 3, ground := Ground.data }], guard := none }) rfl (fun K hK => ?_) ?_
  · skip
    go_simp
    refine hK.out _ _ ?_ (fun hHeld => ?_)
    · trivial
    clear hK K
    try simp only [Act.put, List.setIfInBounds_toArray, List.set_cons_zero, List.set_cons_succ]
    refine wpAnyH_ready (rs := [7]) (by kernel_rfl) (by simp) ?_
    refine AllReadyH.cons (o := { dst := some 28, op := Op.call { callee := Callee.builtin Builtin.append, args := #[Operand.tmp 26, Operand.tmp 27], argTypes := #[22, 22] }, type := 22, pos := "keep.go:224", after := #[{ on := 5, ground := Ground.data }, { on := 6, ground := Ground.data }], guard := none }) rfl (fun K hK => ?_) AllReadyH.nil
    rw [if_pos (by rfl)]
    refine wp_copyZ _ (.tmp 26) (.tmp 27) W3.heap.size (.slice (some ⟨g2, 0, none⟩) (l.length + 4) cap2) F rfl rfl hZ.out rfl hR.out (by rw [hFl.out]; omega) ?_; intro u w6 hu6 hg6; obtain ⟨ou6, cu6, rfl⟩ := own_shape hu6; have hB6 := hide' (B4.out.grown hg6 (by simp) (fun j ej => by cases ej; exact Nat.le_refl _)); have c6 := cV.out _ hB6.out; have B7 : Hid (Below W3.heap.size W3 (w6.alloc (.cells #[.slice ou6 F.length cu6] 22))) := hB6.out.alloc hB6.out.size _; have c7 := cV.out _ B7.out; have h1u := hide' (own_one hu6); have hu6' := hide' hu6; have hO7 := hide' ((hLN'.out.below hB6.out).want.outer.alloc (.cells #[.slice ou6 F.length cu6] 22)); clear hu6 hg6; (try dsimp only)
    refine hK.out _ _ ?_ (fun hHeld => ?_)
    · trivial
    clear hK K
    try simp only [Act.put, List.setIfInBounds_toArray, List.set_cons_zero, List.set_cons_succ]
    refine wpAnyH_ready (rs := [8]) (by kernel_rfl) (by simp) ?_
    refine AllReadyH.cons (o := { dst := some 29, op := Op.buildSlice 38 1 #[(0, Operand.tmp 28)], type := 38, pos := "keep.go:224", after := #[{ on := 7, ground := Ground.data }], guard := none }) rfl (fun K hK => ?_) AllReadyH.nil
    go_simp
    refine hK.out _ _ ?_ (fun hHeld => ?_)
    · trivial
    clear hK K
    try simp only [Act.put, List.setIfInBounds_toArray, List.set_cons_zero, List.set_cons_succ]
    refine wpAnyH_ready (rs := [9]) (by kernel_rfl) (by simp) ?_
    refine AllReadyH.cons (o := { dst := some 30, op := Op.call { callee := Callee.builtin Builtin.append, args := #[Operand.tmp 25, Operand.tmp 29], argTypes := #[38, 38] }, type := 38, pos := "keep.go:224", after := #[{ on := 4, ground := Ground.data }, { on := 8, ground := Ground.data }, { on := 7, ground := Ground.chain }], guard := none }) rfl (fun K hK => ?_) AllReadyH.nil
    rw [if_pos (by rfl)]
    refine wp_append_two _ (.tmp 25) (.tmp 29) 38 rfl 0 22 iL (.slice none 0 0) 1 24 Tryz.underlying38 hiL hzL0 hzL1 hzL2 rfl (by decide) ow m us rfl hO7.out ⟨w6.heap.size, 0, none⟩ 1 1 [.slice ou6 F.length cu6] rfl rfl (cell_one_new _ _ _) (by simpa using h1u.out) (by decide) (by unfold maxLen; omega) (by omega) (Nat.zero_le _) ?_; intro g8 cap8 w8 hnew8 hold8 hat8; have hb8 := boxR hLN'.out hB6.out hat8; have c8 := hb8.c3; have f8 := hb8.fz 3; have hnew8' := hide' hnew8; have hold8' := hide' hold8; have hat8' := hide' hat8; clear hb8 hnew8 hold8 hat8; (try dsimp only)
    refine hK.out _ _ ?_ (fun hHeld => ?_)
    · trivial
    clear hK K
    try simp only [Act.put, List.setIfInBounds_toArray, List.set_cons_zero, List.set_cons_succ]
    refine wpAnyH_take (i := 10) (oi := { dst := some 31, op := Op.nilCheck (Operand.tmp 21), type := 0, pos := "keep.go:224", after := #[{ on := 0, ground := Ground.data }, { on := 0, ground := Ground.phase }, { on := 1, ground := Ground.phase }, { on := 2, ground := Ground.phase }, { on := 3, ground := Ground.phase }, { on := 4, ground := Ground.phase }, { on := 5, ground := Ground.phase }, { on := 6, ground := Ground.phase }, { on := 7, ground := Ground.phase }, { on := 8, ground := Ground.phase }, { on := 9, ground := Ground.phase }], guard := none }) (v := ?_) rfl (by kernel_rfl) (by kernel_rfl) (by kernel_rfl) (fun _ _ _ h => h) (Or.inl ⟨by rfl, ?_⟩) (by assumption) ?_
    rotate_left
    · intro w hSw; (try dsimp only at hSw); go_simp <;> with_reducible rfl
    simp only [Act.put, List.setIfInBounds_toArray, List.set_cons_zero, List.set_cons_succ]
    refine wpAnyH_take (i := 11) (oi := { dst := some 32, op := Op.fieldAddr 40 (Operand.tmp 31) 3, type := 0, pos := "keep.go:224", after := #[{ on := 10, ground := Ground.data }, { on := 0, ground := Ground.phase }, { on := 1, ground := Ground.phase }, { on := 2, ground := Ground.phase }, { on := 3, ground := Ground.phase }, { on := 4, ground := Ground.phase }, { on := 5, ground := Ground.phase }, { on := 6, ground := Ground.phase }, { on := 7, ground := Ground.phase }, { on := 8, ground := Ground.phase }, { on := 9, ground := Ground.phase }], guard := none }) (v := ?_) rfl (by kernel_rfl) (by kernel_rfl) (by kernel_rfl) (fun _ _ _ h => h) (Or.inl ⟨by rfl, ?_⟩) (by assumption) ?_
    rotate_left
    · intro w hSw; (try dsimp only at hSw); go_simp <;> with_reducible rfl
    simp only [Act.put, List.setIfInBounds_toArray, List.set_cons_zero, List.set_cons_succ]
    refine wpAnyH_ready (rs := [12]) (by kernel_rfl) (by simp) ?_
    refine AllReadyH.cons (o := { dst := none, op := Op.store 38 (Operand.tmp 32) (Operand.tmp 30), type := 0, pos := "keep.go:224", after := #[{ on := 11, ground := Ground.data }, { on := 9, ground := Ground.data }, { on := 9, ground := Ground.chain }, { on := 0, ground := Ground.phase }, { on := 1, ground := Ground.phase }, { on := 2, ground := Ground.phase }, { on := 3, ground := Ground.phase }, { on := 4, ground := Ground.phase }, { on := 5, ground := Ground.phase }, { on := 6, ground := Ground.phase }, { on := 7, ground := Ground.phase }, { on := 8, ground := Ground.phase }, { on := 9, ground := Ground.phase }], guard := none }) rfl (fun K hK => ?_) AllReadyH.nil
    go_simp
    refine hK.out _ _ ?_ (fun hHeld => ?_)
    · trivial
    clear hK K
    try simp only [Act.put, List.setIfInBounds_toArray, List.set_cons_zero, List.set_cons_succ]
    refine wpAnyH_done (by kernel_rfl) ?_ _
    skip
    obtain ⟨tag4, hL4, hFr4⟩ := stageW hLN'.out hB6.out (by rw [hrm'.out]; exact hu6'.out) hnew8'.out hold8'.out hat8'.out
    have hL4' := hide' hL4
    have hFr4' := hide' hFr4
    clear hL4 hFr4 hnew8' hold8' hat8'
    go_wp2
    go_ret
    exact lent_done hL4'.out hFr'.out hFr4'.out hFR.out hg2.out.1 hlt3.out hgt'.out
  refine AllReadyH.cons (o := { dst := some 28, op := Op.call { callee := Callee.builtin Builtin.append, args := #[Operand.tmp 26, Operand.tmp 27], argTypes := #[22, 22] }, type := 22, pos := "keep.go:224", after := #[{ on := 5, ground := Ground.data }, { on := 6, ground := Ground.data }], guard := none }) rfl (fun K hK => ?_) AllReadyH.nil
  rw [if_pos (by rfl)]
  refine wp_copyZ _ (.tmp 26) (.tmp 27) W3.heap.size (.slice (some ⟨g2, 0, none⟩) (l.length + 4) cap2) F rfl rfl hZ.out rfl hR.out (by rw [hFl.out]; omega) ?_; intro u w6 hu6 hg6; obtain ⟨ou6, cu6, rfl⟩ := own_shape hu6; have hB6 := hide' (B4.out.grown hg6 (by simp) (fun j ej => by cases ej; exact Nat.le_refl _)); have c6 := cV.out _ hB6.out; have B7 : Hid (Below W3.heap.size W3 (w6.alloc (.cells #[.slice ou6 F.length cu6] 22))) := hB6.out.alloc hB6.out.size _; have c7 := cV.out _ B7.out; have h1u := hide' (own_one hu6); have hu6' := hide' hu6; have hO7 := hide' ((hLN'.out.below hB6.out).want.outer.alloc (.cells #[.slice ou6 F.length cu6] 22)); clear hu6 hg6; (try dsimp only)
  refine hK.out _ _ ?_ (fun hHeld => ?_)
  · trivial
  clear hK K
  try simp only [Act.put, List.setIfInBounds_toArray, List.set_cons_zero, List.set_cons_succ]
  refine wpAnyH_ready (rs := [4, 8]) (by kernel_rfl) (by simp) ?_
  refine AllReadyH.cons (o := { dst := some 25, op := Op.load 38 (Operand.tmp 24), type := 38, pos := "keep.go:224", after := #[{ on := 3, ground := Ground.data }], guard := none }) rfl (fun K hK => ?_) ?_
  · skip
    go_simp
    refine hK.out _ _ ?_ (fun hHeld => ?_)
    · trivial
    clear hK K
    try simp only [Act.put, List.setIfInBounds_toArray, List.set_cons_zero, List.set_cons_succ]
    refine wpAnyH_ready (rs := [8]) (by kernel_rfl) (by simp) ?_
    refine AllReadyH.cons (o := { dst := some 29, op := Op.buildSlice 38 1 #[(0, Operand.tmp 28)], type := 38, pos := "keep.go:224", after := #[{ on := 7, ground := Ground.data }], guard := none }) rfl (fun K hK => ?_) AllReadyH.nil
    go_simp
    refine hK.out _ _ ?_ (fun hHeld => ?_)
    · trivial
    clear hK K
    try simp only [Act.put, List.setIfInBounds_toArray, List.set_cons_zero, List.set_cons_succ]
    refine wpAnyH_ready (rs := [9]) (by kernel_rfl) (by simp) ?_
    refine AllReadyH.cons (o := { dst := some 30, op := Op.call { callee := Callee.builtin Builtin.append, args := #[Operand.tmp 25, Operand.tmp 29], argTypes := #[38, 38] }, type := 38, pos := "keep.go:224", after := #[{ on := 4, ground := Ground.data }, { on := 8, ground := Ground.data }, { on := 7, ground := Ground.chain }], guard := none }) rfl (fun K hK => ?_) AllReadyH.nil
    rw [if_pos (by rfl)]
    refine wp_append_two _ (.tmp 25) (.tmp 29) 38 rfl 0 22 iL (.slice none 0 0) 1 24 Tryz.underlying38 hiL hzL0 hzL1 hzL2 rfl (by decide) ow m us rfl hO7.out ⟨w6.heap.size, 0, none⟩ 1 1 [.slice ou6 F.length cu6] rfl rfl (cell_one_new _ _ _) (by simpa using h1u.out) (by decide) (by unfold maxLen; omega) (by omega) (Nat.zero_le _) ?_; intro g8 cap8 w8 hnew8 hold8 hat8; have hb8 := boxR hLN'.out hB6.out hat8; have c8 := hb8.c3; have f8 := hb8.fz 3; have hnew8' := hide' hnew8; have hold8' := hide' hold8; have hat8' := hide' hat8; clear hb8 hnew8 hold8 hat8; (try dsimp only)
    refine hK.out _ _ ?_ (fun hHeld => ?_)
    · trivial
    clear hK K
    try simp only [Act.put, List.setIfInBounds_toArray, List.set_cons_zero, List.set_cons_succ]
    refine wpAnyH_take (i := 10) (oi := { dst := some 31, op := Op.nilCheck (Operand.tmp 21), type := 0, pos := "keep.go:224", after := #[{ on := 0, ground := Ground.data }, { on := 0, ground := Ground.phase }, { on := 1, ground := Ground.phase }, { on := 2, ground := Ground.phase }, { on := 3, ground := Ground.phase }, { on := 4, ground := Ground.phase }, { on := 5, ground := Ground.phase }, { on := 6, ground := Ground.phase }, { on := 7, ground := Ground.phase }, { on := 8, ground := Ground.phase }, { on := 9, ground := Ground.phase }], guard := none }) (v := ?_) rfl (by kernel_rfl) (by kernel_rfl) (by kernel_rfl) (fun _ _ _ h => h) (Or.inl ⟨by rfl, ?_⟩) (by assumption) ?_
    rotate_left
    · intro w hSw; (try dsimp only at hSw); go_simp <;> with_reducible rfl
    simp only [Act.put, List.setIfInBounds_toArray, List.set_cons_zero, List.set_cons_succ]
    refine wpAnyH_take (i := 11) (oi := { dst := some 32, op := Op.fieldAddr 40 (Operand.tmp 31) 3, type := 0, pos := "keep.go:224", after := #[{ on := 10, ground := Ground.data }, { on := 0, ground := Ground.phase }, { on := 1, ground := Ground.phase }, { on := 2, ground := Ground.phase }, { on := 3, ground := Ground.phase }, { on := 4, ground := Ground.phase }, { on := 5, ground := Ground.phase }, { on := 6, ground := Ground.phase }, { on := 7, ground := Ground.phase }, { on := 8, ground := Ground.phase }, { on := 9, ground := Ground.phase }], guard := none }) (v := ?_) rfl (by kernel_rfl) (by kernel_rfl) (by kernel_rfl) (fun _ _ _ h => h) (Or.inl ⟨by rfl, ?_⟩) (by assumption) ?_
    rotate_left
    · intro w hSw; (try dsimp only at hSw); go_simp <;> with_reducible rfl
    simp only [Act.put, List.setIfInBounds_toArray, List.set_cons_zero, List.set_cons_succ]
    refine wpAnyH_ready (rs := [12]) (by kernel_rfl) (by simp) ?_
    refine AllReadyH.cons (o := { dst := none, op := Op.store 38 (Operand.tmp 32) (Operand.tmp 30), type := 0, pos := "keep.go:224", after := #[{ on := 11, ground := Ground.data }, { on := 9, ground := Ground.data }, { on := 9, ground := Ground.chain }, { on := 0, ground := Ground.phase }, { on := 1, ground := Ground.phase }, { on := 2, ground := Ground.phase }, { on := 3, ground := Ground.phase }, { on := 4, ground := Ground.phase }, { on := 5, ground := Ground.phase }, { on := 6, ground := Ground.phase }, { on := 7, ground := Ground.phase }, { on := 8, ground := Ground.phase }, { on := 9, ground := Ground.phase }], guard := none }) rfl (fun K hK => ?_) AllReadyH.nil
    go_simp
    refine hK.out _ _ ?_ (fun hHeld => ?_)
    · trivial
    clear hK K
    try simp only [Act.put, List.setIfInBounds_toArray, List.set_cons_zero, List.set_cons_succ]
    refine wpAnyH_done (by kernel_rfl) ?_ _
    skip
    obtain ⟨tag4, hL4, hFr4⟩ := stageW hLN'.out hB6.out (by rw [hrm'.out]; exact hu6'.out) hnew8'.out hold8'.out hat8'.out
    have hL4' := hide' hL4
    have hFr4' := hide' hFr4
    clear hL4 hFr4 hnew8' hold8' hat8'
    go_wp2
    go_ret
    exact lent_done hL4'.out hFr'.out hFr4'.out hFR.out hg2.out.1 hlt3.out hgt'.out
  refine AllReadyH.cons (o := { dst := some 29, op := Op.buildSlice 38 1 #[(0, Operand.tmp 28)], type := 38, pos := "keep.go:224", after := #[{ on := 7, ground := Ground.data }], guard := none }) rfl (fun K hK => ?_) AllReadyH.nil
  go_simp
  refine hK.out _ _ ?_ (fun hHeld => ?_)
  · trivial
  clear hK K
  try simp only [Act.put, List.setIfInBounds_toArray, List.set_cons_zero, List.set_cons_succ]
  refine wpAnyH_ready (rs := [4]) (by kernel_rfl) (by simp) ?_
  refine AllReadyH.cons (o := { dst := some 25, op := Op.load 38 (Operand.tmp 24), type := 38, pos := "keep.go:224", after := #[{ on := 3, ground := Ground.data }], guard := none }) rfl (fun K hK => ?_) AllReadyH.nil
  go_simp
  refine hK.out _ _ ?_ (fun hHeld => ?_)
  · trivial
  clear hK K
  try simp only [Act.put, List.setIfInBounds_toArray, List.set_cons_zero, List.set_cons_succ]
  refine wpAnyH_ready (rs := [9]) (by kernel_rfl) (by simp) ?_
  refine AllReadyH.cons (o := { dst := some 30, op := Op.call { callee := Callee.builtin Builtin.append, args := #[Operand.tmp 25, Operand.tmp 29], argTypes := #[38, 38] }, type := 38, pos := "keep.go:224", after := #[{ on := 4, ground := Ground.data }, { on := 8, ground := Ground.data }, { on := 7, ground := Ground.chain }], guard := none }) rfl (fun K hK => ?_) AllReadyH.nil
  rw [if_pos (by rfl)]
  refine wp_append_two _ (.tmp 25) (.tmp 29) 38 rfl 0 22 iL (.slice none 0 0) 1 24 Tryz.underlying38 hiL hzL0 hzL1 hzL2 rfl (by decide) ow m us rfl hO7.out ⟨w6.heap.size, 0, none⟩ 1 1 [.slice ou6 F.length cu6] rfl rfl (cell_one_new _ _ _) (by simpa using h1u.out) (by decide) (by unfold maxLen; omega) (by omega) (Nat.zero_le _) ?_; intro g8 cap8 w8 hnew8 hold8 hat8; have hb8 := boxR hLN'.out hB6.out hat8; have c8 := hb8.c3; have f8 := hb8.fz 3; have hnew8' := hide' hnew8; have hold8' := hide' hold8; have hat8' := hide' hat8; clear hb8 hnew8 hold8 hat8; (try dsimp only)
  refine hK.out _ _ ?_ (fun hHeld => ?_)
  · trivial
  clear hK K
  try simp only [Act.put, List.setIfInBounds_toArray, List.set_cons_zero, List.set_cons_succ]
  refine wpAnyH_take (i := 10) (oi := { dst := some 31, op := Op.nilCheck (Operand.tmp 21), type := 0, pos := "keep.go:224", after := #[{ on := 0, ground := Ground.data }, { on := 0, ground := Ground.phase }, { on := 1, ground := Ground.phase }, { on := 2, ground := Ground.phase }, { on := 3, ground := Ground.phase }, { on := 4, ground := Ground.phase }, { on := 5, ground := Ground.phase }, { on := 6, ground := Ground.phase }, { on := 7, ground := Ground.phase }, { on := 8, ground := Ground.phase }, { on := 9, ground := Ground.phase }], guard := none }) (v := ?_) rfl (by kernel_rfl) (by kernel_rfl) (by kernel_rfl) (fun _ _ _ h => h) (Or.inl ⟨by rfl, ?_⟩) (by assumption) ?_
  rotate_left
  · intro w hSw; (try dsimp only at hSw); go_simp <;> with_reducible rfl
  simp only [Act.put, List.setIfInBounds_toArray, List.set_cons_zero, List.set_cons_succ]
  refine wpAnyH_take (i := 11) (oi := { dst := some 32, op := Op.fieldAddr 40 (Operand.tmp 31) 3, type := 0, pos := "keep.go:224", after := #[{ on := 10, ground := Ground.data }, { on := 0, ground := Ground.phase }, { on := 1, ground := Ground.phase }, { on := 2, ground := Ground.phase }, { on := 3, ground := Ground.phase }, { on := 4, ground := Ground.phase }, { on := 5, ground := Ground.phase }, { on := 6, ground := Ground.phase }, { on := 7, ground := Ground.phase }, { on := 8, ground := Ground.phase }, { on := 9, ground := Ground.phase }], guard := none }) (v := ?_) rfl (by kernel_rfl) (by kernel_rfl) (by kernel_rfl) (fun _ _ _ h => h) (Or.inl ⟨by rfl, ?_⟩) (by assumption) ?_
  rotate_left
  · intro w hSw; (try dsimp only at hSw); go_simp <;> with_reducible rfl
  simp only [Act.put, List.setIfInBounds_toArray, List.set_cons_zero, List.set_cons_succ]
  refine wpAnyH_ready (rs := [12]) (by kernel_rfl) (by simp) ?_
  refine AllReadyH.cons (o := { dst := none, op := Op.store 38 (Operand.tmp 32) (Operand.tmp 30), type := 0, pos := "keep.go:224", after := #[{ on := 11, ground := Ground.data }, { on := 9, ground := Ground.data }, { on := 9, ground := Ground.chain }, { on := 0, ground := Ground.phase }, { on := 1, ground := Ground.phase }, { on := 2, ground := Ground.phase }, { on := 3, ground := Ground.phase }, { on := 4, ground := Ground.phase }, { on := 5, ground := Ground.phase }, { on := 6, ground := Ground.phase }, { on := 7, ground := Ground.phase }, { on := 8, ground := Ground.phase }, { on := 9, ground := Ground.phase }], guard := none }) rfl (fun K hK => ?_) AllReadyH.nil
  go_simp
  refine hK.out _ _ ?_ (fun hHeld => ?_)
  · trivial
  clear hK K
  try simp only [Act.put, List.setIfInBounds_toArray, List.set_cons_zero, List.set_cons_succ]
  refine wpAnyH_done (by kernel_rfl) ?_ _
  skip
  obtain ⟨tag4, hL4, hFr4⟩ := stageW hLN'.out hB6.out (by rw [hrm'.out]; exact hu6'.out) hnew8'.out hold8'.out hat8'.out
  have hL4' := hide' hL4
  have hFr4' := hide' hFr4
  clear hL4 hFr4 hnew8' hold8' hat8'
  go_wp2
  go_ret
  exact lent_done hL4'.out hFr'.out hFr4'.out hFR.out hg2.out.1 hlt3.out hgt'.out
end Go.Proofs.YtlijlelejobchaaGreatDoor.KU
namespace Go.Proofs.YtlijlelejobchaaGreatDoor.KU
open Go.RowKit
open Go.Proofs.YtlijlelejobchaaGreatDoor.K
/-- The lists below i are written over, and k places of list i. -/
def rowsN (rows : Nat → List Int) (i k j : Nat) : List Int := if j < i then List.replicate (rows j).length 99 else if j = i then List.replicate k 99 ++ (rows i).drop k else rows j
theorem rowsN_i (rows : Nat → List Int) (i k : Nat) : rowsN rows i k i = List.replicate k 99 ++ (rows i).drop k := by rw [rowsN, if_neg (Nat.lt_irrefl _), if_pos rfl]
theorem rowsN_at (rows : Nat → List Int) (i : Nat) : rowsN rows i 0 i = rows i := by rw [rowsN_i]; simp
theorem rowsN_len (rows : Nat → List Int) (i k : Nat) (h : k ≤ (rows i).length) : (rowsN rows i k i).length = (rows i).length := by
  rw [rowsN_i, List.length_append, List.length_replicate, List.length_drop]; omega
theorem rowsN_set (rows : Nat → List Int) (i k : Nat) (h : k < (rows i).length) : rowsN rows i (k + 1) i = (rowsN rows i k i).set k 99 := by
  rw [rowsN_i, rowsN_i, List.set_append_right _ _ (by rw [List.length_replicate]; exact Nat.le_refl _), List.length_replicate, Nat.sub_self, List.drop_eq_getElem_cons h, List.set_cons_zero, List.replicate_succ', List.append_assoc]; rfl
theorem rowsN_ne (rows : Nat → List Int) (i k j : Nat) (h : j ≠ i) : rowsN rows i (k + 1) j = rowsN rows i k j := by
  unfold rowsN; rw [if_neg h, if_neg h]
theorem rowsN_next (rows : Nat → List Int) (i j : Nat) : rowsN rows (i + 1) 0 j = rowsN rows i (rows i).length j := by
  unfold rowsN
  by_cases h1 : j < i
  · rw [if_pos h1, if_pos (by omega)]
  · by_cases h2 : j = i
    · subst h2; rw [if_neg h1, if_pos (by omega), if_pos rfl, List.drop_length, List.append_nil]
    · rw [if_neg (by omega), if_neg h1, if_neg h2]
      by_cases h3 : j = i + 1
      · subst h3; rw [if_pos rfl]; rfl
      · rw [if_neg h3]
theorem rowsN_zero (rows : Nat → List Int) (j : Nat) : rowsN rows 0 0 j = rows j := by
  unfold rowsN
  by_cases h : j = 0
  · subst h; rfl
  · rw [if_neg (by omega), if_neg h]
set_option maxRecDepth 100000 in
set_option maxHeartbeats 8000000 in
theorem loanBack2 (p m kk : Nat) (tL tU : Nat → Nat) (c0 c1 c2 c3 : Value) (vs us vs2 us2 : List Value) (rows rows2 : Nat → List Int) (w : World) (hL0 : K.LN w p c2 c3 tL c0 c1 m m vs us rows) (hU0 : LN w p c0 c1 tU c2 c3 kk kk vs2 us2 rows2) (hd : ∀ g, g ≠ p → tL g = 0 ∨ tU g = 0) (hm : m ≤ 100000) (hkk : kk ≤ 100000) :
    Calls Tryz.prog 18 #[.pointer (some ⟨p, 0, none⟩)] w fun e w' => e = .returned (.bool true) ∧ Sm (fun g => tL g ≠ 0 ∨ tU g ≠ 0) id w w' := by
  obtain ⟨hbx, hbt, hlive, hwant, hfresh, hrow⟩ := hL0
  obtain ⟨_, hbt2, hliveU, hwantU, _, hrowU⟩ := hU0
  have hrow' := hide' hrow
  have hrow2 := hide' hrowU
  have hlive0 : Hid (K.Fam w tL 2 cL c0 m vs rows) := hlive
  have hwant0 := hide' hwant
  have hliveU0 : Hid (Fam w tU 2 cL c2 kk vs2 rows2) := hliveU
  have hwantU0 := hide' hwantU
  have hbx' := hide' hbx
  have hd' := hide' hd
  obtain ⟨oa, cap, rfl⟩ := own_shape hlive.outer
  obtain ⟨ob, cb, rfl⟩ := own_shape hwant.outer
  obtain ⟨oa9, cap9, rfl⟩ := own_shape hliveU.outer
  obtain ⟨ob9, cb9, rfl⟩ := own_shape hwantU.outer
  clear hwant hlive hfresh hrow hbx hliveU hwantU hrowU hd
  go_enter Tryz.func18, Tryz.ntmps18
  go_wp2
  go_loopw [3, 4, 5] (fun okv i _ wr => ∃ (c : Nat), c ≤ m ∧ i = .int .i64 c ∧ okv = .bool true ∧ K.BoxN wr p (.slice oa9 kk cap9) (.slice ob9 kk cb9) (.slice oa m cap) (.slice ob m cb) ∧ K.Fam wr tL 2 cL (.slice oa m cap) m vs (K.rowsN rows c 0) ∧ K.Fam wr tL 3 (fun j => 11 + 2 * j) (.slice ob m cb) m us rows ∧ Sm (· ≠ 0) tL w wr) (fun _ i _ _ => ((m : Int) - intOf i).toNat)
  case atStart => exact ⟨0, Nat.zero_le _, rfl, rfl, hbx'.out, hlive0.out.congr (fun j _ => K.rowsN_zero rows j), hwant0.out, Sm.refl _ _ _⟩
  case round =>
    clear hbx' hlive0 hwant0
    obtain ⟨c, hc, rfl, rfl, hb, hL, hU, hS⟩ := hrel
    have d0 := hb.c0
    by_cases hlt : c < m
    · have d1 := hb.c1
      obtain ⟨g, cap2, e, _, _⟩ := hL.outer.form (by omega)
      obtain ⟨rfl, rfl⟩ : oa = some ⟨g, 0, none⟩ ∧ cap = cap2 := by injection e with h1 h2 h3; exact ⟨h1, h3⟩
      obtain ⟨g1, cap3, e1, _, _⟩ := hU.outer.form (by omega)
      obtain ⟨rfl, rfl⟩ : ob = some ⟨g1, 0, none⟩ ∧ cb = cap3 := by injection e1 with h1 h2 h3; exact ⟨h1, h3⟩
      obtain ⟨v, hv⟩ : ∃ v, vs[c]? = some v := ⟨_, List.getElem?_eq_getElem (by rw [hL.len]; exact hlt)⟩
      obtain ⟨u, hu⟩ : ∃ u, us[c]? = some u := ⟨_, List.getElem?_eq_getElem (by rw [hU.len]; exact hlt)⟩
      have hin := hL.inner c v hv
      have r1 := K.RowI.of_owns hin
      rw [K.rowsN_at] at r1
      have r2 := K.RowI.of_owns (hU.inner c u hu)
      have hnc := hrow'.out c hlt
      have cu : wr.cell? ⟨g1, c, none⟩ = some u := by rw [hU.outer.cellAt c (by omega)]; exact hu
      have cv : wr.cell? ⟨g, c, none⟩ = some v := by rw [hL.outer.cellAt c (by omega)]; exact hv
      rw [K.rowsN_len rows c 0 (Nat.zero_le _)] at hin
      have KI : Hid (∀ W, Below wr.heap.size wr W → Calls Tryz.prog 24 #[v, u] W fun e w' => e = .returned (.bool true) ∧ Below W.heap.size W w') := fun W hW => by
        have := K.keepInts (rows c) (rows c) v u W (r1.below hW (Nat.le_refl _)) (r2.below hW (Nat.le_refl _)) hnc hnc
        simpa using this
      obtain ⟨ox, cx, rfl⟩ := own_shape hin
      obtain ⟨nc, hnc'⟩ : ∃ nc, (rows c).length = nc := ⟨_, rfl⟩
      rw [hnc'] at hnc hin hv cv KI
      have hv' := hide' hv
      have hL' := hide' hL
      have hU' := hide' hU
      have hb' := hide' hb
      have hS' := hide' hS
      have hnE := hide' hnc'
      have hi0 : Hid (wr.drew.cell? ⟨p, 0, none⟩ = some (.slice (some ⟨g, 0, none⟩) m cap) ∧ wr.drew.cell? ⟨p, 1, none⟩ = some (.slice (some ⟨g1, 0, none⟩) m cb) ∧ wr.drew.cell? ⟨g, c, none⟩ = some (.slice ox nc cx) ∧ wr.drew.cell? ⟨g1, c, none⟩ = some u ∧ Below wr.heap.size wr wr.drew) := ⟨d0, d1, cv, cu, (Below.refl _ _).drew⟩
      clear hL hb hS hU e e1 hin hnc' hv hu r1 r2
      go_wp2
      go_region_held3 (fun V => V.cell? ⟨p, 0, none⟩ = some (.slice (some ⟨g, 0, none⟩) m cap) ∧ V.cell? ⟨p, 1, none⟩ = some (.slice (some ⟨g1, 0, none⟩) m cb) ∧ V.cell? ⟨g, c, none⟩ = some (.slice ox nc cx) ∧ V.cell? ⟨g1, c, none⟩ = some u ∧ Below wr.heap.size wr V) (first | (exact keep4 (by assumption) hb) | (exact keep4 hi0.out hb) | (exact hi0.out)) (first | (go_at_call 24; refine (KI.out _ (by first | exact ‹_ ∧ _ ∧ _ ∧ _ ∧ _›.2.2.2.2 | exact (Below.refl _ _).drew)).mono ?_; rintro e w7 ⟨rfl, hb⟩))
      all_goals
        have hB7 := ‹_ ∧ _ ∧ _ ∧ _ ∧ Below wr.heap.size wr w7›.2.2.2.2
        have hb7 := hide' (hb'.out.below hB7)
        have hL7 := hide' (hL'.out.mv (Sm.below (X := fun _ => False) hB7) (fun h => h) (fun _ _ h => h))
        have hU7 := hide' (hU'.out.mv (Sm.below (X := fun _ => False) hB7) (fun h => h) (fun _ _ h => h))
        have hS7 := hide' (hS'.out.trans (Sm.below (X := (· ≠ 0)) (tag := tL) hB7) (fun _ _ => rfl))
        have a0 := hb7.out.c0
        have av : w7.cell? ⟨g, c, none⟩ = some (.slice ox nc cx) := by rw [hL7.out.outer.cellAt c (by omega)]; exact hv'.out
        clear hb' hL' hU' hS' hB7 hi0 KI
        go_wp2
        go_loopw [5] (fun k wr2 => ∃ (f : Nat), f ≤ nc ∧ k = .int .i64 f ∧ K.BoxN wr2 p (.slice oa9 kk cap9) (.slice ob9 kk cb9) (.slice (some ⟨g, 0, none⟩) m cap) (.slice (some ⟨g1, 0, none⟩) m cb) ∧ K.Fam wr2 tL 2 cL (.slice (some ⟨g, 0, none⟩) m cap) m vs (K.rowsN rows c f) ∧ K.Fam wr2 tL 3 (fun j => 11 + 2 * j) (.slice (some ⟨g1, 0, none⟩) m cb) m us rows ∧ Sm (· ≠ 0) tL w wr2) (fun k _ => ((nc : Int) - intOf k).toNat)
        case atStart => exact ⟨0, Nat.zero_le _, rfl, hb7.out, hL7.out, hU7.out, hS7.out⟩
        case round =>
          clear hb7 hL7 hU7 hS7 a0 av d0 d1 cv cu
          obtain ⟨f, hf, rfl, hb, hL, hU, hS⟩ := hrel
          rename World => wr3
          have d0 := hb.c0
          have cv : wr3.cell? ⟨g, c, none⟩ = some (.slice ox nc cx) := by rw [hL.outer.cellAt c (by omega)]; exact hv'.out
          by_cases hflt : f < nc
          · have hin := hL.inner c _ hv'.out
            rw [K.rowsN_len rows c f (by rw [hnE.out]; omega), hnE.out] at hin
            obtain ⟨gx, cx2, e, _, _⟩ := hin.form (by omega)
            obtain ⟨rfl, rfl⟩ : ox = some ⟨gx, 0, none⟩ ∧ cx = cx2 := by injection e with h1 h2 h3; exact ⟨h1, h3⟩
            obtain ⟨z, hz⟩ : ∃ z, (K.rowsN rows c f c)[f]? = some z := ⟨_, List.getElem?_eq_getElem (by rw [K.rowsN_len rows c f (by rw [hnE.out]; omega), hnE.out]; exact hflt)⟩
            have cz := K.cell_in hin hz
            have fz := hin.frozenAt f
            have hL' := hide' hL
            have hU' := hide' hU
            have hb' := hide' hb
            have hS' := hide' hS
            have ht : Hid (tL gx = cL c) := hL.itag c _ gx hv'.out rfl
            clear hL hb hS hU e hin hz
            go_wp2
            have s1 : Sm (· = cL c) tL wr3 (wr3.setCell ⟨gx, f, none⟩ (.int .i64 (-99))) := Sm.setCell _ ht.out
            exact ⟨⟨f + 1, by omega, by go_num, hb'.out.mv s1 (by rw [hbt]; unfold cL; omega), hL'.out.store hv'.out (K.rowsN_set rows c f (by rw [hnE.out]; exact hflt)) (fun j _ hj => K.rowsN_ne rows c f j hj), hU'.out.mv s1 (by unfold cL; omega) (fun j _ => by unfold cL; omega), hS'.out.trans (s1.mono fun t et => by rw [et]; unfold cL; omega) (fun _ _ => rfl)⟩, by simp [intOf]; omega⟩
          · obtain rfl : f = nc := by omega
            have hL' := hide' hL
            have hU' := hide' hU
            have hb' := hide' hb
            have hS' := hide' hS
            clear hL hb hS hU
            go_wp2
            exact ⟨⟨c + 1, by omega, by go_num, rfl, hb'.out, hL'.out.congr (fun j _ => by rw [K.rowsN_next, hnE.out]), hU'.out, hS'.out⟩, by simp [intOf]; omega⟩
    · obtain rfl : m = c := by omega
      rename World => w1
      have hU2 : Sm (fun t => t = 0 ∨ t = 1) tU w w1 := ⟨hS.os, hS.tape, hS.output, hS.size, fun g hg hx => hS.block g hg fun e => by
        rcases hd'.out g (fun q => hx (.inr (by rw [q]; exact hbt2))) with q | q
        · exact e q
        · exact hx (.inl q)⟩
      have hlive2 := hide' (hliveU0.out.mv hU2 (by decide) (fun j _ => by unfold cL; omega))
      have hwant2 := hide' (hwantU0.out.mv hU2 (by decide) (fun j _ => by omega))
      have hbx2 : Hid (BoxN w1 p (.slice oa m cap) (.slice ob m cb) (.slice oa9 kk cap9) (.slice ob9 kk cb9)) := hb
      have hS1 := hide' hS
      have d2 := hb.c2
      clear hb hL hU hS hU2 hliveU0 hwantU0 hd' hrow'
      go_wp2
      go_loopw [3, 6, 7] (fun okv i _ wr => ∃ (c : Nat), c ≤ kk ∧ i = .int .i64 c ∧ okv = .bool true ∧ BoxN wr p (.slice oa m cap) (.slice ob m cb) (.slice oa9 kk cap9) (.slice ob9 kk cb9) ∧ Fam wr tU 2 cL (.slice oa9 kk cap9) kk vs2 (rowsN rows2 c 0) ∧ Fam wr tU 3 (fun j => 11 + 2 * j) (.slice ob9 kk cb9) kk us2 rows2 ∧ Sm (· ≠ 0) tU w1 wr) (fun _ i _ _ => ((kk : Int) - intOf i).toNat)
      case atStart => exact ⟨0, Nat.zero_le _, rfl, rfl, hbx2.out, hlive2.out.congr (fun j _ => rowsN_zero rows2 j), hwant2.out, Sm.refl _ _ _⟩
      case round =>
        clear hbx2 hlive2 hwant2
        obtain ⟨c, hc, rfl, rfl, hb, hL, hU, hS⟩ := hrel
        have d0 := hb.c2
        by_cases hlt : c < kk
        · have d1 := hb.c3
          obtain ⟨g, cap2, e, _, _⟩ := hL.outer.form (by omega)
          obtain ⟨rfl, rfl⟩ : oa9 = some ⟨g, 0, none⟩ ∧ cap9 = cap2 := by injection e with h1 h2 h3; exact ⟨h1, h3⟩
          obtain ⟨g1, cap3, e1, _, _⟩ := hU.outer.form (by omega)
          obtain ⟨rfl, rfl⟩ : ob9 = some ⟨g1, 0, none⟩ ∧ cb9 = cap3 := by injection e1 with h1 h2 h3; exact ⟨h1, h3⟩
          obtain ⟨v, hv⟩ : ∃ v, vs2[c]? = some v := ⟨_, List.getElem?_eq_getElem (by rw [hL.len]; exact hlt)⟩
          obtain ⟨u, hu⟩ : ∃ u, us2[c]? = some u := ⟨_, List.getElem?_eq_getElem (by rw [hU.len]; exact hlt)⟩
          have hin := hL.inner c v hv
          have r1 := RowI.of_owns hin
          rw [rowsN_at] at r1
          have r2 := RowI.of_owns (hU.inner c u hu)
          have hnc := hrow2.out c hlt
          have cu : wr.cell? ⟨g1, c, none⟩ = some u := by rw [hU.outer.cellAt c (by omega)]; exact hu
          have cv : wr.cell? ⟨g, c, none⟩ = some v := by rw [hL.outer.cellAt c (by omega)]; exact hv
          rw [rowsN_len rows2 c 0 (Nat.zero_le _)] at hin
          have KI : Hid (∀ W, Below wr.heap.size wr W → Calls Tryz.prog 40 #[v, u] W fun e w' => e = .returned (.bool true) ∧ Below W.heap.size W w') := fun W hW => by
            have := keepRows (rows2 c) (rows2 c) v u W (r1.below hW (Nat.le_refl _)) (r2.below hW (Nat.le_refl _)) hnc hnc
            simpa using this
          obtain ⟨ox, cx, rfl⟩ := own_shape hin
          obtain ⟨nc, hnc'⟩ : ∃ nc, (rows2 c).length = nc := ⟨_, rfl⟩
          rw [hnc'] at hnc hin hv cv KI
          have hv' := hide' hv
          have hL' := hide' hL
          have hU' := hide' hU
          have hb' := hide' hb
          have hS' := hide' hS
          have hnE := hide' hnc'
          have hi0 : Hid (wr.drew.cell? ⟨p, 2, none⟩ = some (.slice (some ⟨g, 0, none⟩) kk cap9) ∧ wr.drew.cell? ⟨p, 3, none⟩ = some (.slice (some ⟨g1, 0, none⟩) kk cb9) ∧ wr.drew.cell? ⟨g, c, none⟩ = some (.slice ox nc cx) ∧ wr.drew.cell? ⟨g1, c, none⟩ = some u ∧ Below wr.heap.size wr wr.drew) := ⟨d0, d1, cv, cu, (Below.refl _ _).drew⟩
          clear hL hb hS hU e e1 hin hnc' hv hu r1 r2
          go_wp2
          go_region_held3 (fun V => V.cell? ⟨p, 2, none⟩ = some (.slice (some ⟨g, 0, none⟩) kk cap9) ∧ V.cell? ⟨p, 3, none⟩ = some (.slice (some ⟨g1, 0, none⟩) kk cb9) ∧ V.cell? ⟨g, c, none⟩ = some (.slice ox nc cx) ∧ V.cell? ⟨g1, c, none⟩ = some u ∧ Below wr.heap.size wr V) (first | (exact keep4 (by assumption) hb) | (exact keep4 hi0.out hb) | (exact hi0.out)) (first | (go_at_call 40; refine (KI.out _ (by first | exact ‹_ ∧ _ ∧ _ ∧ _ ∧ _›.2.2.2.2 | exact (Below.refl _ _).drew)).mono ?_; rintro e w7 ⟨rfl, hb⟩))
          all_goals
            have hB7 := ‹_ ∧ _ ∧ _ ∧ _ ∧ Below wr.heap.size wr w7›.2.2.2.2
            have hb7 := hide' (hb'.out.below hB7)
            have hL7 := hide' (hL'.out.mv (Sm.below (X := fun _ => False) hB7) (fun h => h) (fun _ _ h => h))
            have hU7 := hide' (hU'.out.mv (Sm.below (X := fun _ => False) hB7) (fun h => h) (fun _ _ h => h))
            have hS7 := hide' (hS'.out.trans (Sm.below (X := (· ≠ 0)) (tag := tU) hB7) (fun _ _ => rfl))
            have a0 := hb7.out.c2
            have av : w7.cell? ⟨g, c, none⟩ = some (.slice ox nc cx) := by rw [hL7.out.outer.cellAt c (by omega)]; exact hv'.out
            clear hb' hL' hU' hS' hB7 hi0 KI
            go_wp2
            go_loopw [7] (fun k wr2 => ∃ (f : Nat), f ≤ nc ∧ k = .int .i64 f ∧ BoxN wr2 p (.slice oa m cap) (.slice ob m cb) (.slice (some ⟨g, 0, none⟩) kk cap9) (.slice (some ⟨g1, 0, none⟩) kk cb9) ∧ Fam wr2 tU 2 cL (.slice (some ⟨g, 0, none⟩) kk cap9) kk vs2 (rowsN rows2 c f) ∧ Fam wr2 tU 3 (fun j => 11 + 2 * j) (.slice (some ⟨g1, 0, none⟩) kk cb9) kk us2 rows2 ∧ Sm (· ≠ 0) tU w1 wr2) (fun k _ => ((nc : Int) - intOf k).toNat)
            case atStart => exact ⟨0, Nat.zero_le _, rfl, hb7.out, hL7.out, hU7.out, hS7.out⟩
            case round =>
              clear hb7 hL7 hU7 hS7 a0 av d0 d1 cv cu
              obtain ⟨f, hf, rfl, hb, hL, hU, hS⟩ := hrel
              rename World => wr3
              have d0 := hb.c2
              have cv : wr3.cell? ⟨g, c, none⟩ = some (.slice ox nc cx) := by rw [hL.outer.cellAt c (by omega)]; exact hv'.out
              by_cases hflt : f < nc
              · have hin := hL.inner c _ hv'.out
                rw [rowsN_len rows2 c f (by rw [hnE.out]; omega), hnE.out] at hin
                obtain ⟨gx, cx2, e, _, _⟩ := hin.form (by omega)
                obtain ⟨rfl, rfl⟩ : ox = some ⟨gx, 0, none⟩ ∧ cx = cx2 := by injection e with h1 h2 h3; exact ⟨h1, h3⟩
                obtain ⟨z, hz⟩ : ∃ z, (rowsN rows2 c f c)[f]? = some z := ⟨_, List.getElem?_eq_getElem (by rw [rowsN_len rows2 c f (by rw [hnE.out]; omega), hnE.out]; exact hflt)⟩
                have cz := cell_in hin hz
                have fz := hin.frozenAt f
                have hL' := hide' hL
                have hU' := hide' hU
                have hb' := hide' hb
                have hS' := hide' hS
                have ht : Hid (tU gx = cL c) := hL.itag c _ gx hv'.out rfl
                clear hL hb hS hU e hin hz
                go_wp2
                have s1 : Sm (· = cL c) tU wr3 (wr3.setCell ⟨gx, f, none⟩ (.int .u64 99)) := Sm.setCell _ ht.out
                exact ⟨⟨f + 1, by omega, by go_num, hb'.out.mv s1 (by rw [hbt2]; unfold cL; omega), hL'.out.store hv'.out (rowsN_set rows2 c f (by rw [hnE.out]; exact hflt)) (fun j _ hj => rowsN_ne rows2 c f j hj), hU'.out.mv s1 (by unfold cL; omega) (fun j _ => by unfold cL; omega), hS'.out.trans (s1.mono fun t et => by rw [et]; unfold cL; omega) (fun _ _ => rfl)⟩, by simp [intOf]; omega⟩
              · obtain rfl : f = nc := by omega
                have hL' := hide' hL
                have hU' := hide' hU
                have hb' := hide' hb
                have hS' := hide' hS
                clear hL hb hS hU
                go_wp2
                exact ⟨⟨c + 1, by omega, by go_num, rfl, hb'.out, hL'.out.congr (fun j _ => by rw [rowsN_next, hnE.out]), hU'.out, hS'.out⟩, by simp [intOf]; omega⟩
        · obtain rfl : kk = c := by omega
          have hS' := hide' hS
          have d3 := hb.c2
          clear hb hL hU hS
          go_wp2
          go_ret
          have s1 := hS1.out
          have s2 := hS'.out
          exact ⟨rfl, s2.os.trans s1.os, s2.tape.trans s1.tape, s2.output.trans s1.output, Nat.le_trans s1.size s2.size, fun g hg hx => (s2.block g (Nat.lt_of_lt_of_le hg s1.size) (fun e => hx (.inr e))).trans (s1.block g hg (fun e => hx (.inl e)))⟩
end Go.Proofs.YtlijlelejobchaaGreatDoor.KU

/- part.Search where keep is nil: rows of new memory. -/
import Derived.Test.YtomjcimibpcpbaaPFn
import Derived.Test.YtomjcimibpcpbaaKLists
import Derived.Deep.RegionHeld3
import Derived.Maps.AppendAt
namespace Go.Proofs.Ytomjcimibpcpbaa
open Go.RowKit
def pt (g : Nat) : Value := .pointer (some ⟨g, 0, none⟩)
def keptV (a : Nat) : Value := .func (.func 40) #[] #[.pointer (some ⟨a + 2, 0, none⟩), .pointer (some ⟨a + 4, 0, none⟩)]
def fillV (a : Nat) : Value := .func (.func 41) #[] #[.pointer (some ⟨a, 0, none⟩), .pointer (some ⟨a + 5, 0, none⟩), .pointer (some ⟨a + 4, 0, none⟩), .pointer (some ⟨a + 1, 0, none⟩), .pointer (some ⟨a + 6, 0, none⟩), .pointer (some ⟨a + 7, 0, none⟩)]
/-- What the search holds: its boxes, the row, what it has told. -/
structure Sx (W0 W : World) (a n most : Nat) (tag : Nat → Nat) (k : Nat) (ov : Value) (vs : List Value) (rows : Nat → List Int) : Prop where
  bn : W.heap[a]? = some (.cells #[.int .i64 (n : Int)] 3 (0, 0))
  bm : W.heap[a + 1]? = some (.cells #[.int .i64 (most : Int)] 3 (0, 0))
  bk : W.heap[a + 2]? = some (.cells #[.nilFunc] 56 (0, 0))
  br : W.heap[a + 4]? = some (.cells #[.slice (some ⟨a + 3, 0, none⟩) n n] 22 (0, 0))
  bt : W.heap[a + 5]? = some (.cells #[ov] 33 (0, 0))
  bf : W.heap[a + 6]? = some (.cells #[keptV a] 58 (0, 0))
  bg : W.heap[a + 7]? = some (.cells #[fillV a] 69 (0, 0))
  row : ∃ xs, W.ownsRow 0 3 1 (.slice (some ⟨a + 3, 0, none⟩) n n) n (cellsI xs)
  told : K.Fam W tag 2 (fun j => 10 + 2 * j) ov k vs rows
  len : ∀ j, j < k → (rows j).length = n
  low : ∀ g, g < a + 8 → tag g = 0
  fresh : ∀ g, W.heap.size ≤ g → tag g = 0
  old : Below a W0 W
theorem cell_blk {W : World} {g : Nat} {v : Value} {t : TypeId} (h : W.heap[g]? = some (.cells #[v] t (0, 0))) : W.cell? ⟨g, 0, none⟩ = some v := by simp [World.cell?, h]
section
variable {W0 W W' : World} {a n most : Nat} {tag tag' : Nat → Nat} {k : Nat} {ov : Value} {vs : List Value} {rows : Nat → List Int}
theorem Sx.lt (h : Sx W0 W a n most tag k ov vs rows) : a + 7 < W.heap.size := (Array.getElem?_eq_some_iff.1 h.bg).1
theorem Sx.below (h : Sx W0 W a n most tag k ov vs rows) (hb : Below W.heap.size W W') : Sx W0 W' a n most tag k ov vs rows := by
  have hlt := h.lt
  refine ⟨(hb.block _ (by omega)).trans h.bn, (hb.block _ (by omega)).trans h.bm, (hb.block _ (by omega)).trans h.bk, (hb.block _ (by omega)).trans h.br, (hb.block _ (by omega)).trans h.bt, (hb.block _ (by omega)).trans h.bf, (hb.block _ (by omega)).trans h.bg, ?_, h.told.mv (K.Sm.below (X := fun _ => False) hb) (fun h => h) (fun _ _ h => h), h.len, h.low, fun g hg => h.fresh g (Nat.le_trans hb.size hg), h.old.trans (hb.mono (by omega))⟩
  obtain ⟨xs, h1⟩ := h.row
  exact ⟨xs, K.owns_same h1 fun g hg _ => hb.block g hg⟩
/-- A place of the row is written. -/
theorem Sx.put (h : Sx W0 W a n most tag k ov vs rows) (i : Nat) (z : Int) : Sx W0 (W.setCell ⟨a + 3, i, none⟩ (.int .i64 z)) a n most tag k ov vs rows := by
  have hlt := h.lt
  have s : K.Sm (· = a + 3) id W (W.setCell ⟨a + 3, i, none⟩ (.int .i64 z)) := K.Sm.setCell _ rfl
  have st : K.Sm (· = 0) tag W (W.setCell ⟨a + 3, i, none⟩ (.int .i64 z)) := K.Sm.setCell _ (h.low (a + 3) (by omega))
  have ne : ∀ g, g ≠ a + 3 → g < W.heap.size → (W.setCell ⟨a + 3, i, none⟩ (.int .i64 z)).heap[g]? = W.heap[g]? := fun g h1 h2 => s.block g h2 h1
  refine ⟨(ne _ (by omega) (by omega)).trans h.bn, (ne _ (by omega) (by omega)).trans h.bm, (ne _ (by omega) (by omega)).trans h.bk, (ne _ (by omega) (by omega)).trans h.br, (ne _ (by omega) (by omega)).trans h.bt, (ne _ (by omega) (by omega)).trans h.bf, (ne _ (by omega) (by omega)).trans h.bg, ?_, h.told.mv st (by decide) (fun j _ => by omega), h.len, h.low, fun g hg => h.fresh g (Nat.le_trans s.size hg), h.old.trans ⟨s.os, s.tape, s.output, s.size, fun g hg => ne g (by omega) (by omega)⟩⟩
  obtain ⟨xs, h1⟩ := h.row
  have h2 := (h1.stored i (.int .i64 z)).1
  refine ⟨xs.set i z, ?_⟩
  have e3 : cellsI (xs.set i z) = (cellsI xs).set i (.int .i64 z) := by unfold cellsI; rw [List.map_set]
  rw [e3]; exact h2
/-- A copy of the row is told. -/
theorem Sx.tell {w4 w5 : World} {u : Value} {l : List Int} {g5 cap5 : Nat} {o5 : Obj} (h : Sx W0 W a n most tag k ov vs rows) (hB : Below W.heap.size W w4) (hl : l.length = n)
    (hu : w4.ownsRow W.heap.size 3 1 u l.length (cellsI l))
    (hnew : w5.ownsRow 0 22 1 (.slice (some ⟨g5, 0, none⟩) (k + 1) cap5) (k + 1) (vs ++ [u])) (hold : w5.ownsRow 0 22 1 ov k vs)
    (hat : (ov = .slice (some ⟨g5, 0, none⟩) k cap5 ∧ (w4.alloc o5).grownBy w5 (some g5)) ∨ (g5 = (w4.alloc o5).heap.size ∧ (w4.alloc o5).grownBy w5 none)) :
    ∃ tag' rows', Sx W0 (w5.setCell ⟨a + 5, 0, none⟩ (.slice (some ⟨g5, 0, none⟩) (k + 1) cap5)) a n most tag' (k + 1) (.slice (some ⟨g5, 0, none⟩) (k + 1) cap5) (vs ++ [u]) rows' := by
  have hlt := h.lt
  generalize hW : w4.alloc o5 = Wx at hat
  have hz : Wx.heap.size = w4.heap.size + 1 := by rw [← hW]; simp
  have hBs := hB.size
  have S2 : ∀ X, K.Sm X tag W Wx := fun X => by rw [← hW]; exact (K.Sm.below hB).trans (K.Sm.alloc o5) (fun _ _ => rfl)
  have hul : ∀ g, u.ownBlock = some g → W.heap.size ≤ g ∧ g < w4.heap.size := fun g e => hu.lt g e
  have hg5 : tag g5 = 2 ∨ w4.heap.size < g5 := by
    rcases hat with ⟨e, hg⟩ | ⟨e, hg⟩
    · exact .inl (h.told.otag g5 (by rw [e]; rfl))
    · exact .inr (by omega)
  have S3 : K.Sm (· = 2) tag Wx w5 := by
    rcases hat with ⟨e, hg⟩ | ⟨_, hg⟩
    · exact K.Sm.grown hg fun g eg => by cases eg; exact h.told.otag g5 (by rw [e]; rfl)
    · exact K.Sm.grown hg fun g eg => by cases eg
  have hg5lt : g5 < w5.heap.size := K.owns_lt hnew rfl
  have hlow : w4.ownsRow 0 3 1 u l.length (cellsI l) := ⟨hu.1, by
    rcases hu.2 with hn | ⟨g, cap, cur, e, h1, rest⟩
    · exact .inl hn
    · exact .inr ⟨g, cap, cur, e, Nat.zero_le _, rest⟩⟩
  have huW : Wx.ownsRow 0 3 1 u l.length (cellsI l) := by rw [← hW]; exact hlow.alloc o5
  have hu5 : w5.ownsRow 0 3 1 u l.length (K.cellsI l) := K.owns_same huW fun g hg e => S3.block g hg (by show ¬ tag g = 2; rw [h.fresh g (hul g e).1]; decide)
  let tag' : Nat → Nat := fun g => if u.ownBlock = some g then 10 + 2 * k else if g = g5 then 2 else tag g
  have ht : ∀ g, tag g ≠ 0 → tag' g = tag g := fun g hne => by
    show (if u.ownBlock = some g then 10 + 2 * k else if g = g5 then 2 else tag g) = tag g
    rw [if_neg (fun e => hne (h.fresh g (hul g e).1))]
    by_cases e : g = g5
    · subst e
      rw [if_pos rfl]
      rcases hg5 with h2 | h2
      · exact h2.symm
      · exact absurd (h.fresh g (by omega)) hne
    · rw [if_neg e]
  have hv2t : tag' g5 = 2 := by
    show (if u.ownBlock = some g5 then 10 + 2 * k else if g5 = g5 then 2 else tag g5) = 2
    rw [if_neg (fun e => ?_), if_pos rfl]
    rcases hg5 with h2 | h2
    · rw [h.fresh g5 (hul g5 e).1] at h2; cases h2
    · have := (hul g5 e).2; omega
  have e00 : ∀ g, g < a + 8 → tag' g = 0 := fun g hg => by
    have h0 := h.low g hg
    show (if u.ownBlock = some g then 10 + 2 * k else if g = g5 then 2 else tag g) = 0
    rw [if_neg (fun e => by have := (hul g e).1; omega), if_neg (fun e => ?_)]
    · exact h0
    · subst e
      rcases hg5 with h2 | h2
      · rw [h0] at h2; cases h2
      · omega
  let rows' : Nat → List Int := fun j => if j = k then l else rows j
  have hr' : ∀ j, j < k → rows' j = rows j := fun j hj => if_neg (by omega)
  have hrm : rows' k = l := if_pos rfl
  have L2 : K.Fam w5 tag' 2 (fun j => 10 + 2 * j) ov k vs rows' :=
    (((h.told.mv (S2 (fun _ => False)) (fun h => h) (fun _ _ h => h)).out S3 hold (fun j _ => by omega)).tags ht (by decide) (fun j => by omega)).congr hr'
  have L3 := L2.push hnew (fun g e => by cases e; exact hv2t) (by rw [hrm]; exact hu5) (fun g e => if_pos e)
  have S4 : K.Sm (· = 0) tag' w5 (w5.setCell ⟨a + 5, 0, none⟩ (.slice (some ⟨g5, 0, none⟩) (k + 1) cap5)) := K.Sm.setCell _ (e00 (a + 5) (by omega))
  have S5 : K.Sm (· = a + 5) id w5 (w5.setCell ⟨a + 5, 0, none⟩ (.slice (some ⟨g5, 0, none⟩) (k + 1) cap5)) := K.Sm.setCell _ rfl
  have h3s := S3.size
  have b5 : ∀ g, g < a + 8 → w5.heap[g]? = W.heap[g]? := fun g hg => (S3.block g (by omega) (by rw [h.low g hg]; decide)).trans ((S2 (fun _ => False)).block g (by omega) (fun h => h))
  have ne : ∀ g, g < a + 8 → g ≠ a + 5 → (w5.setCell ⟨a + 5, 0, none⟩ (.slice (some ⟨g5, 0, none⟩) (k + 1) cap5)).heap[g]? = W.heap[g]? := fun g hg h1 => (S5.block g (by omega) h1).trans (b5 g hg)
  have hb5 : w5.heap[a + 5]? = some (.cells #[ov] 33 (0, 0)) := (b5 _ (by omega)).trans h.bt
  refine ⟨tag', rows', (ne _ (by omega) (by omega)).trans h.bn, (ne _ (by omega) (by omega)).trans h.bm, (ne _ (by omega) (by omega)).trans h.bk, (ne _ (by omega) (by omega)).trans h.br, ?_, (ne _ (by omega) (by omega)).trans h.bf, (ne _ (by omega) (by omega)).trans h.bg, ?_, L3.mv S4 (by decide) (fun j _ => by omega), fun j hj => ?_, e00, fun g hg => ?_, h.old.trans ⟨?_, ?_, ?_, ?_, fun g hg => ne g (by omega) (by omega)⟩⟩
  · have := heap_setCell_same w5 (a + 5) 0 _ _ (.slice (some ⟨g5, 0, none⟩) (k + 1) cap5) hb5; simpa using this
  · obtain ⟨xs, h1⟩ := h.row
    refine ⟨xs, K.owns_same h1 fun g _ e => ?_⟩
    have : g = a + 3 := by simpa [Value.ownBlock] using e.symm
    subst this
    exact ne _ (by omega) (by omega)
  · by_cases e : j = k
    · subst e; rw [hrm]; exact hl
    · rw [hr' j (by omega)]; exact h.len j (by omega)
  · rw [show (w5.setCell ⟨a + 5, 0, none⟩ (.slice (some ⟨g5, 0, none⟩) (k + 1) cap5)).heap.size = w5.heap.size by simp [World.setCell]] at hg
    show (if u.ownBlock = some g then 10 + 2 * k else if g = g5 then 2 else tag g) = 0
    rw [if_neg (fun e => by have := (hul g e).2; omega), if_neg (by omega)]
    exact h.fresh g (by omega)
  · rw [S5.os, S3.os, (S2 (fun _ => False)).os]
  · rw [S5.tape, S3.tape, (S2 (fun _ => False)).tape]
  · rw [S5.output, S3.output, (S2 (fun _ => False)).output]
  · have h2 := S5.size; omega
theorem Sx.low5 {w4 w5 : World} {g5 cap5 : Nat} {o5 : Obj} (h : Sx W0 W a n most tag k ov vs rows) (hB : Below W.heap.size W w4)
    (hat : (ov = .slice (some ⟨g5, 0, none⟩) k cap5 ∧ (w4.alloc o5).grownBy w5 (some g5)) ∨ (g5 = (w4.alloc o5).heap.size ∧ (w4.alloc o5).grownBy w5 none)) : ∀ g, g < a + 8 → w5.heap[g]? = W.heap[g]? := fun g hg => by
  have hlt := h.lt
  have hBs := hB.size
  have S2 : K.Sm (· = 2) tag W (w4.alloc o5) := (K.Sm.below hB).trans (K.Sm.alloc o5) (fun _ _ => rfl)
  have S3 : K.Sm (· = 2) tag (w4.alloc o5) w5 := by
    rcases hat with ⟨e, hg⟩ | ⟨_, hg⟩
    · exact K.Sm.grown hg fun g eg => by cases eg; exact h.told.otag g5 (by rw [e]; rfl)
    · exact K.Sm.grown hg fun g eg => by cases eg
  have hs : (w4.alloc o5).heap.size = w4.heap.size + 1 := by simp
  exact (S3.block g (by omega) (by rw [h.low g hg]; decide)).trans (S2.block g (by omega) (by rw [h.low g hg]; decide))
end
theorem eql_nil (w : World) : (binOp .eql 56 .nilFunc .nilFunc).run Try.prog w = .ok (.bool true) w := by
  kernel_rfl
set_option maxRecDepth 100000 in
set_option maxHeartbeats 1000000 in
theorem keptF (a : Nat) (p : Int) (W : World) (hk : W.cell? ⟨a + 2, 0, none⟩ = some .nilFunc) :
    Calls Try.prog 40 #[.int .i64 p, .pointer (some ⟨a + 2, 0, none⟩), .pointer (some ⟨a + 4, 0, none⟩)] W fun e w' => e = .returned (.bool true) ∧ Below W.heap.size W w' := by
  have he := eql_nil
  go_enter Try.func40, Try.ntmps40
  go_wp2
  go_region
  all_goals
    go_wp2
    go_ret
    exact ⟨rfl, (Below.refl _ _).drew⟩
/-- What the search holds, however much it has told. -/
def Sk (W0 W : World) (a n most : Nat) : Prop := ∃ tag k ov vs rows, Sx W0 W a n most tag k ov vs rows ∧ k ≤ most
set_option maxRecDepth 100000 in
set_option maxHeartbeats 2000000 in
theorem fillEnd (W0 : World) (a n most : Nat) (hn : n ≤ 12) (hmo : most ≤ 65536) (bl : Int) (W : World) (tag : Nat → Nat) (k : Nat) (ov : Value) (vs : List Value) (rows : Nat → List Int) (h : Sx W0 W a n most tag k ov vs rows) (hk : k < most) :
    Calls Try.prog 41 #[.int .i64 (n : Int), .int .i64 bl, .pointer (some ⟨a, 0, none⟩), .pointer (some ⟨a + 5, 0, none⟩), .pointer (some ⟨a + 4, 0, none⟩), .pointer (some ⟨a + 1, 0, none⟩), .pointer (some ⟨a + 6, 0, none⟩), .pointer (some ⟨a + 7, 0, none⟩)] W fun e w' => e = .returned (.tuple #[]) ∧ Hid (Sk W0 w' a n most) := by
  obtain ⟨iL, hiL, hzL0, hzL1, hzL2⟩ := info_parts K.infoL
  obtain ⟨xs, hrow⟩ := h.row
  have hxl : xs.length = n := by have := hrow.1; simp [cellsI] at this; omega
  have hlt := h.lt
  have cn := cell_blk h.bn
  have cr := cell_blk h.br
  have ct := cell_blk h.bt
  have hI : RowI W (.slice (some ⟨a + 3, 0, none⟩) n n) xs := by
    have h1 := hrow
    rw [← hxl] at h1
    have := RowI.of_owns h1
    rwa [hxl] at this
  have hC : Hid (∀ V, Below W.heap.size W V → V.cell? ⟨a + 4, 0, none⟩ = some (.slice (some ⟨a + 3, 0, none⟩) n n)) := fun V hV => cell_blk (h.below hV).br
  have hT : Hid (∀ V, Below W.heap.size W V → V.cell? ⟨a + 5, 0, none⟩ = some ov) := fun V hV => cell_blk (h.below hV).bt
  have hd : Hid (Below W.heap.size W W.drew) := (Below.refl _ _).drew
  have KC : Hid (Calls Try.prog 30 #[.slice (some ⟨a + 3, 0, none⟩) n n] W.drew fun e w' => ∃ ou cu, e = .returned (.slice ou n cu) ∧ Hid (w'.ownsRow W.heap.size 3 1 (.slice ou n cu) xs.length (cellsI xs)) ∧ Below W.drew.heap.size W.drew w') := by
    refine (clone xs _ W.drew (hI.below hd.out (Nat.le_refl _)) (by omega)).mono ?_
    rintro e w' ⟨v', rfl, e2, e3⟩
    obtain ⟨ou, cu, rfl⟩ := K.own_shape e2
    refine ⟨ou, cu, by rw [hxl], ?_, e3⟩
    rw [hxl] at e2 ⊢
    exact e2
  have hct := hT.out _ hd.out
  have h' := hide' h
  obtain ⟨og, cg, rfl⟩ := K.own_shape h.told.outer
  clear h hrow hI
  go_enter Try.func41, Try.ntmps41
  go_wp2
  refine wp_region_held_drew (S := (fun _ => True)) (by kernel_rfl) ?_ (fun hHeld => ?_)
  · trivial
  refine wpAnyH_ready (rs := [0, 1]) (by kernel_rfl) (by simp) ?_
  refine AllReadyH.cons (o := { dst := some 14, op := Op.load 33 (Operand.tmp 3), type := 33, pos := "search.go:24", after := #[], guard := none }) rfl (fun K hK => ?_) ?_
  · skip
    go_simp
    refine hK.out _ _ ?_ (fun hHeld => ?_)
    · trivial
    clear hK K
    try simp only [Act.put, List.setIfInBounds_toArray, List.set_cons_zero, List.set_cons_succ]
    refine wpAnyH_ready (rs := [1]) (by kernel_rfl) (by simp) ?_
    refine AllReadyH.cons (o := { dst := some 15, op := Op.load 22 (Operand.tmp 4), type := 22, pos := "search.go:24", after := #[], guard := none }) rfl (fun K hK => ?_) AllReadyH.nil
    go_simp
    refine hK.out _ _ ?_ (fun hHeld => ?_)
    · trivial
    clear hK K
    try simp only [Act.put, List.setIfInBounds_toArray, List.set_cons_zero, List.set_cons_succ]
    refine wpAnyH_ready (rs := [2]) (by kernel_rfl) (by simp) ?_
    refine AllReadyH.cons (o := { dst := some 16, op := Op.call { callee := Callee.value (Operand.func 30), args := #[Operand.tmp 15], argTypes := #[22] }, type := 22, pos := "search.go:24", after := #[{ on := 1, ground := Ground.data }], guard := none }) rfl (fun K hK => ?_) AllReadyH.nil
    go_simp
    refine KC.out.mono ?_; rintro e w4 ⟨ou, cu, rfl, hu4, hb⟩; have hb4 := hide' (hd.out.trans hb); have ct4 := hT.out _ hb4.out; have hb5 : Hid (Below W.heap.size W (w4.alloc (.cells #[.slice ou n cu] 22))) := hb4.out.alloc hb4.out.size _; have ct5 := hT.out _ hb5.out; have hO5 := hide' ((h'.out.below hb4.out).told.outer.alloc (.cells #[.slice ou n cu] 22)); have hz4 := hb4.out.size; clear hb; (try dsimp only)
    refine hK.out _ _ ?_ (fun hHeld => ?_)
    · trivial
    clear hK K
    try simp only [Act.put, List.setIfInBounds_toArray, List.set_cons_zero, List.set_cons_succ]
    refine wpAnyH_ready (rs := [3]) (by kernel_rfl) (by simp) ?_
    refine AllReadyH.cons (o := { dst := some 17, op := Op.buildSlice 33 1 #[(0, Operand.tmp 16)], type := 33, pos := "search.go:24", after := #[{ on := 2, ground := Ground.data }], guard := none }) rfl (fun K hK => ?_) AllReadyH.nil
    go_simp
    refine hK.out _ _ ?_ (fun hHeld => ?_)
    · trivial
    clear hK K
    try simp only [Act.put, List.setIfInBounds_toArray, List.set_cons_zero, List.set_cons_succ]
    refine wpAnyH_ready (rs := [4]) (by kernel_rfl) (by simp) ?_
    refine AllReadyH.cons (o := { dst := some 18, op := Op.call { callee := Callee.builtin Builtin.append, args := #[Operand.tmp 14, Operand.tmp 17], argTypes := #[33, 33] }, type := 33, pos := "search.go:24", after := #[{ on := 0, ground := Ground.data }, { on := 3, ground := Ground.data }, { on := 2, ground := Ground.chain }], guard := none }) rfl (fun K hK => ?_) AllReadyH.nil
    rw [if_pos (by rfl)]
    refine _root_.Go.Proofs.Ytomjcimibpcpbaa.K.wp_append_two _ (.tmp 14) (.tmp 17) 33 rfl 0 22 iL (.slice none 0 0) 1 24 Try.underlying33 hiL hzL0 hzL1 hzL2 rfl (by decide) (.slice og k cg) k vs rfl hO5.out ⟨w4.heap.size, 0, none⟩ 1 1 [.slice ou n cu] rfl rfl (cell_one_new _ _ _) (by simp [Value.oneCell']) (by decide) (by unfold maxLen; omega) (by omega) (Nat.zero_le _) ?_; intro g5 cap5 w5 hnew5 hold5 hat5; have hl5 := h'.out.low5 hb4.out hat5; have hbt5 := (hl5 (a + 5) (by omega)).trans h'.out.bt; have ct6 := cell_blk hbt5; have fz6 := frozen_of_row w5 (a + 5) 0 _ _ hbt5; have hN := hide' (h'.out.tell hb4.out hxl hu4.out hnew5 hold5 hat5); clear hl5 hbt5 hnew5 hold5 hat5; (try dsimp only)
    refine hK.out _ _ ?_ (fun hHeld => ?_)
    · trivial
    clear hK K
    try simp only [Act.put, List.setIfInBounds_toArray, List.set_cons_zero, List.set_cons_succ]
    refine wpAnyH_ready (rs := [5]) (by kernel_rfl) (by simp) ?_
    refine AllReadyH.cons (o := { dst := none, op := Op.store 33 (Operand.tmp 3) (Operand.tmp 18), type := 0, pos := "search.go:24", after := #[{ on := 4, ground := Ground.data }, { on := 4, ground := Ground.chain }, { on := 0, ground := Ground.phase }, { on := 1, ground := Ground.phase }, { on := 2, ground := Ground.phase }, { on := 3, ground := Ground.phase }, { on := 4, ground := Ground.phase }], guard := none }) rfl (fun K hK => ?_) AllReadyH.nil
    go_simp
    refine hK.out _ _ ?_ (fun hHeld => ?_)
    · trivial
    clear hK K
    try simp only [Act.put, List.setIfInBounds_toArray, List.set_cons_zero, List.set_cons_succ]
    refine wpAnyH_done (by kernel_rfl) ?_ _
    skip
    obtain ⟨tag5, rows5, hS5⟩ := hN.out
    have hS5' : Hid (Sk W0 _ a n most) := ⟨tag5, k + 1, _, _, rows5, hS5, by omega⟩
    clear hS5 hN
    go_wp2
    first | go_end0 | refine bodyPost_ret (results_none rfl _ _ _) rfl ?_
    exact ⟨rfl, hS5'⟩
  refine AllReadyH.cons (o := { dst := some 15, op := Op.load 22 (Operand.tmp 4), type := 22, pos := "search.go:24", after := #[], guard := none }) rfl (fun K hK => ?_) AllReadyH.nil
  go_simp
  refine hK.out _ _ ?_ (fun hHeld => ?_)
  · trivial
  clear hK K
  try simp only [Act.put, List.setIfInBounds_toArray, List.set_cons_zero, List.set_cons_succ]
  refine wpAnyH_ready (rs := [0, 2]) (by kernel_rfl) (by simp) ?_
  refine AllReadyH.cons (o := { dst := some 14, op := Op.load 33 (Operand.tmp 3), type := 33, pos := "search.go:24", after := #[], guard := none }) rfl (fun K hK => ?_) ?_
  · skip
    go_simp
    refine hK.out _ _ ?_ (fun hHeld => ?_)
    · trivial
    clear hK K
    try simp only [Act.put, List.setIfInBounds_toArray, List.set_cons_zero, List.set_cons_succ]
    refine wpAnyH_ready (rs := [2]) (by kernel_rfl) (by simp) ?_
    refine AllReadyH.cons (o := { dst := some 16, op := Op.call { callee := Callee.value (Operand.func 30), args := #[Operand.tmp 15], argTypes := #[22] }, type := 22, pos := "search.go:24", after := #[{ on := 1, ground := Ground.data }], guard := none }) rfl (fun K hK => ?_) AllReadyH.nil
    go_simp
    refine KC.out.mono ?_; rintro e w4 ⟨ou, cu, rfl, hu4, hb⟩; have hb4 := hide' (hd.out.trans hb); have ct4 := hT.out _ hb4.out; have hb5 : Hid (Below W.heap.size W (w4.alloc (.cells #[.slice ou n cu] 22))) := hb4.out.alloc hb4.out.size _; have ct5 := hT.out _ hb5.out; have hO5 := hide' ((h'.out.below hb4.out).told.outer.alloc (.cells #[.slice ou n cu] 22)); have hz4 := hb4.out.size; clear hb; (try dsimp only)
    refine hK.out _ _ ?_ (fun hHeld => ?_)
    · trivial
    clear hK K
    try simp only [Act.put, List.setIfInBounds_toArray, List.set_cons_zero, List.set_cons_succ]
    refine wpAnyH_ready (rs := [3]) (by kernel_rfl) (by simp) ?_
    refine AllReadyH.cons (o := { dst := some 17, op := Op.buildSlice 33 1 #[(0, Operand.tmp 16)], type := 33, pos := "search.go:24", after := #[{ on := 2, ground := Ground.data }], guard := none }) rfl (fun K hK => ?_) AllReadyH.nil
    go_simp
    refine hK.out _ _ ?_ (fun hHeld => ?_)
    · trivial
    clear hK K
    try simp only [Act.put, List.setIfInBounds_toArray, List.set_cons_zero, List.set_cons_succ]
    refine wpAnyH_ready (rs := [4]) (by kernel_rfl) (by simp) ?_
    refine AllReadyH.cons (o := { dst := some 18, op := Op.call { callee := Callee.builtin Builtin.append, args := #[Operand.tmp 14, Operand.tmp 17], argTypes := #[33, 33] }, type := 33, pos := "search.go:24", after := #[{ on := 0, ground := Ground.data }, { on := 3, ground := Ground.data }, { on := 2, ground := Ground.chain }], guard := none }) rfl (fun K hK => ?_) AllReadyH.nil
    rw [if_pos (by rfl)]
    refine _root_.Go.Proofs.Ytomjcimibpcpbaa.K.wp_append_two _ (.tmp 14) (.tmp 17) 33 rfl 0 22 iL (.slice none 0 0) 1 24 Try.underlying33 hiL hzL0 hzL1 hzL2 rfl (by decide) (.slice og k cg) k vs rfl hO5.out ⟨w4.heap.size, 0, none⟩ 1 1 [.slice ou n cu] rfl rfl (cell_one_new _ _ _) (by simp [Value.oneCell']) (by decide) (by unfold maxLen; omega) (by omega) (Nat.zero_le _) ?_; intro g5 cap5 w5 hnew5 hold5 hat5; have hl5 := h'.out.low5 hb4.out hat5; have hbt5 := (hl5 (a + 5) (by omega)).trans h'.out.bt; have ct6 := cell_blk hbt5; have fz6 := frozen_of_row w5 (a + 5) 0 _ _ hbt5; have hN := hide' (h'.out.tell hb4.out hxl hu4.out hnew5 hold5 hat5); clear hl5 hbt5 hnew5 hold5 hat5; (try dsimp only)
    refine hK.out _ _ ?_ (fun hHeld => ?_)
    · trivial
    clear hK K
    try simp only [Act.put, List.setIfInBounds_toArray, List.set_cons_zero, List.set_cons_succ]
    refine wpAnyH_ready (rs := [5]) (by kernel_rfl) (by simp) ?_
    refine AllReadyH.cons (o := { dst := none, op := Op.store 33 (Operand.tmp 3) (Operand.tmp 18), type := 0, pos := "search.go:24", after := #[{ on := 4, ground := Ground.data }, { on := 4, ground := Ground.chain }, { on := 0, ground := Ground.phase }, { on := 1, ground := Ground.phase }, { on := 2, ground := Ground.phase }, { on := 3, ground := Ground.phase }, { on := 4, ground := Ground.phase }], guard := none }) rfl (fun K hK => ?_) AllReadyH.nil
    go_simp
    refine hK.out _ _ ?_ (fun hHeld => ?_)
    · trivial
    clear hK K
    try simp only [Act.put, List.setIfInBounds_toArray, List.set_cons_zero, List.set_cons_succ]
    refine wpAnyH_done (by kernel_rfl) ?_ _
    skip
    obtain ⟨tag5, rows5, hS5⟩ := hN.out
    have hS5' : Hid (Sk W0 _ a n most) := ⟨tag5, k + 1, _, _, rows5, hS5, by omega⟩
    clear hS5 hN
    go_wp2
    first | go_end0 | refine bodyPost_ret (results_none rfl _ _ _) rfl ?_
    exact ⟨rfl, hS5'⟩
  refine AllReadyH.cons (o := { dst := some 16, op := Op.call { callee := Callee.value (Operand.func 30), args := #[Operand.tmp 15], argTypes := #[22] }, type := 22, pos := "search.go:24", after := #[{ on := 1, ground := Ground.data }], guard := none }) rfl (fun K hK => ?_) AllReadyH.nil
  go_simp
  refine KC.out.mono ?_; rintro e w4 ⟨ou, cu, rfl, hu4, hb⟩; have hb4 := hide' (hd.out.trans hb); have ct4 := hT.out _ hb4.out; have hb5 : Hid (Below W.heap.size W (w4.alloc (.cells #[.slice ou n cu] 22))) := hb4.out.alloc hb4.out.size _; have ct5 := hT.out _ hb5.out; have hO5 := hide' ((h'.out.below hb4.out).told.outer.alloc (.cells #[.slice ou n cu] 22)); have hz4 := hb4.out.size; clear hb; (try dsimp only)
  refine hK.out _ _ ?_ (fun hHeld => ?_)
  · trivial
  clear hK K
  try simp only [Act.put, List.setIfInBounds_toArray, List.set_cons_zero, List.set_cons_succ]
  refine wpAnyH_ready (rs := [0, 3]) (by kernel_rfl) (by simp) ?_
  refine AllReadyH.cons (o := { dst := some 14, op := Op.load 33 (Operand.tmp 3), type := 33, pos := "search.go:24", after := #[], guard := none }) rfl (fun K hK => ?_) ?_
  · skip
    go_simp
    refine hK.out _ _ ?_ (fun hHeld => ?_)
    · trivial
    clear hK K
    try simp only [Act.put, List.setIfInBounds_toArray, List.set_cons_zero, List.set_cons_succ]
    refine wpAnyH_ready (rs := [3]) (by kernel_rfl) (by simp) ?_
    refine AllReadyH.cons (o := { dst := some 17, op := Op.buildSlice 33 1 #[(0, Operand.tmp 16)], type := 33, pos := "search.go:24", after := #[{ on := 2, ground := Ground.data }], guard := none }) rfl (fun K hK => ?_) AllReadyH.nil
    go_simp
    refine hK.out _ _ ?_ (fun hHeld => ?_)
    · trivial
    clear hK K
    try simp only [Act.put, List.setIfInBounds_toArray, List.set_cons_zero, List.set_cons_succ]
    refine wpAnyH_ready (rs := [4]) (by kernel_rfl) (by simp) ?_
    refine AllReadyH.cons (o := { dst := some 18, op := Op.call { callee := Callee.builtin Builtin.append, args := #[Operand.tmp 14, Operand.tmp 17], argTypes := #[33, 33] }, type := 33, pos := "search.go:24", after := #[{ on := 0, ground := Ground.data }, { on := 3, ground := Ground.data }, { on := 2, ground := Ground.chain }], guard := none }) rfl (fun K hK => ?_) AllReadyH.nil
    rw [if_pos (by rfl)]
    refine _root_.Go.Proofs.Ytomjcimibpcpbaa.K.wp_append_two _ (.tmp 14) (.tmp 17) 33 rfl 0 22 iL (.slice none 0 0) 1 24 Try.underlying33 hiL hzL0 hzL1 hzL2 rfl (by decide) (.slice og k cg) k vs rfl hO5.out ⟨w4.heap.size, 0, none⟩ 1 1 [.slice ou n cu] rfl rfl (cell_one_new _ _ _) (by simp [Value.oneCell']) (by decide) (by unfold maxLen; omega) (by omega) (Nat.zero_le _) ?_; intro g5 cap5 w5 hnew5 hold5 hat5; have hl5 := h'.out.low5 hb4.out hat5; have hbt5 := (hl5 (a + 5) (by omega)).trans h'.out.bt; have ct6 := cell_blk hbt5; have fz6 := frozen_of_row w5 (a + 5) 0 _ _ hbt5; have hN := hide' (h'.out.tell hb4.out hxl hu4.out hnew5 hold5 hat5); clear hl5 hbt5 hnew5 hold5 hat5; (try dsimp only)
    refine hK.out _ _ ?_ (fun hHeld => ?_)
    · trivial
    clear hK K
    try simp only [Act.put, List.setIfInBounds_toArray, List.set_cons_zero, List.set_cons_succ]
    refine wpAnyH_ready (rs := [5]) (by kernel_rfl) (by simp) ?_
    refine AllReadyH.cons (o := { dst := none, op := Op.store 33 (Operand.tmp 3) (Operand.tmp 18), type := 0, pos := "search.go:24", after := #[{ on := 4, ground := Ground.data }, { on := 4, ground := Ground.chain }, { on := 0, ground := Ground.phase }, { on := 1, ground := Ground.phase }, { on := 2, ground := Ground.phase }, { on := 3, ground := Ground.phase }, { on := 4, ground := Ground.phase }], guard := none }) rfl (fun K hK => ?_) AllReadyH.nil
    go_simp
    refine hK.out _ _ ?_ (fun hHeld => ?_)
    · trivial
    clear hK K
    try simp only [Act.put, List.setIfInBounds_toArray, List.set_cons_zero, List.set_cons_succ]
    refine wpAnyH_done (by kernel_rfl) ?_ _
    skip
    obtain ⟨tag5, rows5, hS5⟩ := hN.out
    have hS5' : Hid (Sk W0 _ a n most) := ⟨tag5, k + 1, _, _, rows5, hS5, by omega⟩
    clear hS5 hN
    go_wp2
    first | go_end0 | refine bodyPost_ret (results_none rfl _ _ _) rfl ?_
    exact ⟨rfl, hS5'⟩
  refine AllReadyH.cons (o := { dst := some 17, op := Op.buildSlice 33 1 #[(0, Operand.tmp 16)], type := 33, pos := "search.go:24", after := #[{ on := 2, ground := Ground.data }], guard := none }) rfl (fun K hK => ?_) AllReadyH.nil
  go_simp
  refine hK.out _ _ ?_ (fun hHeld => ?_)
  · trivial
  clear hK K
  try simp only [Act.put, List.setIfInBounds_toArray, List.set_cons_zero, List.set_cons_succ]
  refine wpAnyH_ready (rs := [0]) (by kernel_rfl) (by simp) ?_
  refine AllReadyH.cons (o := { dst := some 14, op := Op.load 33 (Operand.tmp 3), type := 33, pos := "search.go:24", after := #[], guard := none }) rfl (fun K hK => ?_) AllReadyH.nil
  go_simp
  refine hK.out _ _ ?_ (fun hHeld => ?_)
  · trivial
  clear hK K
  try simp only [Act.put, List.setIfInBounds_toArray, List.set_cons_zero, List.set_cons_succ]
  refine wpAnyH_ready (rs := [4]) (by kernel_rfl) (by simp) ?_
  refine AllReadyH.cons (o := { dst := some 18, op := Op.call { callee := Callee.builtin Builtin.append, args := #[Operand.tmp 14, Operand.tmp 17], argTypes := #[33, 33] }, type := 33, pos := "search.go:24", after := #[{ on := 0, ground := Ground.data }, { on := 3, ground := Ground.data }, { on := 2, ground := Ground.chain }], guard := none }) rfl (fun K hK => ?_) AllReadyH.nil
  rw [if_pos (by rfl)]
  refine _root_.Go.Proofs.Ytomjcimibpcpbaa.K.wp_append_two _ (.tmp 14) (.tmp 17) 33 rfl 0 22 iL (.slice none 0 0) 1 24 Try.underlying33 hiL hzL0 hzL1 hzL2 rfl (by decide) (.slice og k cg) k vs rfl hO5.out ⟨w4.heap.size, 0, none⟩ 1 1 [.slice ou n cu] rfl rfl (cell_one_new _ _ _) (by simp [Value.oneCell']) (by decide) (by unfold maxLen; omega) (by omega) (Nat.zero_le _) ?_; intro g5 cap5 w5 hnew5 hold5 hat5; have hl5 := h'.out.low5 hb4.out hat5; have hbt5 := (hl5 (a + 5) (by omega)).trans h'.out.bt; have ct6 := cell_blk hbt5; have fz6 := frozen_of_row w5 (a + 5) 0 _ _ hbt5; have hN := hide' (h'.out.tell hb4.out hxl hu4.out hnew5 hold5 hat5); clear hl5 hbt5 hnew5 hold5 hat5; (try dsimp only)
  refine hK.out _ _ ?_ (fun hHeld => ?_)
  · trivial
  clear hK K
  try simp only [Act.put, List.setIfInBounds_toArray, List.set_cons_zero, List.set_cons_succ]
  refine wpAnyH_ready (rs := [5]) (by kernel_rfl) (by simp) ?_
  refine AllReadyH.cons (o := { dst := none, op := Op.store 33 (Operand.tmp 3) (Operand.tmp 18), type := 0, pos := "search.go:24", after := #[{ on := 4, ground := Ground.data }, { on := 4, ground := Ground.chain }, { on := 0, ground := Ground.phase }, { on := 1, ground := Ground.phase }, { on := 2, ground := Ground.phase }, { on := 3, ground := Ground.phase }, { on := 4, ground := Ground.phase }], guard := none }) rfl (fun K hK => ?_) AllReadyH.nil
  go_simp
  refine hK.out _ _ ?_ (fun hHeld => ?_)
  · trivial
  clear hK K
  try simp only [Act.put, List.setIfInBounds_toArray, List.set_cons_zero, List.set_cons_succ]
  refine wpAnyH_done (by kernel_rfl) ?_ _
  skip
  obtain ⟨tag5, rows5, hS5⟩ := hN.out
  have hS5' : Hid (Sk W0 _ a n most) := ⟨tag5, k + 1, _, _, rows5, hS5, by omega⟩
  clear hS5 hN
  go_wp2
  first | go_end0 | refine bodyPost_ret (results_none rfl _ _ _) rfl ?_
  exact ⟨rfl, hS5'⟩
end Go.Proofs.Ytomjcimibpcpbaa

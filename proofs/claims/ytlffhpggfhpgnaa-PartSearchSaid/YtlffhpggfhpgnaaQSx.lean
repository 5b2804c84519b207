/- part.Search with the law's keep: what it holds; its last step. -/
import Derived.Test.YtlffhpggfhpgnaaQKeep
import Derived.Deep.RegionHeld3
import Derived.Maps.AppendAt
namespace Go.Proofs.Ytlffhpggfhpgnaa
open Go.RowKit
def keptV (a : Nat) : Value := .func (.func 13) #[] #[.pointer (some ⟨a + 2, 0, none⟩), .pointer (some ⟨a + 4, 0, none⟩)]
def fillV (a : Nat) : Value := .func (.func 14) #[] #[.pointer (some ⟨a, 0, none⟩), .pointer (some ⟨a + 5, 0, none⟩), .pointer (some ⟨a + 4, 0, none⟩), .pointer (some ⟨a + 1, 0, none⟩), .pointer (some ⟨a + 6, 0, none⟩), .pointer (some ⟨a + 7, 0, none⟩)]
/-- What the search holds: its boxes, the row, what it has told; how often the law was asked. -/
structure Sx (W1 W : World) (kv : Value) (a n most : Nat) (tag : Nat → Nat) (ov : Value) (vs : List Value) (xs : List Int) (s : SS) : Prop where
  ge : W1.heap.size + 2 ≤ a
  bn : W.heap[a]? = some (.cells #[.int .i64 (n : Int)] 3 (0, 0))
  bm : W.heap[a + 1]? = some (.cells #[.int .i64 (most : Int)] 3 (0, 0))
  bk : W.heap[a + 2]? = some (.cells #[kv] 32 (0, 0))
  br : W.heap[a + 4]? = some (.cells #[.slice (some ⟨a + 3, 0, none⟩) n n] 22 (0, 0))
  bt : W.heap[a + 5]? = some (.cells #[ov] 26 (0, 0))
  bf : W.heap[a + 6]? = some (.cells #[keptV a] 38 (0, 0))
  bg : W.heap[a + 7]? = some (.cells #[fillV a] 39 (0, 0))
  row : W.ownsRow 0 3 1 (.slice (some ⟨a + 3, 0, none⟩) n n) n (cellsI xs)
  told : K.Fam W tag 2 (fun _ => 4) ov s.2.length vs (rowsOf s.2)
  low : ∀ g, g < a + 8 → tag g = 0
  fresh : ∀ g, W.heap.size ≤ g → tag g = 0
  bx : Bx W1 W s.1.length
section
variable {W1 W W' : World} {kv : Value} {a n most : Nat} {tag tag' : Nat → Nat} {ov : Value} {vs : List Value} {xs : List Int} {s : SS}
theorem Sx.lt (h : Sx W1 W kv a n most tag ov vs xs s) : a + 7 < W.heap.size := (Array.getElem?_eq_some_iff.1 h.bg).1
/-- The law's two boxes may have been turned. -/
theorem Sx.sb {q : List (List Nat)} (h : Sx W1 W kv a n most tag ov vs xs s) (hs : Sb W1 W W') (hb : Bx W1 W' q.length) : Sx W1 W' kv a n most tag ov vs xs (q, s.2) := by
  have hlt := h.lt
  have hge := h.ge
  have ne : ∀ g, a ≤ g → g < W.heap.size → W'.heap[g]? = W.heap[g]? := fun g h1 h2 => hs.block g h2 (by show ¬ (g = _ ∨ g = _); omega)
  have st : K.Sm (· = 0) tag W W' := ⟨hs.os, hs.tape, hs.output, hs.size, fun g h1 h2 => hs.block g h1 (by
    show ¬ (g = _ ∨ g = _)
    rintro (rfl | rfl)
    · exact h2 (h.low _ (by omega))
    · exact h2 (h.low _ (by omega)))⟩
  refine ⟨h.ge, (ne _ (by omega) (by omega)).trans h.bn, (ne _ (by omega) (by omega)).trans h.bm, (ne _ (by omega) (by omega)).trans h.bk, (ne _ (by omega) (by omega)).trans h.br, (ne _ (by omega) (by omega)).trans h.bt, (ne _ (by omega) (by omega)).trans h.bf, (ne _ (by omega) (by omega)).trans h.bg, K.owns_same h.row fun g hg e => ?_, h.told.mv st (by decide) (fun _ _ => by decide), h.low, fun g hg => h.fresh g (Nat.le_trans hs.size hg), hb⟩
  have : g = a + 3 := by simpa [Value.ownBlock] using e.symm
  exact ne g (by omega) hg
theorem Sx.below (h : Sx W1 W kv a n most tag ov vs xs s) (hb : Below W.heap.size W W') : Sx W1 W' kv a n most tag ov vs xs s := h.sb (q := s.1) (Sb.below hb) (h.bx.below hb)
/-- A place of the row is written. -/
theorem Sx.put (h : Sx W1 W kv a n most tag ov vs xs s) (i : Nat) (z : Int) : Sx W1 (W.setCell ⟨a + 3, i, none⟩ (.int .i64 z)) kv a n most tag ov vs (xs.set i z) s := by
  have hlt := h.lt
  have hge := h.ge
  have s1 : K.Sm (· = a + 3) id W (W.setCell ⟨a + 3, i, none⟩ (.int .i64 z)) := K.Sm.setCell _ rfl
  have st : K.Sm (· = 0) tag W (W.setCell ⟨a + 3, i, none⟩ (.int .i64 z)) := K.Sm.setCell _ (h.low (a + 3) (by omega))
  have ne : ∀ g, g ≠ a + 3 → g < W.heap.size → (W.setCell ⟨a + 3, i, none⟩ (.int .i64 z)).heap[g]? = W.heap[g]? := fun g h1 h2 => s1.block g h2 h1
  refine ⟨h.ge, (ne _ (by omega) (by omega)).trans h.bn, (ne _ (by omega) (by omega)).trans h.bm, (ne _ (by omega) (by omega)).trans h.bk, (ne _ (by omega) (by omega)).trans h.br, (ne _ (by omega) (by omega)).trans h.bt, (ne _ (by omega) (by omega)).trans h.bf, (ne _ (by omega) (by omega)).trans h.bg, ?_, h.told.mv st (by decide) (fun _ _ => by decide), h.low, fun g hg => h.fresh g (Nat.le_trans s1.size hg), ?_⟩
  · have h2 := (h.row.stored i (.int .i64 z)).1
    have e3 : cellsI (xs.set i z) = (cellsI xs).set i (.int .i64 z) := by unfold cellsI; rw [List.map_set]
    rw [e3]; exact h2
  · have hb := h.bx
    exact ⟨hb.old.trans ⟨s1.os, s1.tape, s1.output, s1.size, fun g hg => ne g (by omega) (by omega)⟩, (ne _ (by omega) (by omega)).trans hb.bi, (ne _ (by omega) (by omega)).trans hb.bo⟩
/-- A copy of the row is told. -/
theorem Sx.tell {w4 w5 : World} {u : Value} {l : List Nat} {g5 cap5 : Nat} {o5 : Obj} (h : Sx W1 W kv a n most tag ov vs xs s) (hB : Below W.heap.size W w4)
    (hu : w4.ownsRow W.heap.size 3 1 u l.length (cellsI (ints l)))
    (hnew : w5.ownsRow 0 22 1 (.slice (some ⟨g5, 0, none⟩) (s.2.length + 1) cap5) (s.2.length + 1) (vs ++ [u])) (hold : w5.ownsRow 0 22 1 ov s.2.length vs)
    (hat : (ov = .slice (some ⟨g5, 0, none⟩) s.2.length cap5 ∧ (w4.alloc o5).grownBy w5 (some g5)) ∨ (g5 = (w4.alloc o5).heap.size ∧ (w4.alloc o5).grownBy w5 none)) :
    ∃ tag', Sx W1 (w5.setCell ⟨a + 5, 0, none⟩ (.slice (some ⟨g5, 0, none⟩) (s.2.length + 1) cap5)) kv a n most tag' (.slice (some ⟨g5, 0, none⟩) (s.2.length + 1) cap5) (vs ++ [u]) xs (s.1, s.2 ++ [l]) := by
  have hlt := h.lt
  have hge := h.ge
  generalize hW : w4.alloc o5 = Wx at hat
  have hz : Wx.heap.size = w4.heap.size + 1 := by rw [← hW]; simp
  have hBs := hB.size
  have S2 : ∀ X, K.Sm X tag W Wx := fun X => by rw [← hW]; exact (K.Sm.below hB).trans (K.Sm.alloc o5) (fun _ _ => rfl)
  have hul : ∀ g, u.ownBlock = some g → W.heap.size ≤ g ∧ g < w4.heap.size := fun g e => hu.lt g e
  have hg5 : tag g5 = 2 ∨ w4.heap.size < g5 := by
    rcases hat with ⟨e, hg⟩ | ⟨e, hg⟩
    · exact .inl (h.told.otag g5 (by rw [e]; rfl))
    · exact .inr (by omega)
  have S3 : K.Sm (· = 2) tag Wx w5 := by
    rcases hat with ⟨e, hg⟩ | ⟨_, hg⟩
    · exact K.Sm.grown hg fun g eg => by cases eg; exact h.told.otag g5 (by rw [e]; rfl)
    · exact K.Sm.grown hg fun g eg => by cases eg
  have hg5lt : g5 < w5.heap.size := K.owns_lt hnew rfl
  have hlow : w4.ownsRow 0 3 1 u l.length (cellsI (ints l)) := ⟨hu.1, by
    rcases hu.2 with hn | ⟨g, cap, cur, e, h1, rest⟩
    · exact .inl hn
    · exact .inr ⟨g, cap, cur, e, Nat.zero_le _, rest⟩⟩
  have huW : Wx.ownsRow 0 3 1 u l.length (cellsI (ints l)) := by rw [← hW]; exact hlow.alloc o5
  have hu5 : w5.ownsRow 0 3 1 u (rowsOf (s.2 ++ [l]) s.2.length).length (K.cellsI (rowsOf (s.2 ++ [l]) s.2.length)) := by
    rw [rowsOf_new, ints_len]
    exact K.owns_same huW fun g hg e => S3.block g hg (by show ¬ tag g = 2; rw [h.fresh g (hul g e).1]; decide)
  let tag' : Nat → Nat := fun g => if u.ownBlock = some g then 4 else if g = g5 then 2 else tag g
  have ht : ∀ g, tag g ≠ 0 → tag' g = tag g := fun g hne => by
    show (if u.ownBlock = some g then 4 else if g = g5 then 2 else tag g) = tag g
    rw [if_neg (fun e => hne (h.fresh g (hul g e).1))]
    by_cases e : g = g5
    · subst e
      rw [if_pos rfl]
      rcases hg5 with h2 | h2
      · exact h2.symm
      · exact absurd (h.fresh g (by omega)) hne
    · rw [if_neg e]
  have hv2t : tag' g5 = 2 := by
    show (if u.ownBlock = some g5 then 4 else if g5 = g5 then 2 else tag g5) = 2
    rw [if_neg (fun e => ?_), if_pos rfl]
    rcases hg5 with h2 | h2
    · rw [h.fresh g5 (hul g5 e).1] at h2; cases h2
    · have := (hul g5 e).2; omega
  have e00 : ∀ g, g < a + 8 → tag' g = 0 := fun g hg => by
    have h0 := h.low g hg
    show (if u.ownBlock = some g then 4 else if g = g5 then 2 else tag g) = 0
    rw [if_neg (fun e => by have := (hul g e).1; omega), if_neg (fun e => ?_)]
    · exact h0
    · subst e
      rcases hg5 with h2 | h2
      · rw [h0] at h2; cases h2
      · omega
  have L2 : K.Fam w5 tag' 2 (fun _ => 4) ov s.2.length vs (rowsOf (s.2 ++ [l])) :=
    (((h.told.mv (S2 (fun _ => False)) (fun h => h) (fun _ _ h => h)).out S3 hold (fun _ _ => by decide)).tags ht (by decide) (fun _ => by decide)).congr fun j hj => rowsOf_lt s.2 l hj
  have L3 := L2.push hnew (fun g e => by cases e; exact hv2t) hu5 (fun g e => if_pos e)
  have S4 : K.Sm (· = 0) tag' w5 (w5.setCell ⟨a + 5, 0, none⟩ (.slice (some ⟨g5, 0, none⟩) (s.2.length + 1) cap5)) := K.Sm.setCell _ (e00 (a + 5) (by omega))
  have S5 : K.Sm (· = a + 5) id w5 (w5.setCell ⟨a + 5, 0, none⟩ (.slice (some ⟨g5, 0, none⟩) (s.2.length + 1) cap5)) := K.Sm.setCell _ rfl
  have h3s := S3.size
  have b5 : ∀ g, g < a + 8 → w5.heap[g]? = W.heap[g]? := fun g hg => (S3.block g (by omega) (by rw [h.low g hg]; decide)).trans ((S2 (fun _ => False)).block g (by omega) (fun h => h))
  have ne : ∀ g, g < a + 8 → g ≠ a + 5 → (w5.setCell ⟨a + 5, 0, none⟩ (.slice (some ⟨g5, 0, none⟩) (s.2.length + 1) cap5)).heap[g]? = W.heap[g]? := fun g hg h1 => (S5.block g (by omega) h1).trans (b5 g hg)
  have hb5 : w5.heap[a + 5]? = some (.cells #[ov] 26 (0, 0)) := (b5 _ (by omega)).trans h.bt
  have hbx := h.bx
  refine ⟨tag', h.ge, (ne _ (by omega) (by omega)).trans h.bn, (ne _ (by omega) (by omega)).trans h.bm, (ne _ (by omega) (by omega)).trans h.bk, (ne _ (by omega) (by omega)).trans h.br, ?_, (ne _ (by omega) (by omega)).trans h.bf, (ne _ (by omega) (by omega)).trans h.bg, K.owns_same h.row fun g _ e => ?_, ?_, e00, fun g hg => ?_, ⟨hbx.old.trans ⟨?_, ?_, ?_, ?_, fun g hg => ne g (by omega) (by omega)⟩, (ne _ (by omega) (by omega)).trans hbx.bi, (ne _ (by omega) (by omega)).trans hbx.bo⟩⟩
  · have := heap_setCell_same w5 (a + 5) 0 _ _ (.slice (some ⟨g5, 0, none⟩) (s.2.length + 1) cap5) hb5; simpa using this
  · have : g = a + 3 := by simpa [Value.ownBlock] using e.symm
    subst this
    exact ne _ (by omega) (by omega)
  · have := L3.mv S4 (by decide) (fun _ _ => by decide)
    simpa using this
  · rw [show (w5.setCell ⟨a + 5, 0, none⟩ (.slice (some ⟨g5, 0, none⟩) (s.2.length + 1) cap5)).heap.size = w5.heap.size by simp [World.setCell]] at hg
    show (if u.ownBlock = some g then 4 else if g = g5 then 2 else tag g) = 0
    rw [if_neg (fun e => by have := (hul g e).2; omega), if_neg (by omega)]
    exact h.fresh g (by omega)
  · rw [S5.os, S3.os, (S2 (fun _ => False)).os]
  · rw [S5.tape, S3.tape, (S2 (fun _ => False)).tape]
  · rw [S5.output, S3.output, (S2 (fun _ => False)).output]
  · have h2 := S5.size; omega
theorem Sx.low5 {w4 w5 : World} {g5 cap5 : Nat} {o5 : Obj} (h : Sx W1 W kv a n most tag ov vs xs s) (hB : Below W.heap.size W w4)
    (hat : (ov = .slice (some ⟨g5, 0, none⟩) s.2.length cap5 ∧ (w4.alloc o5).grownBy w5 (some g5)) ∨ (g5 = (w4.alloc o5).heap.size ∧ (w4.alloc o5).grownBy w5 none)) : ∀ g, g < a + 8 → w5.heap[g]? = W.heap[g]? := fun g hg => by
  have hlt := h.lt
  have hBs := hB.size
  have S2 : K.Sm (· = 2) tag W (w4.alloc o5) := (K.Sm.below hB).trans (K.Sm.alloc o5) (fun _ _ => rfl)
  have S3 : K.Sm (· = 2) tag (w4.alloc o5) w5 := by
    rcases hat with ⟨e, hg⟩ | ⟨_, hg⟩
    · exact K.Sm.grown hg fun g eg => by cases eg; exact h.told.otag g5 (by rw [e]; rfl)
    · exact K.Sm.grown hg fun g eg => by cases eg
  have hs : (w4.alloc o5).heap.size = w4.heap.size + 1 := by simp
  exact (S3.block g (by omega) (by rw [h.low g hg]; decide)).trans (S2.block g (by omega) (by rw [h.low g hg]; decide))
end
/-- What the search holds, its row beginning so. -/
def Sk (W1 W : World) (kv : Value) (a n most : Nat) (p : List Nat) (s : SS) : Prop := ∃ tag ov vs xs, Sx W1 W kv a n most tag ov vs xs s ∧ xs.take p.length = ints p
set_option maxRecDepth 100000 in
set_option maxHeartbeats 2000000 in
theorem fillEnd (W1 : World) (kv : Value) (a n most : Nat) (hn : n ≤ 12) (hmo : most ≤ 65536) (bl : Int) (p : List Nat) (hp : p.length = n) (W : World) (s : SS) (hk : s.2.length < most) (h0 : Sk W1 W kv a n most p s) :
    Calls Try.prog 14 #[.int .i64 (n : Int), .int .i64 bl, .pointer (some ⟨a, 0, none⟩), .pointer (some ⟨a + 5, 0, none⟩), .pointer (some ⟨a + 4, 0, none⟩), .pointer (some ⟨a + 1, 0, none⟩), .pointer (some ⟨a + 6, 0, none⟩), .pointer (some ⟨a + 7, 0, none⟩)] W fun e w' => e = .returned (.tuple #[]) ∧ Hid (Sk W1 w' kv a n most p (s.1, s.2 ++ [p])) := by
  obtain ⟨tag, ov, vs, xs, h, htk⟩ := h0
  obtain ⟨iL, hiL, hzL0, hzL1, hzL2⟩ := info_parts K.infoL
  have hrow := h.row
  have hxl : xs.length = n := by have := hrow.1; simp [cellsI] at this; omega
  obtain rfl : xs = ints p := by rw [← htk, List.take_of_length_le (by omega)]
  have hlt := h.lt
  have cn := cell_blk h.bn
  have cr := cell_blk h.br
  have ct := cell_blk h.bt
  have hI : RowI W (.slice (some ⟨a + 3, 0, none⟩) n n) (ints p) := by
    have h1 := hrow
    rw [← hxl] at h1
    have := RowI.of_owns h1
    rwa [hxl] at this
  have hC : Hid (∀ V, Below W.heap.size W V → V.cell? ⟨a + 4, 0, none⟩ = some (.slice (some ⟨a + 3, 0, none⟩) n n)) := fun V hV => cell_blk (h.below hV).br
  have hT : Hid (∀ V, Below W.heap.size W V → V.cell? ⟨a + 5, 0, none⟩ = some ov) := fun V hV => cell_blk (h.below hV).bt
  have hd : Hid (Below W.heap.size W W.drew) := (Below.refl _ _).drew
  have KC : Hid (Calls Try.prog 15 #[.slice (some ⟨a + 3, 0, none⟩) n n] W.drew fun e w' => ∃ ou cu, e = .returned (.slice ou n cu) ∧ Hid (w'.ownsRow W.heap.size 3 1 (.slice ou n cu) p.length (cellsI (ints p))) ∧ Below W.drew.heap.size W.drew w') := by
    refine (clone (ints p) _ W.drew (hI.below hd.out (Nat.le_refl _)) (by omega)).mono ?_
    rintro e w' ⟨v', rfl, e2, e3⟩
    obtain ⟨ou, cu, rfl⟩ := K.own_shape e2
    refine ⟨ou, cu, by rw [hxl], ?_, e3⟩
    rw [hxl] at e2
    rw [hp]
    exact e2
  have hct := hT.out _ hd.out
  have h' := hide' h
  have htk' := hide' htk
  have hp' := hide' hp
  obtain ⟨og, cg, rfl⟩ := K.own_shape h.told.outer
  clear h hrow hI htk hp hxl
  obtain ⟨s1, s2⟩ := s
  generalize hk2 : s2.length = k at *
  have hk2' := hide' hk2
  clear hk2
  go_enter Try.func14, Try.ntmps14
  go_wp2
  refine wp_region_held_drew (S := (fun _ => True)) (by kernel_rfl) ?_ (fun hHeld => ?_)
  · trivial
  refine wpAnyH_ready (rs := [0, 1]) (by kernel_rfl) (by simp) ?_
  refine AllReadyH.cons (o := { dst := some 14, op := Op.load 26 (Operand.tmp 3), type := 26, pos := "search.go:24", after := #[], guard := none }) rfl (fun K hK => ?_) ?_
  · skip
    go_simp
    refine hK.out _ _ ?_ (fun hHeld => ?_)
    · trivial
    clear hK K
    try simp only [Act.put, List.setIfInBounds_toArray, List.set_cons_zero, List.set_cons_succ]
    refine wpAnyH_ready (rs := [1]) (by kernel_rfl) (by simp) ?_
    refine AllReadyH.cons (o := { dst := some 15, op := Op.load 22 (Operand.tmp 4), type := 22, pos := "search.go:24", after := #[], guard := none }) rfl (fun K hK => ?_) AllReadyH.nil
    go_simp
    refine hK.out _ _ ?_ (fun hHeld => ?_)
    · trivial
    clear hK K
    try simp only [Act.put, List.setIfInBounds_toArray, List.set_cons_zero, List.set_cons_succ]
    refine wpAnyH_ready (rs := [2]) (by kernel_rfl) (by simp) ?_
    refine AllReadyH.cons (o := { dst := some 16, op := Op.call { callee := Callee.value (Operand.func 15), args := #[Operand.tmp 15], argTypes := #[22] }, type := 22, pos := "search.go:24", after := #[{ on := 1, ground := Ground.data }], guard := none }) rfl (fun K hK => ?_) AllReadyH.nil
    go_simp
    refine KC.out.mono ?_; rintro e w4 ⟨ou, cu, rfl, hu4, hb⟩; have hb4 := hide' (hd.out.trans hb); have ct4 := hT.out _ hb4.out; have hb5 : Hid (Below W.heap.size W (w4.alloc (.cells #[.slice ou n cu] 22))) := hb4.out.alloc hb4.out.size _; have ct5 := hT.out _ hb5.out; have hO5 : Hid ((w4.alloc (.cells #[.slice ou n cu] 22)).ownsRow 0 22 1 (.slice og k cg) k vs) := (by have h1 := (h'.out.below hb4.out).told.outer.alloc (.cells #[.slice ou n cu] 22); simp only [hk2'.out] at h1; exact h1); have hz4 := hb4.out.size; clear hb; (try dsimp only)
    refine hK.out _ _ ?_ (fun hHeld => ?_)
    · trivial
    clear hK K
    try simp only [Act.put, List.setIfInBounds_toArray, List.set_cons_zero, List.set_cons_succ]
    refine wpAnyH_ready (rs := [3]) (by kernel_rfl) (by simp) ?_
    refine AllReadyH.cons (o := { dst := some 17, op := Op.buildSlice 26 1 #[(0, Operand.tmp 16)], type := 26, pos := "search.go:24", after := #[{ on := 2, ground := Ground.data }], guard := none }) rfl (fun K hK => ?_) AllReadyH.nil
    go_simp
    refine hK.out _ _ ?_ (fun hHeld => ?_)
    · trivial
    clear hK K
    try simp only [Act.put, List.setIfInBounds_toArray, List.set_cons_zero, List.set_cons_succ]
    refine wpAnyH_ready (rs := [4]) (by kernel_rfl) (by simp) ?_
    refine AllReadyH.cons (o := { dst := some 18, op := Op.call { callee := Callee.builtin Builtin.append, args := #[Operand.tmp 14, Operand.tmp 17], argTypes := #[26, 26] }, type := 26, pos := "search.go:24", after := #[{ on := 0, ground := Ground.data }, { on := 3, ground := Ground.data }, { on := 2, ground := Ground.chain }], guard := none }) rfl (fun K hK => ?_) AllReadyH.nil
    rw [if_pos (by rfl)]
    refine _root_.Go.Proofs.Ytlffhpggfhpgnaa.K.wp_append_two _ (.tmp 14) (.tmp 17) 26 rfl 0 22 iL (.slice none 0 0) 1 24 Try.underlying26 hiL hzL0 hzL1 hzL2 rfl (by decide) (.slice og k cg) k vs rfl hO5.out ⟨w4.heap.size, 0, none⟩ 1 1 [.slice ou n cu] rfl rfl (cell_one_new _ _ _) (by simp [Value.oneCell']) (by decide) (by unfold maxLen; omega) (by omega) (Nat.zero_le _) ?_; intro g5 cap5 w5 hnew5 hold5 hat5; have hl5 := h'.out.low5 (s := (s1, s2)) (g5 := g5) (cap5 := cap5) hb4.out (by simp only [hk2'.out]; exact hat5); have hbt5 := (hl5 (a + 5) (by omega)).trans h'.out.bt; have ct6 := cell_blk hbt5; have fz6 := frozen_of_row w5 (a + 5) 0 _ _ hbt5; have hN : Hid (∃ tag', Sx W1 (w5.setCell ⟨a + 5, 0, none⟩ (.slice (some ⟨g5, 0, none⟩) (k + 1) cap5)) kv a n most tag' (.slice (some ⟨g5, 0, none⟩) (k + 1) cap5) (vs ++ [.slice ou n cu]) (ints p) (s1, s2 ++ [p])) := (by have h1 := h'.out.tell (s := (s1, s2)) (g5 := g5) (cap5 := cap5) hb4.out hu4.out (by simp only [hk2'.out]; exact hnew5) (by simp only [hk2'.out]; exact hold5) (by simp only [hk2'.out]; exact hat5); simp only [hk2'.out] at h1; exact h1); clear hl5 hbt5 hnew5 hold5 hat5; (try dsimp only)
    refine hK.out _ _ ?_ (fun hHeld => ?_)
    · trivial
    clear hK K
    try simp only [Act.put, List.setIfInBounds_toArray, List.set_cons_zero, List.set_cons_succ]
    refine wpAnyH_ready (rs := [5]) (by kernel_rfl) (by simp) ?_
    refine AllReadyH.cons (o := { dst := none, op := Op.store 26 (Operand.tmp 3) (Operand.tmp 18), type := 0, pos := "search.go:24", after := #[{ on := 4, ground := Ground.data }, { on := 4, ground := Ground.chain }, { on := 0, ground := Ground.phase }, { on := 1, ground := Ground.phase }, { on := 2, ground := Ground.phase }, { on := 3, ground := Ground.phase }, { on := 4, ground := Ground.phase }], guard := none }) rfl (fun K hK => ?_) AllReadyH.nil
    go_simp
    refine hK.out _ _ ?_ (fun hHeld => ?_)
    · trivial
    clear hK K
    try simp only [Act.put, List.setIfInBounds_toArray, List.set_cons_zero, List.set_cons_succ]
    refine wpAnyH_done (by kernel_rfl) ?_ _
    skip
    obtain ⟨tag5, hS5⟩ := hN.out
    have hS5' : Hid (Sk W1 _ kv a n most p (s1, s2 ++ [p])) := ⟨tag5, _, _, _, hS5, htk'.out⟩
    clear hS5 hN
    go_wp2
    first | go_end0 | refine bodyPost_ret (results_none rfl _ _ _) rfl ?_
    exact ⟨rfl, hS5'⟩
  refine AllReadyH.cons (o := { dst := some 15, op := Op.load 22 (Operand.tmp 4), type := 22, pos := "search.go:24", after := #[], guard := none }) rfl (fun K hK => ?_) AllReadyH.nil
  go_simp
  refine hK.out _ _ ?_ (fun hHeld => ?_)
  · trivial
  clear hK K
  try simp only [Act.put, List.setIfInBounds_toArray, List.set_cons_zero, List.set_cons_succ]
  refine wpAnyH_ready (rs := [0, 2]) (by kernel_rfl) (by simp) ?_
  refine AllReadyH.cons (o := { dst := some 14, op := Op.load 26 (Operand.tmp 3), type := 26, pos := "search.go:24", after := #[], guard := none }) rfl (fun K hK => ?_) ?_
  · skip
    go_simp
    refine hK.out _ _ ?_ (fun hHeld => ?_)
    · trivial
    clear hK K
    try simp only [Act.put, List.setIfInBounds_toArray, List.set_cons_zero, List.set_cons_succ]
    refine wpAnyH_ready (rs := [2]) (by kernel_rfl) (by simp) ?_
    refine AllReadyH.cons (o := { dst := some 16, op := Op.call { callee := Callee.value (Operand.func 15), args := #[Operand.tmp 15], argTypes := #[22] }, type := 22, pos := "search.go:24", after := #[{ on := 1, ground := Ground.data }], guard := none }) rfl (fun K hK => ?_) AllReadyH.nil
    go_simp
    refine KC.out.mono ?_; rintro e w4 ⟨ou, cu, rfl, hu4, hb⟩; have hb4 := hide' (hd.out.trans hb); have ct4 := hT.out _ hb4.out; have hb5 : Hid (Below W.heap.size W (w4.alloc (.cells #[.slice ou n cu] 22))) := hb4.out.alloc hb4.out.size _; have ct5 := hT.out _ hb5.out; have hO5 : Hid ((w4.alloc (.cells #[.slice ou n cu] 22)).ownsRow 0 22 1 (.slice og k cg) k vs) := (by have h1 := (h'.out.below hb4.out).told.outer.alloc (.cells #[.slice ou n cu] 22); simp only [hk2'.out] at h1; exact h1); have hz4 := hb4.out.size; clear hb; (try dsimp only)
    refine hK.out _ _ ?_ (fun hHeld => ?_)
    · trivial
    clear hK K
    try simp only [Act.put, List.setIfInBounds_toArray, List.set_cons_zero, List.set_cons_succ]
    refine wpAnyH_ready (rs := [3]) (by kernel_rfl) (by simp) ?_
    refine AllReadyH.cons (o := { dst := some 17, op := Op.buildSlice 26 1 #[(0, Operand.tmp 16)], type := 26, pos := "search.go:24", after := #[{ on := 2, ground := Ground.data }], guard := none }) rfl (fun K hK => ?_) AllReadyH.nil
    go_simp
    refine hK.out _ _ ?_ (fun hHeld => ?_)
    · trivial
    clear hK K
    try simp only [Act.put, List.setIfInBounds_toArray, List.set_cons_zero, List.set_cons_succ]
    refine wpAnyH_ready (rs := [4]) (by kernel_rfl) (by simp) ?_
    refine AllReadyH.cons (o := { dst := some 18, op := Op.call { callee := Callee.builtin Builtin.append, args := #[Operand.tmp 14, Operand.tmp 17], argTypes := #[26, 26] }, type := 26, pos := "search.go:24", after := #[{ on := 0, ground := Ground.data }, { on := 3, ground := Ground.data }, { on := 2, ground := Ground.chain }], guard := none }) rfl (fun K hK => ?_) AllReadyH.nil
    rw [if_pos (by rfl)]
    refine _root_.Go.Proofs.Ytlffhpggfhpgnaa.K.wp_append_two _ (.tmp 14) (.tmp 17) 26 rfl 0 22 iL (.slice none 0 0) 1 24 Try.underlying26 hiL hzL0 hzL1 hzL2 rfl (by decide) (.slice og k cg) k vs rfl hO5.out ⟨w4.heap.size, 0, none⟩ 1 1 [.slice ou n cu] rfl rfl (cell_one_new _ _ _) (by simp [Value.oneCell']) (by decide) (by unfold maxLen; omega) (by omega) (Nat.zero_le _) ?_; intro g5 cap5 w5 hnew5 hold5 hat5; have hl5 := h'.out.low5 (s := (s1, s2)) (g5 := g5) (cap5 := cap5) hb4.out (by simp only [hk2'.out]; exact hat5); have hbt5 := (hl5 (a + 5) (by omega)).trans h'.out.bt; have ct6 := cell_blk hbt5; have fz6 := frozen_of_row w5 (a + 5) 0 _ _ hbt5; have hN : Hid (∃ tag', Sx W1 (w5.setCell ⟨a + 5, 0, none⟩ (.slice (some ⟨g5, 0, none⟩) (k + 1) cap5)) kv a n most tag' (.slice (some ⟨g5, 0, none⟩) (k + 1) cap5) (vs ++ [.slice ou n cu]) (ints p) (s1, s2 ++ [p])) := (by have h1 := h'.out.tell (s := (s1, s2)) (g5 := g5) (cap5 := cap5) hb4.out hu4.out (by simp only [hk2'.out]; exact hnew5) (by simp only [hk2'.out]; exact hold5) (by simp only [hk2'.out]; exact hat5); simp only [hk2'.out] at h1; exact h1); clear hl5 hbt5 hnew5 hold5 hat5; (try dsimp only)
    refine hK.out _ _ ?_ (fun hHeld => ?_)
    · trivial
    clear hK K
    try simp only [Act.put, List.setIfInBounds_toArray, List.set_cons_zero, List.set_cons_succ]
    refine wpAnyH_ready (rs := [5]) (by kernel_rfl) (by simp) ?_
    refine AllReadyH.cons (o := { dst := none, op := Op.store 26 (Operand.tmp 3) (Operand.tmp 18), type := 0, pos := "search.go:24", after := #[{ on := 4, ground := Ground.data }, { on := 4, ground := Ground.chain }, { on := 0, ground := Ground.phase }, { on := 1, ground := Ground.phase }, { on := 2, ground := Ground.phase }, { on := 3, ground := Ground.phase }, { on := 4, ground := Ground.phase }], guard := none }) rfl (fun K hK => ?_) AllReadyH.nil
    go_simp
    refine hK.out _ _ ?_ (fun hHeld => ?_)
    · trivial
    clear hK K
    try simp only [Act.put, List.setIfInBounds_toArray, List.set_cons_zero, List.set_cons_succ]
    refine wpAnyH_done (by kernel_rfl) ?_ _
    skip
    obtain ⟨tag5, hS5⟩ := hN.out
    have hS5' : Hid (Sk W1 _ kv a n most p (s1, s2 ++ [p])) := ⟨tag5, _, _, _, hS5, htk'.out⟩
    clear hS5 hN
    go_wp2
    first | go_end0 | refine bodyPost_ret (results_none rfl _ _ _) rfl ?_
    exact ⟨rfl, hS5'⟩
  refine AllReadyH.cons (o := { dst := some 16, op := Op.call { callee := Callee.value (Operand.func 15), args := #[Operand.tmp 15], argTypes := #[22] }, type := 22, pos := "search.go:24", after := #[{ on := 1, ground := Ground.data }], guard := none }) rfl (fun K hK => ?_) AllReadyH.nil
  go_simp
  refine KC.out.mono ?_; rintro e w4 ⟨ou, cu, rfl, hu4, hb⟩; have hb4 := hide' (hd.out.trans hb); have ct4 := hT.out _ hb4.out; have hb5 : Hid (Below W.heap.size W (w4.alloc (.cells #[.slice ou n cu] 22))) := hb4.out.alloc hb4.out.size _; have ct5 := hT.out _ hb5.out; have hO5 : Hid ((w4.alloc (.cells #[.slice ou n cu] 22)).ownsRow 0 22 1 (.slice og k cg) k vs) := (by have h1 := (h'.out.below hb4.out).told.outer.alloc (.cells #[.slice ou n cu] 22); simp only [hk2'.out] at h1; exact h1); have hz4 := hb4.out.size; clear hb; (try dsimp only)
  refine hK.out _ _ ?_ (fun hHeld => ?_)
  · trivial
  clear hK K
  try simp only [Act.put, List.setIfInBounds_toArray, List.set_cons_zero, List.set_cons_succ]
  refine wpAnyH_ready (rs := [0, 3]) (by kernel_rfl) (by simp) ?_
  refine AllReadyH.cons (o := { dst := some 14, op := Op.load 26 (Operand.tmp 3), type := 26, pos := "search.go:24", after := #[], guard := none }) rfl (fun K hK => ?_) ?_
  · skip
    go_simp
    refine hK.out _ _ ?_ (fun hHeld => ?_)
    · trivial
    clear hK K
    try simp only [Act.put, List.setIfInBounds_toArray, List.set_cons_zero, List.set_cons_succ]
    refine wpAnyH_ready (rs := [3]) (by kernel_rfl) (by simp) ?_
    refine AllReadyH.cons (o := { dst := some 17, op := Op.buildSlice 26 1 #[(0, Operand.tmp 16)], type := 26, pos := "search.go:24", after := #[{ on := 2, ground := Ground.data }], guard := none }) rfl (fun K hK => ?_) AllReadyH.nil
    go_simp
    refine hK.out _ _ ?_ (fun hHeld => ?_)
    · trivial
    clear hK K
    try simp only [Act.put, List.setIfInBounds_toArray, List.set_cons_zero, List.set_cons_succ]
    refine wpAnyH_ready (rs := [4]) (by kernel_rfl) (by simp) ?_
    refine AllReadyH.cons (o := { dst := some 18, op := Op.call { callee := Callee.builtin Builtin.append, args := #[Operand.tmp 14, Operand.tmp 17], argTypes := #[26, 26] }, type := 26, pos := "search.go:24", after := #[{ on := 0, ground := Ground.data }, { on := 3, ground := Ground.data }, { on := 2, ground := Ground.chain }], guard := none }) rfl (fun K hK => ?_) AllReadyH.nil
    rw [if_pos (by rfl)]
    refine _root_.Go.Proofs.Ytlffhpggfhpgnaa.K.wp_append_two _ (.tmp 14) (.tmp 17) 26 rfl 0 22 iL (.slice none 0 0) 1 24 Try.underlying26 hiL hzL0 hzL1 hzL2 rfl (by decide) (.slice og k cg) k vs rfl hO5.out ⟨w4.heap.size, 0, none⟩ 1 1 [.slice ou n cu] rfl rfl (cell_one_new _ _ _) (by simp [Value.oneCell']) (by decide) (by unfold maxLen; omega) (by omega) (Nat.zero_le _) ?_; intro g5 cap5 w5 hnew5 hold5 hat5; have hl5 := h'.out.low5 (s := (s1, s2)) (g5 := g5) (cap5 := cap5) hb4.out (by simp only [hk2'.out]; exact hat5); have hbt5 := (hl5 (a + 5) (by omega)).trans h'.out.bt; have ct6 := cell_blk hbt5; have fz6 := frozen_of_row w5 (a + 5) 0 _ _ hbt5; have hN : Hid (∃ tag', Sx W1 (w5.setCell ⟨a + 5, 0, none⟩ (.slice (some ⟨g5, 0, none⟩) (k + 1) cap5)) kv a n most tag' (.slice (some ⟨g5, 0, none⟩) (k + 1) cap5) (vs ++ [.slice ou n cu]) (ints p) (s1, s2 ++ [p])) := (by have h1 := h'.out.tell (s := (s1, s2)) (g5 := g5) (cap5 := cap5) hb4.out hu4.out (by simp only [hk2'.out]; exact hnew5) (by simp only [hk2'.out]; exact hold5) (by simp only [hk2'.out]; exact hat5); simp only [hk2'.out] at h1; exact h1); clear hl5 hbt5 hnew5 hold5 hat5; (try dsimp only)
    refine hK.out _ _ ?_ (fun hHeld => ?_)
    · trivial
    clear hK K
    try simp only [Act.put, List.setIfInBounds_toArray, List.set_cons_zero, List.set_cons_succ]
    refine wpAnyH_ready (rs := [5]) (by kernel_rfl) (by simp) ?_
    refine AllReadyH.cons (o := { dst := none, op := Op.store 26 (Operand.tmp 3) (Operand.tmp 18), type := 0, pos := "search.go:24", after := #[{ on := 4, ground := Ground.data }, { on := 4, ground := Ground.chain }, { on := 0, ground := Ground.phase }, { on := 1, ground := Ground.phase }, { on := 2, ground := Ground.phase }, { on := 3, ground := Ground.phase }, { on := 4, ground := Ground.phase }], guard := none }) rfl (fun K hK => ?_) AllReadyH.nil
    go_simp
    refine hK.out _ _ ?_ (fun hHeld => ?_)
    · trivial
    clear hK K
    try simp only [Act.put, List.setIfInBounds_toArray, List.set_cons_zero, List.set_cons_succ]
    refine wpAnyH_done (by kernel_rfl) ?_ _
    skip
    obtain ⟨tag5, hS5⟩ := hN.out
    have hS5' : Hid (Sk W1 _ kv a n most p (s1, s2 ++ [p])) := ⟨tag5, _, _, _, hS5, htk'.out⟩
    clear hS5 hN
    go_wp2
    first | go_end0 | refine bodyPost_ret (results_none rfl _ _ _) rfl ?_
    exact ⟨rfl, hS5'⟩
  refine AllReadyH.cons (o := { dst := some 17, op := Op.buildSlice 26 1 #[(0, Operand.tmp 16)], type := 26, pos := "search.go:24", after := #[{ on := 2, ground := Ground.data }], guard := none }) rfl (fun K hK => ?_) AllReadyH.nil
  go_simp
  refine hK.out _ _ ?_ (fun hHeld => ?_)
  · trivial
  clear hK K
  try simp only [Act.put, List.setIfInBounds_toArray, List.set_cons_zero, List.set_cons_succ]
  refine wpAnyH_ready (rs := [0]) (by kernel_rfl) (by simp) ?_
  refine AllReadyH.cons (o := { dst := some 14, op := Op.load 26 (Operand.tmp 3), type := 26, pos := "search.go:24", after := #[], guard := none }) rfl (fun K hK => ?_) AllReadyH.nil
  go_simp
  refine hK.out _ _ ?_ (fun hHeld => ?_)
  · trivial
  clear hK K
  try simp only [Act.put, List.setIfInBounds_toArray, List.set_cons_zero, List.set_cons_succ]
  refine wpAnyH_ready (rs := [4]) (by kernel_rfl) (by simp) ?_
  refine AllReadyH.cons (o := { dst := some 18, op := Op.call { callee := Callee.builtin Builtin.append, args := #[Operand.tmp 14, Operand.tmp 17], argTypes := #[26, 26] }, type := 26, pos := "search.go:24", after := #[{ on := 0, ground := Ground.data }, { on := 3, ground := Ground.data }, { on := 2, ground := Ground.chain }], guard := none }) rfl (fun K hK => ?_) AllReadyH.nil
  rw [if_pos (by rfl)]
  refine _root_.Go.Proofs.Ytlffhpggfhpgnaa.K.wp_append_two _ (.tmp 14) (.tmp 17) 26 rfl 0 22 iL (.slice none 0 0) 1 24 Try.underlying26 hiL hzL0 hzL1 hzL2 rfl (by decide) (.slice og k cg) k vs rfl hO5.out ⟨w4.heap.size, 0, none⟩ 1 1 [.slice ou n cu] rfl rfl (cell_one_new _ _ _) (by simp [Value.oneCell']) (by decide) (by unfold maxLen; omega) (by omega) (Nat.zero_le _) ?_; intro g5 cap5 w5 hnew5 hold5 hat5; have hl5 := h'.out.low5 (s := (s1, s2)) (g5 := g5) (cap5 := cap5) hb4.out (by simp only [hk2'.out]; exact hat5); have hbt5 := (hl5 (a + 5) (by omega)).trans h'.out.bt; have ct6 := cell_blk hbt5; have fz6 := frozen_of_row w5 (a + 5) 0 _ _ hbt5; have hN : Hid (∃ tag', Sx W1 (w5.setCell ⟨a + 5, 0, none⟩ (.slice (some ⟨g5, 0, none⟩) (k + 1) cap5)) kv a n most tag' (.slice (some ⟨g5, 0, none⟩) (k + 1) cap5) (vs ++ [.slice ou n cu]) (ints p) (s1, s2 ++ [p])) := (by have h1 := h'.out.tell (s := (s1, s2)) (g5 := g5) (cap5 := cap5) hb4.out hu4.out (by simp only [hk2'.out]; exact hnew5) (by simp only [hk2'.out]; exact hold5) (by simp only [hk2'.out]; exact hat5); simp only [hk2'.out] at h1; exact h1); clear hl5 hbt5 hnew5 hold5 hat5; (try dsimp only)
  refine hK.out _ _ ?_ (fun hHeld => ?_)
  · trivial
  clear hK K
  try simp only [Act.put, List.setIfInBounds_toArray, List.set_cons_zero, List.set_cons_succ]
  refine wpAnyH_ready (rs := [5]) (by kernel_rfl) (by simp) ?_
  refine AllReadyH.cons (o := { dst := none, op := Op.store 26 (Operand.tmp 3) (Operand.tmp 18), type := 0, pos := "search.go:24", after := #[{ on := 4, ground := Ground.data }, { on := 4, ground := Ground.chain }, { on := 0, ground := Ground.phase }, { on := 1, ground := Ground.phase }, { on := 2, ground := Ground.phase }, { on := 3, ground := Ground.phase }, { on := 4, ground := Ground.phase }], guard := none }) rfl (fun K hK => ?_) AllReadyH.nil
  go_simp
  refine hK.out _ _ ?_ (fun hHeld => ?_)
  · trivial
  clear hK K
  try simp only [Act.put, List.setIfInBounds_toArray, List.set_cons_zero, List.set_cons_succ]
  refine wpAnyH_done (by kernel_rfl) ?_ _
  skip
  obtain ⟨tag5, hS5⟩ := hN.out
  have hS5' : Hid (Sk W1 _ kv a n most p (s1, s2 ++ [p])) := ⟨tag5, _, _, _, hS5, htk'.out⟩
  clear hS5 hN
  go_wp2
  first | go_end0 | refine bodyPost_ret (results_none rfl _ _ _) rfl ?_
  exact ⟨rfl, hS5'⟩
end Go.Proofs.Ytlffhpggfhpgnaa

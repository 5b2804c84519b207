/- Loan.Ints: a list is lent, beside rows of words. (Printed by mk2loan.py.) -/
import Derived.Test.YtlijlelejobchaaGreatDoorJ02
import Derived.Test.YtlijlelejobchaaGreatDoorKApp
import Derived.Test.YtlijlelejobchaaGreatDoorJ19
import Derived.Deep.RegionHeld3
import Derived.Maps.AppendAt
import Derived.Deep.AppendLies
namespace Go.Proofs.YtlijlelejobchaaGreatDoor.K
open Go.RowKit
section
variable {tag tag' : Nat → Nat} {w w' : World} {t : Nat} {c : Nat → Nat} {ov : Value} {m : Nat} {vs : List Value} {rows : Nat → List Int}
/-- The outer row's block may have been turned: it is shown anew. -/
theorem Fam.outH (h : Fam w tag t c ov m vs rows) (hs : Sm (· = t) tag w w') (ho : w'.ownsRow 0 23 1 ov m vs) (hc : ∀ j, j < m → c j ≠ t) : Fam w' tag t c ov m vs rows := by
  refine ⟨ho, h.otag, fun j v hj => owns_same (h.inner j v hj) fun g hg e => hs.block g hg ?_, h.itag⟩
  rw [h.itag j v g hj e]
  exact hc j (by have := (List.getElem?_eq_some_iff.1 hj).1; rw [h.len] at this; exact this)
theorem Fam.tagsH (h : Fam w tag t c ov m vs rows) (ht : ∀ g, tag g ≠ 0 → tag' g = tag g) (h0 : t ≠ 0) (hc : ∀ j, c j ≠ 0) : Fam w tag' t c ov m vs rows :=
  ⟨h.outer, fun g e => (ht g (by rw [h.otag g e]; exact h0)).trans (h.otag g e), h.inner, fun j v g hj e => (ht g (by rw [h.itag j v g hj e]; exact hc j)).trans (h.itag j v g hj e)⟩
end
theorem own_shapeH {w : World} {b : Nat} {e : TypeId} {size : Nat} {v : Value} {n : Nat} {xs : List Value} (h : w.ownsRow b e size v n xs) : ∃ oa cap, v = .slice oa n cap := by
  rcases h.2 with ⟨rfl, rfl⟩ | ⟨g, cap, cur, rfl, _⟩
  · exact ⟨_, _, rfl⟩
  · exact ⟨_, _, rfl⟩
theorem famNilH (w : World) (tag : Nat → Nat) (t : Nat) (c : Nat → Nat) (rows : Nat → List Int) : Fam w tag t c (.slice none 0 0) 0 [] rows :=
  ⟨World.ownsRow_nil w _ _ _, (fun _ e => by cases e), (fun _ _ h => by cases h), (fun _ _ _ h => by cases h)⟩
end Go.Proofs.YtlijlelejobchaaGreatDoor.K
namespace Go.Proofs.YtlijlelejobchaaGreatDoor
open Go.RowKit
def RRH (w : World) (v : Value) (L : List (List Nat)) : Prop := ∃ oa cap, v = .slice oa L.length cap ∧ ∀ i l, L[i]? = some l → ∃ g o ou cu, oa = some ⟨g, o, none⟩ ∧ w.cell? ⟨g, o + i, none⟩ = some (.slice ou l.length cu) ∧ RowI w (.slice ou l.length cu) (ints l)
theorem RRH.nil (w : World) : RRH w (.slice none 0 0) [] := ⟨none, 0, rfl, fun i l h => by cases h⟩
theorem RRH.below {w w' : World} {v : Value} {L : List (List Nat)} {n : Nat} (h : RRH w v L) (hb : Below n w w') (hn : w.heap.size ≤ n) : RRH w' v L := by
  obtain ⟨oa, cap, rfl, h1⟩ := h
  refine ⟨oa, cap, rfl, fun i l hi => ?_⟩
  obtain ⟨g, o, ou, cu, e, hc, hr⟩ := h1 i l hi
  exact ⟨g, o, ou, cu, e, (hb.cell (p := ⟨g, o + i, none⟩) (Nat.lt_of_lt_of_le (cell_lt hc) hn)).trans hc, hr.below hb hn⟩
theorem cell_blkH {W : World} {g : Nat} {v : Value} {t : TypeId} (h : W.heap[g]? = some (.cells #[v] t (0, 0))) : W.cell? ⟨g, 0, none⟩ = some v := by simp [World.cell?, h]
def rowsOfH (L : List (List Nat)) (j : Nat) : List Int := ints (L.getD j [])
theorem rowsOfH_lt (L : List (List Nat)) (l : List Nat) {j : Nat} (h : j < L.length) : rowsOfH (L ++ [l]) j = rowsOfH L j := by
  unfold rowsOfH; rw [List.getD_eq_getElem?_getD, List.getD_eq_getElem?_getD, List.getElem?_append_left h]
theorem rowsOfH_new (L : List (List Nat)) (l : List Nat) : rowsOfH (L ++ [l]) L.length = ints l := by unfold rowsOfH; simp
theorem rowsOfH_at {L : List (List Nat)} {l : List Nat} {j : Nat} (h : L[j]? = some l) : rowsOfH L j = ints l := by
  unfold rowsOfH; rw [List.getD_eq_getElem?_getD, h]; rfl
/-- A row of rows, read. -/
theorem RRH.of_fam {W : World} {tag : Nat → Nat} {t : Nat} {c : Nat → Nat} {ov : Value} {vs : List Value} {L : List (List Nat)} (h : K.Fam W tag t c ov L.length vs (rowsOfH L)) : RRH W ov L := by
  obtain ⟨oa, cap, rfl⟩ := K.own_shapeH h.outer
  refine ⟨oa, cap, rfl, fun i l hi => ?_⟩
  have hlt := (List.getElem?_eq_some_iff.1 hi).1
  obtain ⟨v, hv⟩ : ∃ v, vs[i]? = some v := ⟨_, List.getElem?_eq_getElem (by rw [h.len]; exact hlt)⟩
  have h1 := h.inner i v hv
  rw [rowsOfH_at hi] at h1
  obtain ⟨ou, cu, rfl⟩ := K.own_shapeH h1
  rcases h.outer.2 with ⟨e, h0⟩ | ⟨g, cap', cur, e, _, hb, hcap, _, _, hcur⟩
  · omega
  · cases e
    refine ⟨g, 0, ou, cu, rfl, ?_, ?_⟩
    · have e1 : cur[i]? = some (.slice ou (ints l).length cu) := by
        have : (cur.toList.take (L.length * 1))[i]? = vs[i]? := by rw [hcur]
        rw [List.getElem?_take_of_lt (by omega), hv] at this
        simpa using this
      rw [ints_len] at e1
      rw [Nat.zero_add]
      simp [World.cell?, hb, e1]
    · have h2 : W.ownsRow 0 3 1 (.slice ou (ints l).length cu) (ints l).length (cellsI (ints l)) := h1
      have h3 := RowI.of_owns h2
      rwa [ints_len] at h3
/-- What was asked, and what was found. -/
abbrev HS := List (List Nat) × List (List Nat)
def hnStep (K : List Nat → Bool) (most : Nat) (rec : List Nat → HS → HS) (a : List Nat) (s : HS) (b : Nat) : HS :=
  if most ≤ s.2.length then s else if K (a ++ [b]) then rec (a ++ [b]) (s.1 ++ [a ++ [b]], s.2) else (s.1 ++ [a ++ [b]], s.2)
/-- The search. -/
def hnS (K : List Nat → Bool) (most : Nat) : Nat → List Nat → HS → HS
  | 0, a, s => (s.1, s.2 ++ [a])
  | d + 1, a, s => (List.range (blks 0 a + 1)).foldl (hnStep K most (hnS K most d) a) s
theorem hn_full {K : List Nat → Bool} {most : Nat} {f : List Nat → HS → HS} {a : List Nat} (l : List Nat) {s : HS} (h : most ≤ s.2.length) : l.foldl (hnStep K most f a) s = s := by
  induction l with
  | nil => rfl
  | cons x l il => rw [List.foldl_cons, show hnStep K most f a s x = s by unfold hnStep; rw [if_pos h]]; exact il
theorem hn_mono (K : List Nat → Bool) (most : Nat) : ∀ (d : Nat) (a : List Nat) (s : HS), s.1.length ≤ (hnS K most d a s).1.length := by
  intro d
  induction d with
  | zero => intro a s; exact Nat.le_refl _
  | succ d ih =>
    intro a s
    show s.1.length ≤ ((List.range (blks 0 a + 1)).foldl (hnStep K most (hnS K most d) a) s).1.length
    generalize List.range (blks 0 a + 1) = l
    induction l generalizing s with
    | nil => exact Nat.le_refl _
    | cons c l il =>
      rw [List.foldl_cons]
      refine Nat.le_trans ?_ (il _)
      unfold hnStep
      split
      · exact Nat.le_refl _
      · split
        · refine Nat.le_trans ?_ (ih _ _); simp
        · simp
theorem hn_fold_mono (K : List Nat → Bool) (most d : Nat) (a : List Nat) : ∀ (l : List Nat) (s : HS), s.1.length ≤ (l.foldl (hnStep K most (hnS K most d) a) s).1.length
  | [], _ => Nat.le_refl _
  | c :: l, s => by
    rw [List.foldl_cons]
    refine Nat.le_trans ?_ (hn_fold_mono K most d a l _)
    unfold hnStep
    split
    · exact Nat.le_refl _
    · split
      · refine Nat.le_trans ?_ (hn_mono K most d _ _); simp
      · simp
theorem hn_ask {K : List Nat → Bool} {most d : Nat} {a : List Nat} {s : HS} {m c : Nat} (hc : c ≤ blks 0 a) (hp : ((List.range (blks 0 a + 1)).foldl (hnStep K most (hnS K most d) a) s).1.length ≤ m) : (hnStep K most (hnS K most d) a ((List.range c).foldl (hnStep K most (hnS K most d) a) s) c).1.length ≤ m := by
  obtain ⟨k, hk⟩ : ∃ k, blks 0 a + 1 = (c + 1) + k := ⟨blks 0 a - c, by omega⟩
  rw [hk, List.range_add, List.foldl_append, List.range_succ, List.foldl_append] at hp
  exact Nat.le_trans (hn_fold_mono K most d a _ _) hp
/-- So many are asked at most. -/
def cntB : Nat → Nat → Nat
  | 0, _ => 0
  | d + 1, b => (b + 1) + b * cntB d b + cntB d (b + 1)
theorem hn_len (K : List Nat → Bool) (most : Nat) : ∀ (d : Nat) (a : List Nat) (s : HS), (hnS K most d a s).1.length ≤ s.1.length + cntB d (blks 0 a) := by
  intro d
  induction d with
  | zero => intro a s; exact Nat.le_refl _
  | succ d ih =>
    intro a s
    have one : ∀ (c : Nat) (s : HS), (hnStep K most (hnS K most d) a s c).1.length ≤ s.1.length + 1 + cntB d (max (blks 0 a) (c + 1)) := fun c s => by
      unfold hnStep
      split
      · omega
      · split
        · have := ih (a ++ [c]) (s.1 ++ [a ++ [c]], s.2)
          rw [show blks 0 (a ++ [c]) = max (blks 0 a) (c + 1) by simp [blks]] at this
          simp at this ⊢
          omega
        · simp only [List.length_append, List.length_singleton]; omega
    have low : ∀ (m : Nat), m ≤ blks 0 a → ∀ s : HS, ((List.range m).foldl (hnStep K most (hnS K most d) a) s).1.length ≤ s.1.length + m * (1 + cntB d (blks 0 a)) := fun m => by
      induction m with
      | zero => intro _ s; simp
      | succ m im =>
        intro hm s
        rw [List.range_succ, List.foldl_append]
        have h1 := im (by omega) s
        have h2 := one m ((List.range m).foldl (hnStep K most (hnS K most d) a) s)
        rw [show max (blks 0 a) (m + 1) = blks 0 a by omega] at h2
        rw [Nat.add_mul]
        simp only [List.foldl_cons, List.foldl_nil]
        omega
    show ((List.range (blks 0 a + 1)).foldl (hnStep K most (hnS K most d) a) s).1.length ≤ _
    rw [List.range_succ, List.foldl_append]
    have h1 := low (blks 0 a) (Nat.le_refl _) s
    have h2 := one (blks 0 a) ((List.range (blks 0 a)).foldl (hnStep K most (hnS K most d) a) s)
    rw [show max (blks 0 a) (blks 0 a + 1) = blks 0 a + 1 by omega] at h2
    simp only [List.foldl_cons, List.foldl_nil]
    rw [cntB]
    rw [Nat.mul_add, Nat.mul_one] at h1
    omega
theorem blks_snocH (a : List Nat) (b : Nat) : blks 0 (a ++ [b]) = max (blks 0 a) (b + 1) := by simp [blks]
theorem leg_snocH {a : List Nat} {b : Nat} (h : Leg 0 a) (hb : b ≤ blks 0 a) : Leg 0 (a ++ [b]) := Leg.app.2 ⟨h, hb, trivial⟩
theorem ints_snocH (a : List Nat) (b : Nat) : ints (a ++ [b]) = ints a ++ [(b : Int)] := by simp [ints]
theorem fold_stopH {f : HS → Nat → HS} {s : HS} {c m : Nat} (hc : c ≤ m) (h : ∀ l : List Nat, l.foldl f ((List.range c).foldl f s) = (List.range c).foldl f s) : (List.range m).foldl f s = (List.range c).foldl f s := by
  obtain ⟨k, rfl⟩ : ∃ k, m = c + k := ⟨m - c, by omega⟩
  rw [List.range_add, List.foldl_append]
  exact h _
end Go.Proofs.YtlijlelejobchaaGreatDoor
namespace Go.Proofs.YtlijlelejobchaaGreatDoor
open Go.RowKit
def keptV (a : Nat) : Value := .func (.func 81) #[] #[.pointer (some ⟨a + 2, 0, none⟩), .pointer (some ⟨a + 4, 0, none⟩)]
def fillV (a : Nat) : Value := .func (.func 82) #[] #[.pointer (some ⟨a, 0, none⟩), .pointer (some ⟨a + 5, 0, none⟩), .pointer (some ⟨a + 4, 0, none⟩), .pointer (some ⟨a + 1, 0, none⟩), .pointer (some ⟨a + 6, 0, none⟩), .pointer (some ⟨a + 7, 0, none⟩)]
/-- What the search holds: its boxes, the row, what it has told; how often the law was asked. -/
structure Sx (W : World) (kv : Value) (a n most : Nat) (tag : Nat → Nat) (ov : Value) (vs : List Value) (xs : List Int) (fl : List (List Nat)) : Prop where
  bn : W.heap[a]? = some (.cells #[.int .i64 (n : Int)] 3 (0, 0))
  bm : W.heap[a + 1]? = some (.cells #[.int .i64 (most : Int)] 3 (0, 0))
  bk : W.heap[a + 2]? = some (.cells #[kv] 87 (0, 0))
  br : W.heap[a + 4]? = some (.cells #[.slice (some ⟨a + 3, 0, none⟩) n n] 23 (0, 0))
  bt : W.heap[a + 5]? = some (.cells #[ov] 33 (0, 0))
  bf : W.heap[a + 6]? = some (.cells #[keptV a] 77 (0, 0))
  bg : W.heap[a + 7]? = some (.cells #[fillV a] 114 (0, 0))
  row : W.ownsRow 0 3 1 (.slice (some ⟨a + 3, 0, none⟩) n n) n (cellsI xs)
  told : K.Fam W tag 2 (fun _ => 4) ov fl.length vs (rowsOfH fl)
  low : ∀ g, g < a + 8 → tag g = 0
  fresh : ∀ g, W.heap.size ≤ g → tag g = 0
section
variable {W W' : World} {kv : Value} {a n most : Nat} {tag tag' : Nat → Nat} {ov : Value} {vs : List Value} {xs : List Int} {fl : List (List Nat)}
theorem Sx.lt (h : Sx W kv a n most tag ov vs xs fl) : a + 7 < W.heap.size := (Array.getElem?_eq_some_iff.1 h.bg).1
/-- What lies ahead may have been turned. -/
theorem Sx.up (h : Sx W kv a n most tag ov vs xs fl) (hos : W'.os = W.os) (htp : W'.tape = W.tape) (hou : W'.output = W.output) (hsz : W.heap.size ≤ W'.heap.size) (ne : ∀ g, a ≤ g → g < W.heap.size → W'.heap[g]? = W.heap[g]?) : Sx W' kv a n most tag ov vs xs fl := by
  have hlt := h.lt
  have st : K.Sm (· = 0) tag W W' := ⟨hos, htp, hou, hsz, fun g h1 h2 => ne g (by
    rcases Nat.lt_or_ge g a with e | e
    · exact absurd (h.low g (by omega)) h2
    · exact e) h1⟩
  refine ⟨(ne _ (by omega) (by omega)).trans h.bn, (ne _ (by omega) (by omega)).trans h.bm, (ne _ (by omega) (by omega)).trans h.bk, (ne _ (by omega) (by omega)).trans h.br, (ne _ (by omega) (by omega)).trans h.bt, (ne _ (by omega) (by omega)).trans h.bf, (ne _ (by omega) (by omega)).trans h.bg, K.owns_same h.row fun g hg e => ?_, h.told.mv st (by decide) (fun _ _ => by decide), h.low, fun g hg => h.fresh g (Nat.le_trans hsz hg)⟩
  have : g = a + 3 := by simpa [Value.ownBlock] using e.symm
  exact ne g (by omega) hg
theorem Sx.below (h : Sx W kv a n most tag ov vs xs fl) (hb : Below W.heap.size W W') : Sx W' kv a n most tag ov vs xs fl := h.up hb.os hb.tape hb.output hb.size (fun g _ h2 => hb.block g h2)
/-- A place of the row is written. -/
theorem Sx.put (h : Sx W kv a n most tag ov vs xs fl) (i : Nat) (z : Int) : Sx (W.setCell ⟨a + 3, i, none⟩ (.int .i64 z)) kv a n most tag ov vs (xs.set i z) fl := by
  have hlt := h.lt
  have s1 : K.Sm (· = a + 3) id W (W.setCell ⟨a + 3, i, none⟩ (.int .i64 z)) := K.Sm.setCell _ rfl
  have st : K.Sm (· = 0) tag W (W.setCell ⟨a + 3, i, none⟩ (.int .i64 z)) := K.Sm.setCell _ (h.low (a + 3) (by omega))
  have ne : ∀ g, g ≠ a + 3 → g < W.heap.size → (W.setCell ⟨a + 3, i, none⟩ (.int .i64 z)).heap[g]? = W.heap[g]? := fun g h1 h2 => s1.block g h2 h1
  refine ⟨(ne _ (by omega) (by omega)).trans h.bn, (ne _ (by omega) (by omega)).trans h.bm, (ne _ (by omega) (by omega)).trans h.bk, (ne _ (by omega) (by omega)).trans h.br, (ne _ (by omega) (by omega)).trans h.bt, (ne _ (by omega) (by omega)).trans h.bf, (ne _ (by omega) (by omega)).trans h.bg, ?_, h.told.mv st (by decide) (fun _ _ => by decide), h.low, fun g hg => h.fresh g (Nat.le_trans s1.size hg)⟩
  · have h2 := (h.row.stored i (.int .i64 z)).1
    have e3 : cellsI (xs.set i z) = (cellsI xs).set i (.int .i64 z) := by unfold cellsI; rw [List.map_set]
    rw [e3]; exact h2
/-- A copy of the row is told. -/
theorem Sx.tell {w4 w5 : World} {u : Value} {l : List Nat} {g5 cap5 : Nat} {o5 : Obj} (h : Sx W kv a n most tag ov vs xs fl) (hB : Below W.heap.size W w4)
    (hu : w4.ownsRow W.heap.size 3 1 u l.length (cellsI (ints l)))
    (hnew : w5.ownsRow 0 23 1 (.slice (some ⟨g5, 0, none⟩) (fl.length + 1) cap5) (fl.length + 1) (vs ++ [u])) (hold : w5.ownsRow 0 23 1 ov fl.length vs)
    (hat : (ov = .slice (some ⟨g5, 0, none⟩) fl.length cap5 ∧ (w4.alloc o5).grownBy w5 (some g5)) ∨ (g5 = (w4.alloc o5).heap.size ∧ (w4.alloc o5).grownBy w5 none)) :
    ∃ tag', Sx (w5.setCell ⟨a + 5, 0, none⟩ (.slice (some ⟨g5, 0, none⟩) (fl.length + 1) cap5)) kv a n most tag' (.slice (some ⟨g5, 0, none⟩) (fl.length + 1) cap5) (vs ++ [u]) xs (fl ++ [l]) ∧ Below a W (w5.setCell ⟨a + 5, 0, none⟩ (.slice (some ⟨g5, 0, none⟩) (fl.length + 1) cap5)) := by
  have hlt := h.lt
  generalize hW : w4.alloc o5 = Wx at hat
  have hz : Wx.heap.size = w4.heap.size + 1 := by rw [← hW]; simp
  have hBs := hB.size
  have S2 : ∀ X, K.Sm X tag W Wx := fun X => by rw [← hW]; exact (K.Sm.below hB).trans (K.Sm.alloc o5) (fun _ _ => rfl)
  have hul : ∀ g, u.ownBlock = some g → W.heap.size ≤ g ∧ g < w4.heap.size := fun g e => hu.lt g e
  have hg5 : tag g5 = 2 ∨ w4.heap.size < g5 := by
    rcases hat with ⟨e, hg⟩ | ⟨e, hg⟩
    · exact .inl (h.told.otag g5 (by rw [e]; rfl))
    · exact .inr (by omega)
  have S3 : K.Sm (· = 2) tag Wx w5 := by
    rcases hat with ⟨e, hg⟩ | ⟨_, hg⟩
    · exact K.Sm.grown hg fun g eg => by cases eg; exact h.told.otag g5 (by rw [e]; rfl)
    · exact K.Sm.grown hg fun g eg => by cases eg
  have hg5lt : g5 < w5.heap.size := K.owns_lt hnew rfl
  have hlow : w4.ownsRow 0 3 1 u l.length (cellsI (ints l)) := ⟨hu.1, by
    rcases hu.2 with hn | ⟨g, cap, cur, e, h1, rest⟩
    · exact .inl hn
    · exact .inr ⟨g, cap, cur, e, Nat.zero_le _, rest⟩⟩
  have huW : Wx.ownsRow 0 3 1 u l.length (cellsI (ints l)) := by rw [← hW]; exact hlow.alloc o5
  have hu5 : w5.ownsRow 0 3 1 u (rowsOfH (fl ++ [l]) fl.length).length (K.cellsI (rowsOfH (fl ++ [l]) fl.length)) := by
    rw [rowsOfH_new, ints_len]
    exact K.owns_same huW fun g hg e => S3.block g hg (by show ¬ tag g = 2; rw [h.fresh g (hul g e).1]; decide)
  let tag' : Nat → Nat := fun g => if u.ownBlock = some g then 4 else if g = g5 then 2 else tag g
  have ht : ∀ g, tag g ≠ 0 → tag' g = tag g := fun g hne => by
    show (if u.ownBlock = some g then 4 else if g = g5 then 2 else tag g) = tag g
    rw [if_neg (fun e => hne (h.fresh g (hul g e).1))]
    by_cases e : g = g5
    · subst e
      rw [if_pos rfl]
      rcases hg5 with h2 | h2
      · exact h2.symm
      · exact absurd (h.fresh g (by omega)) hne
    · rw [if_neg e]
  have hv2t : tag' g5 = 2 := by
    show (if u.ownBlock = some g5 then 4 else if g5 = g5 then 2 else tag g5) = 2
    rw [if_neg (fun e => ?_), if_pos rfl]
    rcases hg5 with h2 | h2
    · rw [h.fresh g5 (hul g5 e).1] at h2; cases h2
    · have := (hul g5 e).2; omega
  have e00 : ∀ g, g < a + 8 → tag' g = 0 := fun g hg => by
    have h0 := h.low g hg
    show (if u.ownBlock = some g then 4 else if g = g5 then 2 else tag g) = 0
    rw [if_neg (fun e => by have := (hul g e).1; omega), if_neg (fun e => ?_)]
    · exact h0
    · subst e
      rcases hg5 with h2 | h2
      · rw [h0] at h2; cases h2
      · omega
  have L2 : K.Fam w5 tag' 2 (fun _ => 4) ov fl.length vs (rowsOfH (fl ++ [l])) :=
    (((h.told.mv (S2 (fun _ => False)) (fun h => h) (fun _ _ h => h)).outH S3 hold (fun _ _ => by decide)).tagsH ht (by decide) (fun _ => by decide)).congr fun j hj => rowsOfH_lt fl l hj
  have L3 := L2.push hnew (fun g e => by cases e; exact hv2t) hu5 (fun g e => if_pos e)
  have S4 : K.Sm (· = 0) tag' w5 (w5.setCell ⟨a + 5, 0, none⟩ (.slice (some ⟨g5, 0, none⟩) (fl.length + 1) cap5)) := K.Sm.setCell _ (e00 (a + 5) (by omega))
  have S5 : K.Sm (· = a + 5) id w5 (w5.setCell ⟨a + 5, 0, none⟩ (.slice (some ⟨g5, 0, none⟩) (fl.length + 1) cap5)) := K.Sm.setCell _ rfl
  have h3s := S3.size
  have b5 : ∀ g, g < a + 8 → w5.heap[g]? = W.heap[g]? := fun g hg => (S3.block g (by omega) (by rw [h.low g hg]; decide)).trans ((S2 (fun _ => False)).block g (by omega) (fun h => h))
  have ne : ∀ g, g < a + 8 → g ≠ a + 5 → (w5.setCell ⟨a + 5, 0, none⟩ (.slice (some ⟨g5, 0, none⟩) (fl.length + 1) cap5)).heap[g]? = W.heap[g]? := fun g hg h1 => (S5.block g (by omega) h1).trans (b5 g hg)
  have hb5 : w5.heap[a + 5]? = some (.cells #[ov] 33 (0, 0)) := (b5 _ (by omega)).trans h.bt
  refine ⟨tag', ⟨(ne _ (by omega) (by omega)).trans h.bn, (ne _ (by omega) (by omega)).trans h.bm, (ne _ (by omega) (by omega)).trans h.bk, (ne _ (by omega) (by omega)).trans h.br, ?_, (ne _ (by omega) (by omega)).trans h.bf, (ne _ (by omega) (by omega)).trans h.bg, K.owns_same h.row fun g _ e => ?_, ?_, e00, fun g hg => ?_⟩, ⟨?_, ?_, ?_, ?_, fun g hg => ne g (by omega) (by omega)⟩⟩
  · have := heap_setCell_same w5 (a + 5) 0 _ _ (.slice (some ⟨g5, 0, none⟩) (fl.length + 1) cap5) hb5; simpa using this
  · have : g = a + 3 := by simpa [Value.ownBlock] using e.symm
    subst this
    exact ne _ (by omega) (by omega)
  · have := L3.mv S4 (by decide) (fun _ _ => by decide)
    simpa using this
  · rw [show (w5.setCell ⟨a + 5, 0, none⟩ (.slice (some ⟨g5, 0, none⟩) (fl.length + 1) cap5)).heap.size = w5.heap.size by simp [World.setCell]] at hg
    show (if u.ownBlock = some g then 4 else if g = g5 then 2 else tag g) = 0
    rw [if_neg (fun e => by have := (hul g e).2; omega), if_neg (by omega)]
    exact h.fresh g (by omega)
  · rw [S5.os, S3.os, (S2 (fun _ => False)).os]
  · rw [S5.tape, S3.tape, (S2 (fun _ => False)).tape]
  · rw [S5.output, S3.output, (S2 (fun _ => False)).output]
  · have h2 := S5.size; omega
theorem Sx.low5 {w4 w5 : World} {g5 cap5 : Nat} {o5 : Obj} (h : Sx W kv a n most tag ov vs xs fl) (hB : Below W.heap.size W w4)
    (hat : (ov = .slice (some ⟨g5, 0, none⟩) fl.length cap5 ∧ (w4.alloc o5).grownBy w5 (some g5)) ∨ (g5 = (w4.alloc o5).heap.size ∧ (w4.alloc o5).grownBy w5 none)) : ∀ g, g < a + 8 → w5.heap[g]? = W.heap[g]? := fun g hg => by
  have hlt := h.lt
  have hBs := hB.size
  have S2 : K.Sm (· = 2) tag W (w4.alloc o5) := (K.Sm.below hB).trans (K.Sm.alloc o5) (fun _ _ => rfl)
  have S3 : K.Sm (· = 2) tag (w4.alloc o5) w5 := by
    rcases hat with ⟨e, hg⟩ | ⟨_, hg⟩
    · exact K.Sm.grown hg fun g eg => by cases eg; exact h.told.otag g5 (by rw [e]; rfl)
    · exact K.Sm.grown hg fun g eg => by cases eg
  have hs : (w4.alloc o5).heap.size = w4.heap.size + 1 := by simp
  exact (S3.block g (by omega) (by rw [h.low g hg]; decide)).trans (S2.block g (by omega) (by rw [h.low g hg]; decide))
end
/-- What the search holds, its row beginning so. -/
def Sk (G : List Nat → HS → World → Prop) (W : World) (kv : Value) (a n most : Nat) (p : List Nat) (s : HS) : Prop := ∃ tag ov vs xs, Sx W kv a n most tag ov vs xs s.2 ∧ xs.take p.length = ints p ∧ G p s W
set_option maxRecDepth 100000 in
set_option maxHeartbeats 2000000 in
theorem fillEnd (G : List Nat → HS → World → Prop) (kv : Value) (a n most : Nat) (hG : ∀ (p : List Nat) (s : HS) (W W' : World), G p s W → Below a W W' → G p s W') (hF : ∀ (p : List Nat) (s : HS) (W : World), p.length = n → s.2.length < most → G p s W → G p (s.1, s.2 ++ [p]) W) (hn : n ≤ 12) (hmo : most ≤ 65536) (bl : Int) (p : List Nat) (hp : p.length = n) (W : World) (s : HS) (hk : s.2.length < most) (h0 : Sk G W kv a n most p s) :
    Calls Tryz.prog 82 #[.int .i64 (n : Int), .int .i64 bl, .pointer (some ⟨a, 0, none⟩), .pointer (some ⟨a + 5, 0, none⟩), .pointer (some ⟨a + 4, 0, none⟩), .pointer (some ⟨a + 1, 0, none⟩), .pointer (some ⟨a + 6, 0, none⟩), .pointer (some ⟨a + 7, 0, none⟩)] W fun e w' => e = .returned (.tuple #[]) ∧ Hid (Sk G w' kv a n most p (s.1, s.2 ++ [p])) := by
  obtain ⟨tag, ov, vs, xs, h, htk, hgs⟩ := h0
  obtain ⟨s1, s2⟩ := s
  replace h : Sx W kv a n most tag ov vs xs s2 := h
  replace hk : s2.length < most := hk
  have hgs' : Hid (G p (s1, s2 ++ [p]) W) := hF p (s1, s2) W hp hk hgs
  clear hF
  clear hgs
  obtain ⟨iL, hiL, hzL0, hzL1, hzL2⟩ := info_parts K.infoL
  have hrow := h.row
  have hxl : xs.length = n := by have := hrow.1; simp [cellsI] at this; omega
  obtain rfl : xs = ints p := by rw [← htk, List.take_of_length_le (by omega)]
  have hlt := h.lt
  have cn := cell_blkH h.bn
  have cr := cell_blkH h.br
  have ct := cell_blkH h.bt
  have hI : RowI W (.slice (some ⟨a + 3, 0, none⟩) n n) (ints p) := by
    have h1 := hrow
    rw [← hxl] at h1
    have := RowI.of_owns h1
    rwa [hxl] at this
  have hC : Hid (∀ V, Below W.heap.size W V → V.cell? ⟨a + 4, 0, none⟩ = some (.slice (some ⟨a + 3, 0, none⟩) n n)) := fun V hV => cell_blkH (h.below hV).br
  have hT : Hid (∀ V, Below W.heap.size W V → V.cell? ⟨a + 5, 0, none⟩ = some ov) := fun V hV => cell_blkH (h.below hV).bt
  have hd : Hid (Below W.heap.size W W.drew) := (Below.refl _ _).drew
  have KC : Hid (Calls Tryz.prog 38 #[.slice (some ⟨a + 3, 0, none⟩) n n] W.drew fun e w' => ∃ ou cu, e = .returned (.slice ou n cu) ∧ Hid (w'.ownsRow W.heap.size 3 1 (.slice ou n cu) p.length (cellsI (ints p))) ∧ Below W.drew.heap.size W.drew w') := by
    refine (clone (ints p) _ W.drew (hI.below hd.out (Nat.le_refl _)) (by omega)).mono ?_
    rintro e w' ⟨v', rfl, e2, e3⟩
    obtain ⟨ou, cu, rfl⟩ := K.own_shapeH e2
    refine ⟨ou, cu, by rw [hxl], ?_, e3⟩
    rw [hxl] at e2
    rw [hp]
    exact e2
  have hct := hT.out _ hd.out
  have h' := hide' h
  have htk' := hide' htk
  have hp' := hide' hp
  obtain ⟨og, cg, rfl⟩ := K.own_shapeH h.told.outer
  clear h hrow hI htk hp hxl
  generalize hk2 : s2.length = k at *
  have hk2' := hide' hk2
  clear hk2
  go_enter Tryz.func82, Tryz.ntmps82
  go_wp2
  refine wp_region_held_drew (S := (fun _ => True)) (by kernel_rfl) ?_ (fun hHeld => ?_)
  · trivial
  refine wpAnyH_ready (rs := [0, 1]) (by kernel_rfl) (by simp) ?_
  refine AllReadyH.cons (o := { dst := some 14, op := Op.load 33 (Operand.tmp 3), type := 33, pos := "search.go:24", after := #[], guard := none }) rfl (fun K hK => ?_) ?_
  · skip
    go_simp
    refine hK.out _ _ ?_ (fun hHeld => ?_)
    · trivial
    clear hK K
    try simp only [Act.put, List.setIfInBounds_toArray, List.set_cons_zero, List.set_cons_succ]
    refine wpAnyH_ready (rs := [1]) (by kernel_rfl) (by simp) ?_
    refine AllReadyH.cons (o := { dst := some 15, op := Op.load 23 (Operand.tmp 4), type := 23, pos := "search.go:24", after := #[], guard := none }) rfl (fun K hK => ?_) AllReadyH.nil
    go_simp
    refine hK.out _ _ ?_ (fun hHeld => ?_)
    · trivial
    clear hK K
    try simp only [Act.put, List.setIfInBounds_toArray, List.set_cons_zero, List.set_cons_succ]
    refine wpAnyH_ready (rs := [2]) (by kernel_rfl) (by simp) ?_
    refine AllReadyH.cons (o := { dst := some 16, op := Op.call { callee := Callee.value (Operand.func 38), args := #[Operand.tmp 15], argTypes := #[23] }, type := 23, pos := "search.go:24", after := #[{ on := 1, ground := Ground.data }], guard := none }) rfl (fun K hK => ?_) AllReadyH.nil
    go_simp
    refine KC.out.mono ?_; rintro e w4 ⟨ou, cu, rfl, hu4, hb⟩; have hb4 := hide' (hd.out.trans hb); have ct4 := hT.out _ hb4.out; have hb5 : Hid (Below W.heap.size W (w4.alloc (.cells #[.slice ou n cu] 23))) := hb4.out.alloc hb4.out.size _; have ct5 := hT.out _ hb5.out; have hO5 : Hid ((w4.alloc (.cells #[.slice ou n cu] 23)).ownsRow 0 23 1 (.slice og k cg) k vs) := (by have h1 := (h'.out.below hb4.out).told.outer.alloc (.cells #[.slice ou n cu] 23); simp only [hk2'.out] at h1; exact h1); have hz4 := hb4.out.size; clear hb; (try dsimp only)
    refine hK.out _ _ ?_ (fun hHeld => ?_)
    · trivial
    clear hK K
    try simp only [Act.put, List.setIfInBounds_toArray, List.set_cons_zero, List.set_cons_succ]
    refine wpAnyH_ready (rs := [3]) (by kernel_rfl) (by simp) ?_
    refine AllReadyH.cons (o := { dst := some 17, op := Op.buildSlice 33 1 #[(0, Operand.tmp 16)], type := 33, pos := "search.go:24", after := #[{ on := 2, ground := Ground.data }], guard := none }) rfl (fun K hK => ?_) AllReadyH.nil
    go_simp
    refine hK.out _ _ ?_ (fun hHeld => ?_)
    · trivial
    clear hK K
    try simp only [Act.put, List.setIfInBounds_toArray, List.set_cons_zero, List.set_cons_succ]
    refine wpAnyH_ready (rs := [4]) (by kernel_rfl) (by simp) ?_
    refine AllReadyH.cons (o := { dst := some 18, op := Op.call { callee := Callee.builtin Builtin.append, args := #[Operand.tmp 14, Operand.tmp 17], argTypes := #[33, 33] }, type := 33, pos := "search.go:24", after := #[{ on := 0, ground := Ground.data }, { on := 3, ground := Ground.data }, { on := 2, ground := Ground.chain }], guard := none }) rfl (fun K hK => ?_) AllReadyH.nil
    rw [if_pos (by rfl)]
    refine _root_.Go.Proofs.YtlijlelejobchaaGreatDoor.K.wp_append_two _ (.tmp 14) (.tmp 17) 33 rfl 0 23 iL (.slice none 0 0) 1 24 Tryz.underlying33 hiL hzL0 hzL1 hzL2 rfl (by decide) (.slice og k cg) k vs rfl hO5.out ⟨w4.heap.size, 0, none⟩ 1 1 [.slice ou n cu] rfl rfl (cell_one_new _ _ _) (by simp [Value.oneCell']) (by decide) (by unfold maxLen; omega) (by omega) (Nat.zero_le _) ?_; intro g5 cap5 w5 hnew5 hold5 hat5; have hl5 := h'.out.low5 (fl := s2) (g5 := g5) (cap5 := cap5) hb4.out (by simp only [hk2'.out]; exact hat5); have hbt5 := (hl5 (a + 5) (by omega)).trans h'.out.bt; have ct6 := cell_blkH hbt5; have fz6 := frozen_of_row w5 (a + 5) 0 _ _ hbt5; have hN : Hid (∃ tag', Sx (w5.setCell ⟨a + 5, 0, none⟩ (.slice (some ⟨g5, 0, none⟩) (k + 1) cap5)) kv a n most tag' (.slice (some ⟨g5, 0, none⟩) (k + 1) cap5) (vs ++ [.slice ou n cu]) (ints p) (s2 ++ [p]) ∧ Below a W (w5.setCell ⟨a + 5, 0, none⟩ (.slice (some ⟨g5, 0, none⟩) (k + 1) cap5))) := (by have h1 := h'.out.tell (fl := s2) (g5 := g5) (cap5 := cap5) hb4.out hu4.out (by simp only [hk2'.out]; exact hnew5) (by simp only [hk2'.out]; exact hold5) (by simp only [hk2'.out]; exact hat5); simp only [hk2'.out] at h1; exact h1); clear hl5 hbt5 hnew5 hold5 hat5; (try dsimp only)
    refine hK.out _ _ ?_ (fun hHeld => ?_)
    · trivial
    clear hK K
    try simp only [Act.put, List.setIfInBounds_toArray, List.set_cons_zero, List.set_cons_succ]
    refine wpAnyH_ready (rs := [5]) (by kernel_rfl) (by simp) ?_
    refine AllReadyH.cons (o := { dst := none, op := Op.store 33 (Operand.tmp 3) (Operand.tmp 18), type := 0, pos := "search.go:24", after := #[{ on := 4, ground := Ground.data }, { on := 4, ground := Ground.chain }, { on := 0, ground := Ground.phase }, { on := 1, ground := Ground.phase }, { on := 2, ground := Ground.phase }, { on := 3, ground := Ground.phase }, { on := 4, ground := Ground.phase }], guard := none }) rfl (fun K hK => ?_) AllReadyH.nil
    go_simp
    refine hK.out _ _ ?_ (fun hHeld => ?_)
    · trivial
    clear hK K
    try simp only [Act.put, List.setIfInBounds_toArray, List.set_cons_zero, List.set_cons_succ]
    refine wpAnyH_done (by kernel_rfl) ?_ _
    skip
    obtain ⟨tag5, hS5, hB5⟩ := hN.out
    have hS5' : Hid (Sk G _ kv a n most p (s1, s2 ++ [p])) := ⟨tag5, _, _, _, hS5, htk'.out, hG _ _ _ _ hgs'.out hB5⟩
    clear hS5 hN hB5
    go_wp2
    first | go_end0 | refine bodyPost_ret (results_none rfl _ _ _) rfl ?_
    exact ⟨rfl, hS5'⟩
  refine AllReadyH.cons (o := { dst := some 15, op := Op.load 23 (Operand.tmp 4), type := 23, pos := "search.go:24", after := #[], guard := none }) rfl (fun K hK => ?_) AllReadyH.nil
  go_simp
  refine hK.out _ _ ?_ (fun hHeld => ?_)
  · trivial
  clear hK K
  try simp only [Act.put, List.setIfInBounds_toArray, List.set_cons_zero, List.set_cons_succ]
  refine wpAnyH_ready (rs := [0, 2]) (by kernel_rfl) (by simp) ?_
  refine AllReadyH.cons (o := { dst := some 14, op := Op.load 33 (Operand.tmp 3), type := 33, pos := "search.go:24", after := #[], guard := none }) rfl (fun K hK => ?_) ?_
  · skip
    go_simp
    refine hK.out _ _ ?_ (fun hHeld => ?_)
    · trivial
    clear hK K
    try simp only [Act.put, List.setIfInBounds_toArray, List.set_cons_zero, List.set_cons_succ]
    refine wpAnyH_ready (rs := [2]) (by kernel_rfl) (by simp) ?_
    refine AllReadyH.cons (o := { dst := some 16, op := Op.call { callee := Callee.value (Operand.func 38), args := #[Operand.tmp 15], argTypes := #[23] }, type := 23, pos := "search.go:24", after := #[{ on := 1, ground := Ground.data }], guard := none }) rfl (fun K hK => ?_) AllReadyH.nil
    go_simp
    refine KC.out.mono ?_; rintro e w4 ⟨ou, cu, rfl, hu4, hb⟩; have hb4 := hide' (hd.out.trans hb); have ct4 := hT.out _ hb4.out; have hb5 : Hid (Below W.heap.size W (w4.alloc (.cells #[.slice ou n cu] 23))) := hb4.out.alloc hb4.out.size _; have ct5 := hT.out _ hb5.out; have hO5 : Hid ((w4.alloc (.cells #[.slice ou n cu] 23)).ownsRow 0 23 1 (.slice og k cg) k vs) := (by have h1 := (h'.out.below hb4.out).told.outer.alloc (.cells #[.slice ou n cu] 23); simp only [hk2'.out] at h1; exact h1); have hz4 := hb4.out.size; clear hb; (try dsimp only)
    refine hK.out _ _ ?_ (fun hHeld => ?_)
    · trivial
    clear hK K
    try simp only [Act.put, List.setIfInBounds_toArray, List.set_cons_zero, List.set_cons_succ]
    refine wpAnyH_ready (rs := [3]) (by kernel_rfl) (by simp) ?_
    refine AllReadyH.cons (o := { dst := some 17, op := Op.buildSlice 33 1 #[(0, Operand.tmp 16)], type := 33, pos := "search.go:24", after := #[{ on := 2, ground := Ground.data }], guard := none }) rfl (fun K hK => ?_) AllReadyH.nil
    go_simp
    refine hK.out _ _ ?_ (fun hHeld => ?_)
    · trivial
    clear hK K
    try simp only [Act.put, List.setIfInBounds_toArray, List.set_cons_zero, List.set_cons_succ]
    refine wpAnyH_ready (rs := [4]) (by kernel_rfl) (by simp) ?_
    refine AllReadyH.cons (o := { dst := some 18, op := Op.call { callee := Callee.builtin Builtin.append, args := #[Operand.tmp 14, Operand.tmp 17], argTypes := #[33, 33] }, type := 33, pos := "search.go:24", after := #[{ on := 0, ground := Ground.data }, { on := 3, ground := Ground.data }, { on := 2, ground := Ground.chain }], guard := none }) rfl (fun K hK => ?_) AllReadyH.nil
    rw [if_pos (by rfl)]
    refine _root_.Go.Proofs.YtlijlelejobchaaGreatDoor.K.wp_append_two _ (.tmp 14) (.tmp 17) 33 rfl 0 23 iL (.slice none 0 0) 1 24 Tryz.underlying33 hiL hzL0 hzL1 hzL2 rfl (by decide) (.slice og k cg) k vs rfl hO5.out ⟨w4.heap.size, 0, none⟩ 1 1 [.slice ou n cu] rfl rfl (cell_one_new _ _ _) (by simp [Value.oneCell']) (by decide) (by unfold maxLen; omega) (by omega) (Nat.zero_le _) ?_; intro g5 cap5 w5 hnew5 hold5 hat5; have hl5 := h'.out.low5 (fl := s2) (g5 := g5) (cap5 := cap5) hb4.out (by simp only [hk2'.out]; exact hat5); have hbt5 := (hl5 (a + 5) (by omega)).trans h'.out.bt; have ct6 := cell_blkH hbt5; have fz6 := frozen_of_row w5 (a + 5) 0 _ _ hbt5; have hN : Hid (∃ tag', Sx (w5.setCell ⟨a + 5, 0, none⟩ (.slice (some ⟨g5, 0, none⟩) (k + 1) cap5)) kv a n most tag' (.slice (some ⟨g5, 0, none⟩) (k + 1) cap5) (vs ++ [.slice ou n cu]) (ints p) (s2 ++ [p]) ∧ Below a W (w5.setCell ⟨a + 5, 0, none⟩ (.slice (some ⟨g5, 0, none⟩) (k + 1) cap5))) := (by have h1 := h'.out.tell (fl := s2) (g5 := g5) (cap5 := cap5) hb4.out hu4.out (by simp only [hk2'.out]; exact hnew5) (by simp only [hk2'.out]; exact hold5) (by simp only [hk2'.out]; exact hat5); simp only [hk2'.out] at h1; exact h1); clear hl5 hbt5 hnew5 hold5 hat5; (try dsimp only)
    refine hK.out _ _ ?_ (fun hHeld => ?_)
    · trivial
    clear hK K
    try simp only [Act.put, List.setIfInBounds_toArray, List.set_cons_zero, List.set_cons_succ]
    refine wpAnyH_ready (rs := [5]) (by kernel_rfl) (by simp) ?_
    refine AllReadyH.cons (o := { dst := none, op := Op.store 33 (Operand.tmp 3) (Operand.tmp 18), type := 0, pos := "search.go:24", after := #[{ on := 4, ground := Ground.data }, { on := 4, ground := Ground.chain }, { on := 0, ground := Ground.phase }, { on := 1, ground := Ground.phase }, { on := 2, ground := Ground.phase }, { on := 3, ground := Ground.phase }, { on := 4, ground := Ground.phase }], guard := none }) rfl (fun K hK => ?_) AllReadyH.nil
    go_simp
    refine hK.out _ _ ?_ (fun hHeld => ?_)
    · trivial
    clear hK K
    try simp only [Act.put, List.setIfInBounds_toArray, List.set_cons_zero, List.set_cons_succ]
    refine wpAnyH_done (by kernel_rfl) ?_ _
    skip
    obtain ⟨tag5, hS5, hB5⟩ := hN.out
    have hS5' : Hid (Sk G _ kv a n most p (s1, s2 ++ [p])) := ⟨tag5, _, _, _, hS5, htk'.out, hG _ _ _ _ hgs'.out hB5⟩
    clear hS5 hN hB5
    go_wp2
    first | go_end0 | refine bodyPost_ret (results_none rfl _ _ _) rfl ?_
    exact ⟨rfl, hS5'⟩
  refine AllReadyH.cons (o := { dst := some 16, op := Op.call { callee := Callee.value (Operand.func 38), args := #[Operand.tmp 15], argTypes := #[23] }, type := 23, pos := "search.go:24", after := #[{ on := 1, ground := Ground.data }], guard := none }) rfl (fun K hK => ?_) AllReadyH.nil
  go_simp
  refine KC.out.mono ?_; rintro e w4 ⟨ou, cu, rfl, hu4, hb⟩; have hb4 := hide' (hd.out.trans hb); have ct4 := hT.out _ hb4.out; have hb5 : Hid (Below W.heap.size W (w4.alloc (.cells #[.slice ou n cu] 23))) := hb4.out.alloc hb4.out.size _; have ct5 := hT.out _ hb5.out; have hO5 : Hid ((w4.alloc (.cells #[.slice ou n cu] 23)).ownsRow 0 23 1 (.slice og k cg) k vs) := (by have h1 := (h'.out.below hb4.out).told.outer.alloc (.cells #[.slice ou n cu] 23); simp only [hk2'.out] at h1; exact h1); have hz4 := hb4.out.size; clear hb; (try dsimp only)
  refine hK.out _ _ ?_ (fun hHeld => ?_)
  · trivial
  clear hK K
  try simp only [Act.put, List.setIfInBounds_toArray, List.set_cons_zero, List.set_cons_succ]
  refine wpAnyH_ready (rs := [0, 3]) (by kernel_rfl) (by simp) ?_
  refine AllReadyH.cons (o := { dst := some 14, op := Op.load 33 (Operand.tmp 3), type := 33, pos := "search.go:24", after := #[], guard := none }) rfl (fun K hK => ?_) ?_
  · skip
    go_simp
    refine hK.out _ _ ?_ (fun hHeld => ?_)
    · trivial
    clear hK K
    try simp only [Act.put, List.setIfInBounds_toArray, List.set_cons_zero, List.set_cons_succ]
    refine wpAnyH_ready (rs := [3]) (by kernel_rfl) (by simp) ?_
    refine AllReadyH.cons (o := { dst := some 17, op := Op.buildSlice 33 1 #[(0, Operand.tmp 16)], type := 33, pos := "search.go:24", after := #[{ on := 2, ground := Ground.data }], guard := none }) rfl (fun K hK => ?_) AllReadyH.nil
    go_simp
    refine hK.out _ _ ?_ (fun hHeld => ?_)
    · trivial
    clear hK K
    try simp only [Act.put, List.setIfInBounds_toArray, List.set_cons_zero, List.set_cons_succ]
    refine wpAnyH_ready (rs := [4]) (by kernel_rfl) (by simp) ?_
    refine AllReadyH.cons (o := { dst := some 18, op := Op.call { callee := Callee.builtin Builtin.append, args := #[Operand.tmp 14, Operand.tmp 17], argTypes := #[33, 33] }, type := 33, pos := "search.go:24", after := #[{ on := 0, ground := Ground.data }, { on := 3, ground := Ground.data }, { on := 2, ground := Ground.chain }], guard := none }) rfl (fun K hK => ?_) AllReadyH.nil
    rw [if_pos (by rfl)]
    refine _root_.Go.Proofs.YtlijlelejobchaaGreatDoor.K.wp_append_two _ (.tmp 14) (.tmp 17) 33 rfl 0 23 iL (.slice none 0 0) 1 24 Tryz.underlying33 hiL hzL0 hzL1 hzL2 rfl (by decide) (.slice og k cg) k vs rfl hO5.out ⟨w4.heap.size, 0, none⟩ 1 1 [.slice ou n cu] rfl rfl (cell_one_new _ _ _) (by simp [Value.oneCell']) (by decide) (by unfold maxLen; omega) (by omega) (Nat.zero_le _) ?_; intro g5 cap5 w5 hnew5 hold5 hat5; have hl5 := h'.out.low5 (fl := s2) (g5 := g5) (cap5 := cap5) hb4.out (by simp only [hk2'.out]; exact hat5); have hbt5 := (hl5 (a + 5) (by omega)).trans h'.out.bt; have ct6 := cell_blkH hbt5; have fz6 := frozen_of_row w5 (a + 5) 0 _ _ hbt5; have hN : Hid (∃ tag', Sx (w5.setCell ⟨a + 5, 0, none⟩ (.slice (some ⟨g5, 0, none⟩) (k + 1) cap5)) kv a n most tag' (.slice (some ⟨g5, 0, none⟩) (k + 1) cap5) (vs ++ [.slice ou n cu]) (ints p) (s2 ++ [p]) ∧ Below a W (w5.setCell ⟨a + 5, 0, none⟩ (.slice (some ⟨g5, 0, none⟩) (k + 1) cap5))) := (by have h1 := h'.out.tell (fl := s2) (g5 := g5) (cap5 := cap5) hb4.out hu4.out (by simp only [hk2'.out]; exact hnew5) (by simp only [hk2'.out]; exact hold5) (by simp only [hk2'.out]; exact hat5); simp only [hk2'.out] at h1; exact h1); clear hl5 hbt5 hnew5 hold5 hat5; (try dsimp only)
    refine hK.out _ _ ?_ (fun hHeld => ?_)
    · trivial
    clear hK K
    try simp only [Act.put, List.setIfInBounds_toArray, List.set_cons_zero, List.set_cons_succ]
    refine wpAnyH_ready (rs := [5]) (by kernel_rfl) (by simp) ?_
    refine AllReadyH.cons (o := { dst := none, op := Op.store 33 (Operand.tmp 3) (Operand.tmp 18), type := 0, pos := "search.go:24", after := #[{ on := 4, ground := Ground.data }, { on := 4, ground := Ground.chain }, { on := 0, ground := Ground.phase }, { on := 1, ground := Ground.phase }, { on := 2, ground := Ground.phase }, { on := 3, ground := Ground.phase }, { on := 4, ground := Ground.phase }], guard := none }) rfl (fun K hK => ?_) AllReadyH.nil
    go_simp
    refine hK.out _ _ ?_ (fun hHeld => ?_)
    · trivial
    clear hK K
    try simp only [Act.put, List.setIfInBounds_toArray, List.set_cons_zero, List.set_cons_succ]
    refine wpAnyH_done (by kernel_rfl) ?_ _
    skip
    obtain ⟨tag5, hS5, hB5⟩ := hN.out
    have hS5' : Hid (Sk G _ kv a n most p (s1, s2 ++ [p])) := ⟨tag5, _, _, _, hS5, htk'.out, hG _ _ _ _ hgs'.out hB5⟩
    clear hS5 hN hB5
    go_wp2
    first | go_end0 | refine bodyPost_ret (results_none rfl _ _ _) rfl ?_
    exact ⟨rfl, hS5'⟩
  refine AllReadyH.cons (o := { dst := some 17, op := Op.buildSlice 33 1 #[(0, Operand.tmp 16)], type := 33, pos := "search.go:24", after := #[{ on := 2, ground := Ground.data }], guard := none }) rfl (fun K hK => ?_) AllReadyH.nil
  go_simp
  refine hK.out _ _ ?_ (fun hHeld => ?_)
  · trivial
  clear hK K
  try simp only [Act.put, List.setIfInBounds_toArray, List.set_cons_zero, List.set_cons_succ]
  refine wpAnyH_ready (rs := [0]) (by kernel_rfl) (by simp) ?_
  refine AllReadyH.cons (o := { dst := some 14, op := Op.load 33 (Operand.tmp 3), type := 33, pos := "search.go:24", after := #[], guard := none }) rfl (fun K hK => ?_) AllReadyH.nil
  go_simp
  refine hK.out _ _ ?_ (fun hHeld => ?_)
  · trivial
  clear hK K
  try simp only [Act.put, List.setIfInBounds_toArray, List.set_cons_zero, List.set_cons_succ]
  refine wpAnyH_ready (rs := [4]) (by kernel_rfl) (by simp) ?_
  refine AllReadyH.cons (o := { dst := some 18, op := Op.call { callee := Callee.builtin Builtin.append, args := #[Operand.tmp 14, Operand.tmp 17], argTypes := #[33, 33] }, type := 33, pos := "search.go:24", after := #[{ on := 0, ground := Ground.data }, { on := 3, ground := Ground.data }, { on := 2, ground := Ground.chain }], guard := none }) rfl (fun K hK => ?_) AllReadyH.nil
  rw [if_pos (by rfl)]
  refine _root_.Go.Proofs.YtlijlelejobchaaGreatDoor.K.wp_append_two _ (.tmp 14) (.tmp 17) 33 rfl 0 23 iL (.slice none 0 0) 1 24 Tryz.underlying33 hiL hzL0 hzL1 hzL2 rfl (by decide) (.slice og k cg) k vs rfl hO5.out ⟨w4.heap.size, 0, none⟩ 1 1 [.slice ou n cu] rfl rfl (cell_one_new _ _ _) (by simp [Value.oneCell']) (by decide) (by unfold maxLen; omega) (by omega) (Nat.zero_le _) ?_; intro g5 cap5 w5 hnew5 hold5 hat5; have hl5 := h'.out.low5 (fl := s2) (g5 := g5) (cap5 := cap5) hb4.out (by simp only [hk2'.out]; exact hat5); have hbt5 := (hl5 (a + 5) (by omega)).trans h'.out.bt; have ct6 := cell_blkH hbt5; have fz6 := frozen_of_row w5 (a + 5) 0 _ _ hbt5; have hN : Hid (∃ tag', Sx (w5.setCell ⟨a + 5, 0, none⟩ (.slice (some ⟨g5, 0, none⟩) (k + 1) cap5)) kv a n most tag' (.slice (some ⟨g5, 0, none⟩) (k + 1) cap5) (vs ++ [.slice ou n cu]) (ints p) (s2 ++ [p]) ∧ Below a W (w5.setCell ⟨a + 5, 0, none⟩ (.slice (some ⟨g5, 0, none⟩) (k + 1) cap5))) := (by have h1 := h'.out.tell (fl := s2) (g5 := g5) (cap5 := cap5) hb4.out hu4.out (by simp only [hk2'.out]; exact hnew5) (by simp only [hk2'.out]; exact hold5) (by simp only [hk2'.out]; exact hat5); simp only [hk2'.out] at h1; exact h1); clear hl5 hbt5 hnew5 hold5 hat5; (try dsimp only)
  refine hK.out _ _ ?_ (fun hHeld => ?_)
  · trivial
  clear hK K
  try simp only [Act.put, List.setIfInBounds_toArray, List.set_cons_zero, List.set_cons_succ]
  refine wpAnyH_ready (rs := [5]) (by kernel_rfl) (by simp) ?_
  refine AllReadyH.cons (o := { dst := none, op := Op.store 33 (Operand.tmp 3) (Operand.tmp 18), type := 0, pos := "search.go:24", after := #[{ on := 4, ground := Ground.data }, { on := 4, ground := Ground.chain }, { on := 0, ground := Ground.phase }, { on := 1, ground := Ground.phase }, { on := 2, ground := Ground.phase }, { on := 3, ground := Ground.phase }, { on := 4, ground := Ground.phase }], guard := none }) rfl (fun K hK => ?_) AllReadyH.nil
  go_simp
  refine hK.out _ _ ?_ (fun hHeld => ?_)
  · trivial
  clear hK K
  try simp only [Act.put, List.setIfInBounds_toArray, List.set_cons_zero, List.set_cons_succ]
  refine wpAnyH_done (by kernel_rfl) ?_ _
  skip
  obtain ⟨tag5, hS5, hB5⟩ := hN.out
  have hS5' : Hid (Sk G _ kv a n most p (s1, s2 ++ [p])) := ⟨tag5, _, _, _, hS5, htk'.out, hG _ _ _ _ hgs'.out hB5⟩
  clear hS5 hN hB5
  go_wp2
  first | go_end0 | refine bodyPost_ret (results_none rfl _ _ _) rfl ?_
  exact ⟨rfl, hS5'⟩
end Go.Proofs.YtlijlelejobchaaGreatDoor
namespace Go.Proofs.YtlijlelejobchaaGreatDoor
open Go.RowKit
theorem take_put {xs : List Int} {p : List Nat} {c n : Nat} (hx : xs.length = n) (hp : p.length < n) (h : xs.take p.length = ints p) : (xs.set p.length (c : Int)).take (p ++ [c]).length = ints (p ++ [c]) := by
  rw [List.length_append, List.length_singleton, List.take_add_one, List.getElem?_set_self (by omega), ints_snocH, ← h, List.take_set_of_le (Nat.le_refl _)]
  rfl
theorem Sk.cut {G : List Nat → HS → World → Prop} (hC : ∀ (p : List Nat) (c : Nat) (s : HS) (W : World), G (p ++ [c]) s W → G p s W) {W : World} {kv : Value} {a n most : Nat} {p : List Nat} {c : Nat} {s : HS} (h : Sk G W kv a n most (p ++ [c]) s) : Sk G W kv a n most p s := by
  obtain ⟨tag, ov, vs, xs, h1, h2, h9⟩ := h
  refine ⟨tag, ov, vs, xs, h1, ?_, hC _ _ _ _ h9⟩
  have h3 : (xs.take (p ++ [c]).length).take p.length = (ints (p ++ [c])).take p.length := by rw [h2]
  rw [List.take_take, ints_snocH, List.length_append, List.length_singleton, Nat.min_eq_left (by omega), List.take_left' (by rw [ints_len])] at h3
  exact h3
/-- What is asked of one's keep: the closure that hands it the row's beginning. -/
def KeptC (G : List Nat → HS → World → Prop) (kv : Value) (Kp : List Nat → Bool) (a n most KM : Nat) : Prop :=
  ∀ (W : World) (tag : Nat → Nat) (ov : Value) (vs : List Value) (xs : List Int) (s : HS) (p : List Nat) (c : Nat), Sx W kv a n most tag ov vs xs s.2 → xs.take (p ++ [c]).length = ints (p ++ [c]) → G p s W → Leg 0 (p ++ [c]) → (p ++ [c]).length ≤ n → s.1.length < KM → s.2.length < most →
    Calls Tryz.prog 81 #[.int .i64 ((p ++ [c]).length : Int), .pointer (some ⟨a + 2, 0, none⟩), .pointer (some ⟨a + 4, 0, none⟩)] W fun e w' => e = .returned (.bool (Kp (p ++ [c]))) ∧ Hid (Sx w' kv a n most tag ov vs xs s.2 ∧ G p (s.1 ++ [p ++ [c]], s.2) w' ∧ (Kp (p ++ [c]) = true → G (p ++ [c]) (s.1 ++ [p ++ [c]], s.2) w'))
set_option maxRecDepth 100000 in
set_option maxHeartbeats 2000000 in
theorem fillH (G : List Nat → HS → World → Prop) (kv : Value) (Kp : List Nat → Bool) (a n most KM : Nat) (hG : ∀ (p : List Nat) (s : HS) (W W' : World), G p s W → Below a W W' → G p s W') (hF : ∀ (p : List Nat) (s : HS) (W : World), p.length = n → s.2.length < most → G p s W → G p (s.1, s.2 ++ [p]) W) (hC : ∀ (p : List Nat) (c : Nat) (s : HS) (W : World), G (p ++ [c]) s W → G p s W) (hK : KeptC G kv Kp a n most KM) (hn : n ≤ 12) (hmo : most ≤ 65536) : ∀ (d : Nat) (p : List Nat), p.length + d = n → Leg 0 p → ∀ (W : World) (s : HS), s.2.length < most → Sk G W kv a n most p s → (hnS Kp most d p s).1.length ≤ KM →
    Calls Tryz.prog 82 #[.int .i64 (p.length : Int), .int .i64 (blks 0 p : Int), .pointer (some ⟨a, 0, none⟩), .pointer (some ⟨a + 5, 0, none⟩), .pointer (some ⟨a + 4, 0, none⟩), .pointer (some ⟨a + 1, 0, none⟩), .pointer (some ⟨a + 6, 0, none⟩), .pointer (some ⟨a + 7, 0, none⟩)] W fun e w' => e = .returned (.tuple #[]) ∧ Hid (Sk G w' kv a n most p (hnS Kp most d p s)) := by
  intro d
  induction d with
  | zero =>
    intro p hp _ W s hs h0 _
    have := fillEnd G kv a n most hG hF hn hmo (blks 0 p : Int) p (by omega) W s hs h0
    rw [show (p.length : Int) = (n : Int) by omega]
    exact this
  | succ d ih =>
    intro p hp hL W s hs h0' hpre
    have ih' := hide' ih
    have h0 := hide' h0'
    obtain ⟨tag0, ov0, vs0, xs0, hx0, _, _⟩ := h0'
    have cn := cell_blkH hx0.bn
    have hb := blks_leg hL
    have hpn : ((p.length : Int) == (n : Int)) = false := by simp; omega
    have hpl : (p.length : Int) < (n : Int) := by omega
    have hpl' : p.length < n := by omega
    have hpre' : Hid (((List.range (blks 0 p + 1)).foldl (hnStep Kp most (hnS Kp most d) p) s).1.length ≤ KM) := hpre
    have hD := hide' (show hnS Kp most (d + 1) p s = (List.range (blks 0 p + 1)).foldl (hnStep Kp most (hnS Kp most d) p) s from rfl)
    have hp' := hide' hp
    have hL' := hide' hL
    have hK' := hide' hK
    have hG' := hide' hG
    have hC' := hide' hC
    clear hx0 hs ih hpre hp hL hK hG hC hF
    go_enter Tryz.func82, Tryz.ntmps82
    go_wp2
    clear cn
    go_loopw [10] (fun v wr => ∃ c : Nat, c ≤ blks 0 p + 1 ∧ v = .int .i64 c ∧ Hid (Sk G wr kv a n most p ((List.range c).foldl (hnStep Kp most (hnS Kp most d) p) s))) (fun v _ => ((blks 0 p : Int) + 1 - intOf v).toNat)
    case atStart => exact ⟨0, by omega, rfl, h0⟩
    case round =>
      clear h0
      obtain ⟨c, hc, rfl, hS⟩ := hrel
      have hST := hide' (show (List.range (c + 1)).foldl (hnStep Kp most (hnS Kp most d) p) s = hnStep Kp most (hnS Kp most d) p ((List.range c).foldl (hnStep Kp most (hnS Kp most d) p) s) c by rw [List.range_succ, List.foldl_append]; rfl)
      have hSP := hide' (fun hx => fold_stopH (f := hnStep Kp most (hnS Kp most d) p) (s := s) (m := blks 0 p + 1) hc (fun l => hn_full l hx))
      have hAK : Hid (c ≤ blks 0 p → (hnStep Kp most (hnS Kp most d) p ((List.range c).foldl (hnStep Kp most (hnS Kp most d) p) s) c).1.length ≤ KM) := fun h => hn_ask h hpre'.out
      generalize hr : (List.range c).foldl (hnStep Kp most (hnS Kp most d) p) s = r at *
      obtain ⟨tag, ov, vs, xs, h, htk, hgs⟩ := hS.out
      have ct := cell_blkH h.bt
      have cm := cell_blkH h.bm
      obtain ⟨og, cg, rfl⟩ := K.own_shapeH h.told.outer
      by_cases hcb : c ≤ blks 0 p
      · have hcbI : (c : Int) ≤ (blks 0 p : Int) := by omega
        by_cases hkm : r.2.length < most
        · have hkmI : (r.2.length : Int) < (most : Int) := by omega
          have cr := cell_blkH h.br
          have hxl : xs.length = n := by have := h.row.1; simp [cellsI] at this; omega
          obtain ⟨x, hx⟩ : ∃ x, xs[p.length]? = some x := ⟨_, List.getElem?_eq_getElem (by omega)⟩
          have cx : wr.cell? ⟨a + 3, p.length, none⟩ = some (.int .i64 x) := by
            rw [h.row.cellAt p.length (by omega)]
            simp [cellsI, hx]
          have fx := h.row.frozenAt p.length
          have hp1 := hide' (h.put p.length (c : Int))
          have htk1 := hide' (take_put (c := c) hxl hpl' htk)
          have cf1 := cell_blkH hp1.out.bf
          unfold keptV at cf1
          have hal1 : (p ++ [c]).length = p.length + 1 := by simp
          have hstep := hAK.out hcb
          have hask1 : r.1.length < KM := by
            unfold hnStep at hstep
            rw [if_neg (by omega)] at hstep
            split at hstep
            · have := Nat.le_trans (hn_mono _ _ d _ (r.1 ++ [p ++ [c]], r.2)) hstep
              simp at this; omega
            · simp at hstep; omega
          have hLc := hide' (leg_snocH hL'.out hcb)
          have hbs := blks_snocH p c
          have KK := hide' (hK'.out _ tag _ vs _ r p c hp1.out htk1.out (hG'.out _ _ _ _ hgs ((Below.refl a wr).setCell (p := ⟨a + 3, p.length, none⟩) (by show a ≤ a + 3; omega) _)) hLc.out (by omega) hask1 hkm)
          rw [hal1, show ((p.length + 1 : Nat) : Int) = (p.length : Int) + 1 by omega] at KK
          have hGS : Hid (∀ b, Kp (p ++ [c]) = b → hnStep Kp most (hnS Kp most d) p r c = if b then hnS Kp most d (p ++ [c]) (r.1 ++ [p ++ [c]], r.2) else (r.1 ++ [p ++ [c]], r.2)) := fun b hb => by
            unfold hnStep
            rw [if_neg (by omega), hb]
          have hgV : Hid (∀ V s', Sx V kv a n most tag (.slice og r.2.length cg) vs (xs.set p.length (c : Int)) s' → V.cell? ⟨a + 7, 0, none⟩ = some (fillV a)) := fun V s' hV => cell_blkH hV.bg
          have hmx : (max (blks 0 p : Int) ((c : Int) + 1)) = ((blks 0 (p ++ [c]) : Nat) : Int) := by rw [hbs]; omega
          cases hb1 : Kp (p ++ [c])
          · rw [hb1] at KK
            clear hx h hS ih' hSP hr hgs hask1 hstep hAK hmx hbs
            go_wp2_with (first | (go_at_call 81; refine KK.out.mono ?_; rintro e w3 ⟨rfl, hX3⟩))
            exact ⟨⟨c + 1, by omega, by go_num, by show Sk _ _ _ _ _ _ _ _; rw [hST.out, hGS.out _ hb1]; exact ⟨_, _, _, _, hX3.out.1, (by have h3 : ((xs.set p.length (c : Int)).take (p ++ [c]).length).take p.length = (ints (p ++ [c])).take p.length := by { rw [htk1.out] }; rw [List.take_take, ints_snocH, List.length_append, List.length_singleton, Nat.min_eq_left (by omega), List.take_left' (by rw [ints_len])] at h3; exact h3), hX3.out.2.1⟩⟩, by simp [intOf]; omega⟩
          · rw [hb1] at KK
            have hpr2 : Hid ((hnS Kp most d (p ++ [c]) (r.1 ++ [p ++ [c]], r.2)).1.length ≤ KM) := by
              have h1 := hGS.out true hb1
              rw [if_pos rfl] at h1
              rw [← h1]; exact hstep
            have KF : Hid (∀ V, Sx V kv a n most tag (.slice og r.2.length cg) vs (xs.set p.length (c : Int)) r.2 ∧ G p (r.1 ++ [p ++ [c]], r.2) V ∧ (true = true → G (p ++ [c]) (r.1 ++ [p ++ [c]], r.2) V) → Calls Tryz.prog 82 #[.int .i64 ((p.length : Int) + 1), .int .i64 (blks 0 (p ++ [c]) : Int), .pointer (some ⟨a, 0, none⟩), .pointer (some ⟨a + 5, 0, none⟩), .pointer (some ⟨a + 4, 0, none⟩), .pointer (some ⟨a + 1, 0, none⟩), .pointer (some ⟨a + 6, 0, none⟩), .pointer (some ⟨a + 7, 0, none⟩)] V fun e w' => e = .returned (.tuple #[]) ∧ Hid (Sk G w' kv a n most (p ++ [c]) (hnS Kp most d (p ++ [c]) (r.1 ++ [p ++ [c]], r.2)))) := fun V hV => by
              have := ih'.out (p ++ [c]) (by rw [hal1]; have := hp'.out; omega) hLc.out V (r.1 ++ [p ++ [c]], r.2) hkm ⟨_, _, _, _, hV.1, htk1.out, hV.2.2 rfl⟩ hpr2.out
              rw [hal1, show ((p.length + 1 : Nat) : Int) = (p.length : Int) + 1 by omega] at this
              exact this
            clear hx h hS ih' hSP hr hgs hask1 hstep hAK
            by_cases hmx2 : (blks 0 p : Int) < (c : Int) + 1
            · have hmd : decide ((blks 0 p : Int) < (c : Int) + 1) = true := decide_eq_true hmx2
              have hbe : ((blks 0 (p ++ [c]) : Nat) : Int) = (c : Int) + 1 := by rw [hbs]; omega
              rw [hbe] at KF
              clear hmx hbs hbe
              go_wp2_with (first | (go_at_call 81; refine KK.out.mono ?_; rintro e w3 ⟨rfl, hX3⟩; have cg3 := hgV.out _ _ hX3.out.1; unfold fillV at cg3))
              all_goals
                refine (KF.out _ hX3.out).mono ?_
                rintro e w4 ⟨rfl, hS4⟩
                clear KF KK hgV cg3
                go_wp2
                exact ⟨⟨c + 1, by omega, by go_num, by show Sk _ _ _ _ _ _ _ _; rw [hST.out, hGS.out _ hb1]; exact hS4.out.cut hC'.out⟩, by simp [intOf]; omega⟩
            · have hmd : decide ((blks 0 p : Int) < (c : Int) + 1) = false := decide_eq_false hmx2
              have hbe : ((blks 0 (p ++ [c]) : Nat) : Int) = (blks 0 p : Int) := by rw [hbs]; omega
              rw [hbe] at KF
              clear hmx hbs hbe
              go_wp2_with (first | (go_at_call 81; refine KK.out.mono ?_; rintro e w3 ⟨rfl, hX3⟩; have cg3 := hgV.out _ _ hX3.out.1; unfold fillV at cg3))
              all_goals
                refine (KF.out _ hX3.out).mono ?_
                rintro e w4 ⟨rfl, hS4⟩
                clear KF KK hgV cg3
                go_wp2
                exact ⟨⟨c + 1, by omega, by go_num, by show Sk _ _ _ _ _ _ _ _; rw [hST.out, hGS.out _ hb1]; exact hS4.out.cut hC'.out⟩, by simp [intOf]; omega⟩
        · have hkmI : ¬ (r.2.length : Int) < (most : Int) := by omega
          have hkd : decide ((r.2.length : Int) < (most : Int)) = false := decide_eq_false hkmI
          have hEq := hide' (hSP.out (by omega))
          clear h ih' hSP hr
          go_wp2
          first | go_end0 | refine bodyPost_ret (results_none rfl _ _ _) rfl ?_
          exact ⟨rfl, by show Sk _ _ _ _ _ _ _ _; rw [hD.out, hEq.out]; exact hS⟩
      · have hcbI : ¬ (c : Int) ≤ (blks 0 p : Int) := by omega
        have hcd : decide ((c : Int) ≤ (blks 0 p : Int)) = false := decide_eq_false hcbI
        obtain rfl : c = blks 0 p + 1 := by omega
        clear h ih' hSP
        go_wp2
        first | go_end0 | refine bodyPost_ret (results_none rfl _ _ _) rfl ?_
        exact ⟨rfl, by show Sk _ _ _ _ _ _ _ _; rw [hD.out, hr]; exact hS⟩
end Go.Proofs.YtlijlelejobchaaGreatDoor
namespace Go.Proofs.YtlijlelejobchaaGreatDoor.S
/-- Ahead of one another, number by number. -/
def Lx : List Nat → List Nat → Prop
  | x :: l, y :: m => x < y ∨ (x = y ∧ Lx l m)
  | _, _ => False
/-- All beginnings behind a are kept. -/
def Kx (K : List Nat → Bool) (a q : List Nat) : Prop := ∀ j, j < q.length → K (a ++ q.take (j + 1)) = true
theorem Kx.cons {K : List Nat → Bool} {a : List Nat} {c : Nat} {q : List Nat} : Kx K a (c :: q) ↔ K (a ++ [c]) = true ∧ Kx K (a ++ [c]) q := by
  constructor
  · intro h
    refine ⟨by simpa using h 0 (by simp), fun j hj => ?_⟩
    have := h (j + 1) (by simp; omega)
    simpa using this
  · rintro ⟨h1, h2⟩ j hj
    cases j with
    | zero => simpa using h1
    | succ j =>
      have := h2 j (by simp at hj; omega)
      simpa using this
/-- The first of those that are asked for, or none. -/
def FsA (K : List Nat → Bool) (a : List Nat) (d : Nat) (ok : List Nat → Prop) (out : List (List Nat)) : Prop :=
  (out = [] ∧ ∀ q, q.length = d → Leg (blks 0 a) q → Kx K a q → ¬ ok q) ∨ ∃ q, out = [a ++ q] ∧ q.length = d ∧ Leg (blks 0 a) q ∧ Kx K a q ∧ ok q ∧ ∀ q', q'.length = d → Leg (blks 0 a) q' → Kx K a q' → ok q' → q' = q ∨ Lx q q'
theorem hn_first (K : List Nat → Bool) : ∀ (d : Nat) (a : List Nat) (s : HS), s.2 = [] → FsA K a d (fun _ => True) (hnS K 1 d a s).2 := by
  intro d
  induction d with
  | zero =>
    intro a s hs
    refine .inr ⟨[], ?_, rfl, trivial, fun j hj => absurd hj (Nat.not_lt_zero _), trivial, fun q' hq _ _ _ => .inl (List.eq_nil_of_length_eq_zero hq)⟩
    show s.2 ++ [a] = [a ++ []]
    rw [hs]; simp
  | succ d ih =>
    intro a s hs
    have key : ∀ m, m ≤ blks 0 a + 1 → FsA K a (d + 1) (fun q => ∃ c t, q = c :: t ∧ c < m) ((List.range m).foldl (hnStep K 1 (hnS K 1 d) a) s).2 := by
      intro m
      induction m with
      | zero => intro _; exact .inl ⟨by simpa using hs, fun q _ _ _ ⟨c, t, _, h⟩ => absurd h (Nat.not_lt_zero _)⟩
      | succ m im =>
        intro hm
        have im := im (by omega)
        rw [List.range_succ, List.foldl_append]
        show FsA K a (d + 1) _ (hnStep K 1 (hnS K 1 d) a ((List.range m).foldl (hnStep K 1 (hnS K 1 d) a) s) m).2
        generalize (List.range m).foldl (hnStep K 1 (hnS K 1 d) a) s = s1 at im ⊢
        rcases im with ⟨h1, h2⟩ | ⟨q, h1, h2, h3, h4, ⟨c, t, rfl, hc⟩, h6⟩
        · have h0 : ¬ 1 ≤ s1.2.length := by rw [h1]; simp
          unfold hnStep
          rw [if_neg h0]
          by_cases hk : K (a ++ [m]) = true
          · rw [if_pos hk]
            rcases ih (a ++ [m]) (s1.1 ++ [a ++ [m]], s1.2) h1 with ⟨g1, g2⟩ | ⟨q, g1, g2, g3, g4, _, g6⟩
            · refine .inl ⟨g1, fun q hq hL hK ⟨c, t, e, hc⟩ => ?_⟩
              subst e
              by_cases e : c = m
              · subst e
                exact g2 t (by simpa using hq) (by rw [blks_snocH]; exact hL.2) (Kx.cons.1 hK).2 trivial
              · exact h2 _ hq hL hK ⟨c, t, rfl, by omega⟩
            · refine .inr ⟨m :: q, by rw [g1]; simp, by simp [g2], ⟨by omega, by rw [← blks_snocH]; exact g3⟩, Kx.cons.2 ⟨hk, g4⟩, ⟨m, q, rfl, by omega⟩, fun q' hq hL hK ⟨c, t, e, hc⟩ => ?_⟩
              subst e
              by_cases e : c = m
              · subst e
                rcases g6 t (by simpa using hq) (by rw [blks_snocH]; exact hL.2) (Kx.cons.1 hK).2 trivial with rfl | h
                · exact .inl rfl
                · exact .inr (.inr ⟨rfl, h⟩)
              · exact absurd ⟨c, t, rfl, by omega⟩ (h2 _ hq hL hK)
          · rw [if_neg hk]
            refine .inl ⟨h1, fun q hq hL hK ⟨c, t, e, hc⟩ => ?_⟩
            subst e
            by_cases e : c = m
            · subst e
              exact hk (Kx.cons.1 hK).1
            · exact h2 _ hq hL hK ⟨c, t, rfl, by omega⟩
        · have h0 : 1 ≤ s1.2.length := by rw [h1]; simp
          unfold hnStep
          rw [if_pos h0]
          refine .inr ⟨c :: t, h1, h2, h3, h4, ⟨c, t, rfl, by omega⟩, fun q' hq hL hK ⟨c', t', e, hc'⟩ => ?_⟩
          subst e
          by_cases e : c' = m
          · subst e; exact .inr (.inl hc)
          · exact h6 _ hq hL hK ⟨c', t', rfl, by omega⟩
    have hin : ∀ q : List Nat, q.length = d + 1 → Leg (blks 0 a) q → ∃ c t, q = c :: t ∧ c < blks 0 a + 1 := fun q hq hL => by
      cases q with
      | nil => simp at hq
      | cons c t => exact ⟨c, t, rfl, by have := hL.1; omega⟩
    rcases key _ (Nat.le_refl _) with ⟨h1, h2⟩ | ⟨q, h1, h2, h3, h4, _, h6⟩
    · exact .inl ⟨h1, fun q hq hL hK _ => h2 q hq hL hK (hin q hq hL)⟩
    · exact .inr ⟨q, h1, h2, h3, h4, trivial, fun q' hq hL hK _ => h6 q' hq hL hK (hin q' hq hL)⟩
end Go.Proofs.YtlijlelejobchaaGreatDoor.S
namespace Go.Proofs.YtlijlelejobchaaGreatDoor.K
open Go.RowKit
def lent4 : List Int := [-77, -78, -79, -80]
theorem wpList_copyZ {ops : Array Oper} {rest : List Oper} {o : Oper} {a : Act} {Q : Exit → Act → World → Prop} (hgd : o.guard = none) (W : World) (s x : Operand) (H : Nat) (v : Value) (l : List Int)
    (ho : o.op = .call { callee := .builtin .append, args := #[s, x], argTypes := #[23, 23] }) (hs : a.eval s = .slice (some ⟨H, 0, none⟩) 0 0)
    (hH : W.ownsRow H 3 1 (.slice (some ⟨H, 0, none⟩) 0 0) 0 []) (hx : a.eval x = v) (hv : RowI W v l) (hl : l.length ≤ 1000000)
    (h : ∀ u w', w'.ownsRow H 3 1 u l.length (cellsI l) → W.grownBy w' (some H) → wpList Tryz.prog ops Q rest (a.put o.dst u) w') : wpList Tryz.prog ops Q (o :: rest) a W :=
  wpList_plain hgd fun _ hK => wp_copyZ W s x H v l ho hs hH hx hv hl fun u w' h1 h2 => hK _ _ (h u w' h1 h2)
section
variable {w w4 w5 : World} {p : Nat} {tag : Nat → Nat} {y z ov ow : Value} {ml mw : Nat} {vs us : List Value} {rows : Nat → List Int}
theorem boxL (hk : LN w p y z tag ov ow ml mw vs us rows) (hB : Below w.heap.size w w4) {g5 cap5 : Nat} {o5 : Obj}
    (hat : (ov = .slice (some ⟨g5, 0, none⟩) ml cap5 ∧ (w4.alloc o5).grownBy w5 (some g5)) ∨ (g5 = (w4.alloc o5).heap.size ∧ (w4.alloc o5).grownBy w5 none)) : BoxN w5 p y z ov ow := by
  have b1 := (hk.box.below hB).mv (Sm.alloc (X := fun _ => False) (tag := tag) o5) (fun h => h)
  rcases hat with ⟨e, hg⟩ | ⟨_, hg⟩
  · exact b1.mv (Sm.grown (X := (· = 2)) (tag := tag) hg fun g eg => by cases eg; exact hk.live.otag g5 (by rw [e]; rfl)) (by rw [hk.bt]; decide)
  · exact b1.mv (Sm.grown (X := (· = 2)) (tag := tag) hg fun g eg => by cases eg) (by rw [hk.bt]; decide)
theorem boxR (hk : LN w p y z tag ov ow ml mw vs us rows) (hB : Below w.heap.size w w4) {g5 cap5 : Nat} {o5 : Obj}
    (hat : (ow = .slice (some ⟨g5, 0, none⟩) mw cap5 ∧ (w4.alloc o5).grownBy w5 (some g5)) ∨ (g5 = (w4.alloc o5).heap.size ∧ (w4.alloc o5).grownBy w5 none)) : BoxN w5 p y z ov ow := by
  have b1 := (hk.box.below hB).mv (Sm.alloc (X := fun _ => False) (tag := tag) o5) (fun h => h)
  rcases hat with ⟨e, hg⟩ | ⟨_, hg⟩
  · exact b1.mv (Sm.grown (X := (· = 3)) (tag := tag) hg fun g eg => by cases eg; exact hk.want.otag g5 (by rw [e]; rfl)) (by rw [hk.bt]; decide)
  · exact b1.mv (Sm.grown (X := (· = 3)) (tag := tag) hg fun g eg => by cases eg) (by rw [hk.bt]; decide)
end
theorem cells_lent (l : List Int) : cellsI l ++ [.int .i64 (-77), .int .i64 (-78), .int .i64 (-79), .int .i64 (-80)] = cellsI (l ++ lent4) := by simp [cellsI, lent4]
theorem lent_len (l : List Int) : (l ++ lent4).length = l.length + 4 := by simp [lent4]
theorem lent_below {w w1 w2 : World} {u : Value} {n g2 cap2 : Nat} {o : Obj} (hB : Below w.heap.size w w1) (hu : ∀ g, u.ownBlock = some g → w.heap.size ≤ g)
    (hat : (u = .slice (some ⟨g2, 0, none⟩) n cap2 ∧ (w1.alloc o).grownBy w2 (some g2)) ∨ (g2 = (w1.alloc o).heap.size ∧ (w1.alloc o).grownBy w2 none)) : Below w.heap.size w w2 := by
  have hBa := hB.alloc hB.size o
  rcases hat with ⟨rfl, hg⟩ | ⟨_, hg⟩
  · exact hBa.grown hg hBa.size (fun j ej => by cases ej; exact hu _ rfl)
  · exact hBa.grown hg hBa.size (fun j ej => by cases ej)
theorem lent_row {w2 : World} {b g2 cap2 : Nat} {l : List Int} (h : w2.ownsRow b 3 1 (.slice (some ⟨g2, 0, none⟩) (l.length + 4) cap2) (l.length + 4) (cellsI l ++ [.int .i64 (-77), .int .i64 (-78), .int .i64 (-79), .int .i64 (-80)])) : w2.ownsRow b 3 1 (.slice (some ⟨g2, 0, none⟩) (l.length + 4) cap2) (l ++ lent4).length (cellsI (l ++ lent4)) := by
  rw [lent_len, ← cells_lent]; exact h
theorem _root_.Go.World.ownsRow.capLe {w : World} {b : Nat} {e : TypeId} {size g n cap : Nat} {xs : List Value} (h : w.ownsRow b e size (.slice (some ⟨g, 0, none⟩) n cap) n xs) : n ≤ cap := by
  rcases h.2 with ⟨h', _⟩ | ⟨g', cap', cur, h', _, _, hnc, _⟩
  · simp at h'
  · simp only [Value.slice.injEq, Option.some.injEq, Addr.mk.injEq, and_true, true_and] at h'
    obtain ⟨rfl, rfl⟩ := h'
    exact hnc
theorem lent_done {w W3 W4 : World} {p m g2 cap2 : Nat} {tag tag3 tag4 : Nat → Nat} {y z ov ow : Value} {vs us : List Value} {rows : Nat → List Int} {l : List Int} (hL : LN W4 p y z tag4 ov ow (m + 1) (m + 1) vs us rows) (h3 : FrL tag w tag3 W3) (h4 : FrL tag3 W3 tag4 W4) (hR : RowI W3 (.slice (some ⟨g2, 0, none⟩) l.length cap2) l) (hg : w.heap.size ≤ g2) (hlt : g2 < W3.heap.size) (ht : tag3 g2 = 10 + 2 * m) :
    ∃ g cap tag', Ending.returned (.slice (some ⟨g2, 0, none⟩) l.length cap2) = Ending.returned (.slice (some ⟨g, 0, none⟩) l.length cap) ∧ Loan W4 p y z tag' (m + 1) ∧ FrL tag w tag' W4 ∧ RowI W4 (.slice (some ⟨g, 0, none⟩) l.length cap) l ∧ w.heap.size ≤ g ∧ tag' g = 10 + 2 * m := by
  have hcell : ∀ o v, W3.cell? ⟨g2, o, none⟩ = some v → W4.cell? ⟨g2, o, none⟩ = some v := fun o v hc => by
    have := h4.block g2 (cell_lt hc) (by omega) (by omega) (by omega)
    unfold World.cell? at hc ⊢
    rw [this]; exact hc
  refine ⟨g2, cap2, tag4, rfl, ⟨_, _, _, _, _, hL⟩, h3.trans h4, ?_, hg, (h4.tg g2 hlt).trans ht⟩
  obtain ⟨oa, cap, e, h1, hc⟩ := hR
  cases e
  refine ⟨_, _, rfl, h1, fun i z hi => ?_⟩
  obtain ⟨g, o, e1, e2⟩ := hc i z hi
  cases e1
  exact ⟨_, _, rfl, hcell _ _ e2⟩
set_option maxRecDepth 100000 in
set_option maxHeartbeats 4000000 in
theorem loanInts (p : Nat) (y z : Value) (tag : Nat → Nat) (m : Nat) (v : Value) (l : List Int) (w : World) (hL : Loan w p y z tag m) (hv : RowI w v l) (hl : l.length ≤ 1000) (hm : m ≤ 100000) :
    Calls Tryz.prog 9 #[.pointer (some ⟨p, 0, none⟩), v] w fun e w' => ∃ g cap tag', e = .returned (.slice (some ⟨g, 0, none⟩) l.length cap) ∧ Loan w' p y z tag' (m + 1) ∧ FrL tag w tag' w' ∧ RowI w' (.slice (some ⟨g, 0, none⟩) l.length cap) l ∧ w.heap.size ≤ g ∧ tag' g = 10 + 2 * m := by
  obtain ⟨iI, hiI, hzI0, hzI1, hzI2⟩ := info_parts infoI
  obtain ⟨iL, hiL, hzL0, hzL1, hzL2⟩ := info_parts infoL
  obtain ⟨ov, ow, vs, us, rows, hk⟩ := hL
  have hk' := hide' hk
  have hlt := hk.box.lt
  have hZ0 := hide' (owns_zero w w.heap.size (Nat.le_refl _) 3)
  have hR0 := hide' (hv.below ((Below.refl w.heap.size w).alloc (Nat.le_refl _) (.cells #[] 3)) (Nat.le_refl _))
  have B0 : Hid (Below w.heap.size w (w.alloc (.cells #[] 3))) := (Below.refl w.heap.size w).alloc (Nat.le_refl _) _
  obtain ⟨oa, cap, rfl, _, _⟩ := hv
  clear hk
  go_enter Tryz.func9, Tryz.ntmps9
  go_wp2_with (first | (at_builtin; refine wpList_copyZ rfl _ (.tmp 6) (.tmp 7) w.heap.size (.slice oa l.length cap) l rfl rfl hZ0.out rfl hR0.out (by omega) ?_; intro u w1 hu1 hg1; have hul := hide' (fun g (e : u.ownBlock = some g) => (hu1.lt g e).1); obtain ⟨ou, cu, rfl⟩ := own_shape hu1; have hB1 := hide' (B0.out.grown hg1 (by simp) (fun j ej => by cases ej; exact Nat.le_refl _)); have hO1 := hide' (hu1.alloc (.cells #[.int .i64 (-77), .int .i64 (-78), .int .i64 (-79), .int .i64 (-80)] 3)); have hnb := hide' (World.news_of_block (heap_new w1 (.cells #[.int .i64 (-77), .int .i64 (-78), .int .i64 (-79), .int .i64 (-80)] 3))); have hBz := hB1.out.size; clear hu1 hg1) | (at_builtin; refine wpList_append_two _ rfl (.tmp 8) (.tmp 9) 23 rfl w.heap.size 3 iI (.int .i64 0) 1 8 Tryz.underlying23 hiI hzI0 hzI1 hzI2 rfl (by decide) (.slice ou l.length cu) l.length (cellsI l) rfl hO1.out ⟨w1.heap.size, 0, none⟩ 4 4 [.int .i64 (-77), .int .i64 (-78), .int .i64 (-79), .int .i64 (-80)] rfl rfl hnb.out (by simp [Value.oneCell']) (by decide) (by unfold maxLen; omega) (by omega) (by simp; omega) ?_; intro g2 cap2 w2 hnew2 _ hat2; have hB2 := hide' (lent_below hB1.out hul.out hat2); have hF2 := hide' (lent_row hnew2); have hcap2 := hnew2.capLe; have c02 := (hk'.out.box.below hB2.out).c0; have hO2 := hide' ((hk'.out.below hB2.out).live.outer.alloc (.cells #[.slice (some ⟨g2, 0, none⟩) (l.length + 4) cap2] 23)); have hg2 := hide' (hnew2.lt g2 rfl); clear hnew2 hat2 hO1 hnb hB1 hul) | (at_builtin; refine wpList_append_two _ rfl (.tmp 15) (.tmp 17) 33 rfl 0 23 iL (.slice none 0 0) 1 24 Tryz.underlying33 hiL hzL0 hzL1 hzL2 rfl (by decide) ov m vs rfl hO2.out ⟨w2.heap.size, 0, none⟩ 1 1 [.slice (some ⟨g2, 0, none⟩) (l.length + 4) cap2] rfl rfl (cell_one_new _ _ _) (by simp [Value.oneCell']) (by decide) (by unfold maxLen; omega) (by omega) (Nat.zero_le _) ?_; intro g5 cap5 w5 hnew5 hold5 hat5; have hb5 := boxL hk'.out hB2.out hat5; have c05 := hb5.c0; have f05 := hb5.fz 0; clear hb5))
  obtain ⟨tag3, rows3, hrm, hLN, hFr, hgt, hF3⟩ := stageL hk'.out hB2.out (by rw [lent_len]; omega) hF2.out hnew5 hold5 hat5
  generalize w5.setCell ⟨p, 0, none⟩ (.slice (some ⟨g5, 0, none⟩) (m + 1) cap5) = W3 at *
  have hLN' := hide' hLN
  have hFr' := hide' hFr
  have hgt' := hide' (hgt g2 rfl)
  have hF3' := hide' hF3
  have hlt3 := hide' (hF3.lt g2 rfl).2
  have c3w := hLN.box.c1
  have hrm' := hide' hrm
  have hp3 := hLN.box.lt
  clear hLN hFr hgt hF3 hrm hk' hB2 hF2 hnew5 hold5 hat5 c05 f05 c02 hO2 hZ0 hR0 B0
  have cV := hide' (fun V (h : Below W3.heap.size W3 V) => (hLN'.out.box.below h).c1)
  have B3 : Hid (Below W3.heap.size W3 W3.drew) := (Below.refl _ _).drew
  have B4 : Hid (Below W3.heap.size W3 (W3.drew.alloc (.cells #[] 3))) := B3.out.alloc (Nat.le_refl _) _
  have c3 := cV.out _ B3.out
  have c4 := cV.out _ B4.out
  have hZ := hide' (owns_zero W3.drew W3.heap.size (Nat.le_refl _) 3)
  have hR : Hid (RowI (W3.drew.alloc (.cells #[] 3)) (.slice (some ⟨g2, 0, none⟩) (l.length + 4) cap2) (l ++ lent4)) := by
    have := (RowI.of_owns hF3'.out).below B4.out (Nat.le_refl _)
    rw [lent_len] at *
    exact this
  have hFl := hide' (lent_len l)
  have hFR : Hid (RowI W3 (.slice (some ⟨g2, 0, none⟩) l.length cap2) l) := by
    obtain ⟨oa', cap', e, h1, h2⟩ := RowI.of_owns hF3'.out
    rw [lent_len] at e
    cases e
    refine ⟨_, _, rfl, ⟨by rw [lent_len] at h1; omega, h1.2⟩, fun i z hi => h2 i z ?_⟩
    rw [List.getElem?_append_left (List.getElem?_eq_some_iff.1 hi).1]; exact hi
  generalize l ++ lent4 = F at *
  refine wp_region_held_drew (S := (fun _ => True)) (by kernel_rfl) ?_ (fun hHeld => ?_)
  · trivial
  refine wpAnyH_take (i := 0) (oi := { dst := some 21, op := Op.move (Operand.tmp 0), type := 37, pos := "keep.go:216", after := #[], guard := none }) (v := ?_) rfl (by kernel_rfl) (by kernel_rfl) (by kernel_rfl) (fun _ _ _ h => h) (Or.inl ⟨by rfl, ?_⟩) (by assumption) ?_
  rotate_left
  · intro w hSw; (try dsimp only at hSw); go_simp <;> with_reducible rfl
  simp only [Act.put, List.setIfInBounds_toArray, List.set_cons_zero, List.set_cons_succ]
  refine wpAnyH_take (i := 1) (oi := { dst := some 22, op := Op.move (Operand.tmp 0), type := 37, pos := "keep.go:216", after := #[], guard := none }) (v := ?_) rfl (by kernel_rfl) (by kernel_rfl) (by kernel_rfl) (fun _ _ _ h => h) (Or.inl ⟨by rfl, ?_⟩) (by assumption) ?_
  rotate_left
  · intro w hSw; (try dsimp only at hSw); go_simp <;> with_reducible rfl
  simp only [Act.put, List.setIfInBounds_toArray, List.set_cons_zero, List.set_cons_succ]
  refine wpAnyH_take (i := 2) (oi := { dst := some 23, op := Op.nilCheck (Operand.tmp 22), type := 0, pos := "keep.go:216", after := #[{ on := 1, ground := Ground.data }], guard := none }) (v := ?_) rfl (by kernel_rfl) (by kernel_rfl) (by kernel_rfl) (fun _ _ _ h => h) (Or.inl ⟨by rfl, ?_⟩) (by assumption) ?_
  rotate_left
  · intro w hSw; (try dsimp only at hSw); go_simp <;> with_reducible rfl
  simp only [Act.put, List.setIfInBounds_toArray, List.set_cons_zero, List.set_cons_succ]
  refine wpAnyH_take (i := 3) (oi := { dst := some 24, op := Op.fieldAddr 40 (Operand.tmp 23) 1, type := 0, pos := "keep.go:216", after := #[{ on := 2, ground := Ground.data }], guard := none }) (v := ?_) rfl (by kernel_rfl) (by kernel_rfl) (by kernel_rfl) (fun _ _ _ h => h) (Or.inl ⟨by rfl, ?_⟩) (by assumption) ?_
  rotate_left
  · intro w hSw; (try dsimp only at hSw); go_simp <;> with_reducible rfl
  simp only [Act.put, List.setIfInBounds_toArray, List.set_cons_zero, List.set_cons_succ]
  refine wpAnyH_take (i := 6) (oi := { dst := some 27, op := Op.move (Operand.tmp 5), type := 23, pos := "keep.go:216", after := #[], guard := none }) (v := ?_) rfl (by kernel_rfl) (by kernel_rfl) (by kernel_rfl) (fun _ _ _ h => h) (Or.inl ⟨by rfl, ?_⟩) (by assumption) ?_
  rotate_left
  · intro w hSw; (try dsimp only at hSw); go_simp <;> with_reducible rfl
  simp only [Act.put, List.setIfInBounds_toArray, List.set_cons_zero, List.set_cons_succ]
  refine wpAnyH_ready (rs := [4, 5]) (by kernel_rfl) (by simp) ?_
  refine AllReadyH.cons (o := { dst := some 25, op := Op.load 33 (Operand.tmp 24), type := 33, pos := "keep.go:216", after := #[{ on := 3, ground := Ground.data }], guard := none }) rfl (fun K hK => ?_) ?_
  · skip
    go_simp
    refine hK.out _ _ ?_ (fun hHeld => ?_)
    · trivial
    clear hK K
    try simp only [Act.put, List.setIfInBounds_toArray, List.set_cons_zero, List.set_cons_succ]
    refine wpAnyH_ready (rs := [5]) (by kernel_rfl) (by simp) ?_
    refine AllReadyH.cons (o := { dst := some 26, op := Op.buildSlice 23 0 #[], type := 23, pos := "keep.go:216", after := #[], guard := none }) rfl (fun K hK => ?_) AllReadyH.nil
    go_simp
    refine hK.out _ _ ?_ (fun hHeld => ?_)
    · trivial
    clear hK K
    try simp only [Act.put, List.setIfInBounds_toArray, List.set_cons_zero, List.set_cons_succ]
    refine wpAnyH_ready (rs := [7]) (by kernel_rfl) (by simp) ?_
    refine AllReadyH.cons (o := { dst := some 28, op := Op.call { callee := Callee.builtin Builtin.append, args := #[Operand.tmp 26, Operand.tmp 27], argTypes := #[23, 23] }, type := 23, pos := "keep.go:216", after := #[{ on := 5, ground := Ground.data }, { on := 6, ground := Ground.data }], guard := none }) rfl (fun K hK => ?_) AllReadyH.nil
    rw [if_pos (by rfl)]
    refine wp_copyZ _ (.tmp 26) (.tmp 27) W3.heap.size (.slice (some ⟨g2, 0, none⟩) (l.length + 4) cap2) F rfl rfl hZ.out rfl hR.out (by rw [hFl.out]; omega) ?_; intro u w6 hu6 hg6; obtain ⟨ou6, cu6, rfl⟩ := own_shape hu6; have hB6 := hide' (B4.out.grown hg6 (by simp) (fun j ej => by cases ej; exact Nat.le_refl _)); have c6 := cV.out _ hB6.out; have B7 : Hid (Below W3.heap.size W3 (w6.alloc (.cells #[.slice ou6 F.length cu6] 23))) := hB6.out.alloc hB6.out.size _; have c7 := cV.out _ B7.out; have h1u := hide' (own_one hu6); have hu6' := hide' hu6; have hO7 := hide' ((hLN'.out.below hB6.out).want.outer.alloc (.cells #[.slice ou6 F.length cu6] 23)); clear hu6 hg6; (try dsimp only)
    refine hK.out _ _ ?_ (fun hHeld => ?_)
    · trivial
    clear hK K
    try simp only [Act.put, List.setIfInBounds_toArray, List.set_cons_zero, List.set_cons_succ]
    refine wpAnyH_ready (rs := [8]) (by kernel_rfl) (by simp) ?_
    refine AllReadyH.cons (o := { dst := some 29, op := Op.buildSlice 33 1 #[(0, Operand.tmp 28)], type := 33, pos := "keep.go:216", after := #[{ on := 7, ground := Ground.data }], guard := none }) rfl (fun K hK => ?_) AllReadyH.nil
    go_simp
    refine hK.out _ _ ?_ (fun hHeld => ?_)
    · trivial
    clear hK K
    try simp only [Act.put, List.setIfInBounds_toArray, List.set_cons_zero, List.set_cons_succ]
    refine wpAnyH_ready (rs := [9]) (by kernel_rfl) (by simp) ?_
    refine AllReadyH.cons (o := { dst := some 30, op := Op.call { callee := Callee.builtin Builtin.append, args := #[Operand.tmp 25, Operand.tmp 29], argTypes := #[33, 33] }, type := 33, pos := "keep.go:216", after := #[{ on := 4, ground := Ground.data }, { on := 8, ground := Ground.data }, { on := 7, ground := Ground.chain }], guard := none }) rfl (fun K hK => ?_) AllReadyH.nil
    rw [if_pos (by rfl)]
    refine wp_append_two _ (.tmp 25) (.tmp 29) 33 rfl 0 23 iL (.slice none 0 0) 1 24 Tryz.underlying33 hiL hzL0 hzL1 hzL2 rfl (by decide) ow m us rfl hO7.out ⟨w6.heap.size, 0, none⟩ 1 1 [.slice ou6 F.length cu6] rfl rfl (cell_one_new _ _ _) (by simpa using h1u.out) (by decide) (by unfold maxLen; omega) (by omega) (Nat.zero_le _) ?_; intro g8 cap8 w8 hnew8 hold8 hat8; have hb8 := boxR hLN'.out hB6.out hat8; have c8 := hb8.c1; have f8 := hb8.fz 1; have hnew8' := hide' hnew8; have hold8' := hide' hold8; have hat8' := hide' hat8; clear hb8 hnew8 hold8 hat8; (try dsimp only)
    refine hK.out _ _ ?_ (fun hHeld => ?_)
    · trivial
    clear hK K
    try simp only [Act.put, List.setIfInBounds_toArray, List.set_cons_zero, List.set_cons_succ]
    refine wpAnyH_take (i := 10) (oi := { dst := some 31, op := Op.nilCheck (Operand.tmp 21), type := 0, pos := "keep.go:216", after := #[{ on := 0, ground := Ground.data }, { on := 0, ground := Ground.phase }, { on := 1, ground := Ground.phase }, { on := 2, ground := Ground.phase }, { on := 3, ground := Ground.phase }, { on := 4, ground := Ground.phase }, { on := 5, ground := Ground.phase }, { on := 6, ground := Ground.phase }, { on := 7, ground := Ground.phase }, { on := 8, ground := Ground.phase }, { on := 9, ground := Ground.phase }], guard := none }) (v := ?_) rfl (by kernel_rfl) (by kernel_rfl) (by kernel_rfl) (fun _ _ _ h => h) (Or.inl ⟨by rfl, ?_⟩) (by assumption) ?_
    rotate_left
    · intro w hSw; (try dsimp only at hSw); go_simp <;> with_reducible rfl
    simp only [Act.put, List.setIfInBounds_toArray, List.set_cons_zero, List.set_cons_succ]
    refine wpAnyH_take (i := 11) (oi := { dst := some 32, op := Op.fieldAddr 40 (Operand.tmp 31) 1, type := 0, pos := "keep.go:216", after := #[{ on := 10, ground := Ground.data }, { on := 0, ground := Ground.phase }, { on := 1, ground := Ground.phase }, { on := 2, ground := Ground.phase }, { on := 3, ground := Ground.phase }, { on := 4, ground := Ground.phase }, { on := 5, ground := Ground.phase }, { on := 6, ground := Ground.phase }, { on := 7, ground := Ground.phase }, { on := 8, ground := Ground.phase }, { on := 9, ground := Ground.phase }], guard := none }) (v := ?_) rfl (by kernel_rfl) (by kernel_rfl) (by kernel_rfl) (fun _ _ _ h => h) (Or.inl ⟨by rfl, ?_⟩) (by assumption) ?_
    rotate_left
    · intro w hSw; (try dsimp only at hSw); go_simp <;> with_reducible rfl
    simp only [Act.put, List.setIfInBounds_toArray, List.set_cons_zero, List.set_cons_succ]
    refine wpAnyH_ready (rs := [12]) (by kernel_rfl) (by simp) ?_
    refine AllReadyH.cons (o := { dst := none, op := Op.store 33 (Operand.tmp 32) (Operand.tmp 30), type := 0, pos := "keep.go:216", after := #[{ on := 11, ground := Ground.data }, { on := 9, ground := Ground.data }, { on := 9, ground := Ground.chain }, { on := 0, ground := Ground.phase }, { on := 1, ground := Ground.phase }, { on := 2, ground := Ground.phase }, { on := 3, ground := Ground.phase }, { on := 4, ground := Ground.phase }, { on := 5, ground := Ground.phase }, { on := 6, ground := Ground.phase }, { on := 7, ground := Ground.phase }, { on := 8, ground := Ground.phase }, { on := 9, ground := Ground.phase }], guard := none }) rfl (fun K hK => ?_) AllReadyH.nil
    go_simp
    refine hK.out _ _ ?_ (fun hHeld => ?_)
    · trivial
    clear hK K
    try simp only [Act.put, List.setIfInBounds_toArray, List.set_cons_zero, List.set_cons_succ]
    refine wpAnyH_done (by kernel_rfl) ?_ _
    skip
    obtain ⟨tag4, hL4, hFr4⟩ := stageW hLN'.out hB6.out (by rw [hrm'.out]; exact hu6'.out) hnew8'.out hold8'.out hat8'.out
    have hL4' := hide' hL4
    have hFr4' := hide' hFr4
    clear hL4 hFr4 hnew8' hold8' hat8'
    go_wp2
    go_ret
    exact lent_done hL4'.out hFr'.out hFr4'.out hFR.out hg2.out.1 hlt3.out hgt'.out
  refine AllReadyH.cons (o := { dst := some 26, op := Op.buildSlice 23 0 #[], type := 23, pos := "keep.go:216", after := #[], guard := none }) rfl (fun K hK => ?_) AllReadyH.nil
  go_simp
  refine hK.out _ _ ?_ (fun hHeld => ?_)
  · trivial
  clear hK K
  try simp only [Act.put, List.setIfInBounds_toArray, List.set_cons_zero, List.set_cons_succ]
  refine wpAnyH_ready (rs := [4, 7]) (by kernel_rfl) (by simp) ?_
  refine AllReadyH.cons (o := { dst := some 25, op := Op.load 33 (Operand.tmp 24), type := 33, pos := "keep.go:216", after := #[{ on := 3, ground := Ground.data }], guard := none }) rfl (fun K hK => ?_) ?_
  · skip
    go_simp
    refine hK.out _ _ ?_ (fun hHeld => ?_)
    · trivial
    clear hK K
    try simp only [Act.put, List.setIfInBounds_toArray, List.set_cons_zero, List.set_cons_succ]
    refine wpAnyH_ready (rs := [7]) (by kernel_rfl) (by simp) ?_
    refine AllReadyH.cons (o := { dst := some 28, op := Op.call { callee := Callee.builtin Builtin.append, args := #[Operand.tmp 26, Operand.tmp 27], argTypes := #[23, 23] }, type := 23, pos := "keep.go:216", after := #[{ on := 5, ground := Ground.data }, { on := 6, ground := Ground.data }], guard := none }) rfl (fun K hK => ?_) AllReadyH.nil
    rw [if_pos (by rfl)]
    refine wp_copyZ _ (.tmp 26) (.tmp 27) W3.heap.size (.slice (some ⟨g2, 0, none⟩) (l.length + 4) cap2) F rfl rfl hZ.out rfl hR.out (by rw [hFl.out]; omega) ?_; intro u w6 hu6 hg6; obtain ⟨ou6, cu6, rfl⟩ := own_shape hu6; have hB6 := hide' (B4.out.grown hg6 (by simp) (fun j ej => by cases ej; exact Nat.le_refl _)); have c6 := cV.out _ hB6.out; have B7 : Hid (Below W3.heap.size W3 (w6.alloc (.cells #[.slice ou6 F.length cu6] 23))) := hB6.out.alloc hB6.out.size _; have c7 := cV.out _ B7.out; have h1u := hide' (own_one hu6); have hu6' := hide' hu6; have hO7 := hide' ((hLN'.out.below hB6.out).want.outer.alloc (.cells #[.slice ou6 F.length cu6] 23)); clear hu6 hg6; (try dsimp only)
    refine hK.out _ _ ?_ (fun hHeld => ?_)
    · trivial
    clear hK K
    try simp only [Act.put, List.setIfInBounds_toArray, List.set_cons_zero, List.set_cons_succ]
    refine wpAnyH_ready (rs := [8]) (by kernel_rfl) (by simp) ?_
    refine AllReadyH.cons (o := { dst := some 29, op := Op.buildSlice 33 1 #[(0, Operand.tmp 28)], type := 33, pos := "keep.go:216", after := #[{ on := 7, ground := Ground.data }], guard := none }) rfl (fun K hK => ?_) AllReadyH.nil
    go_simp
    refine hK.out _ _ ?_ (fun hHeld => ?_)
    · trivial
    clear hK K
    try simp only [Act.put, List.setIfInBounds_toArray, List.set_cons_zero, List.set_cons_succ]
    refine wpAnyH_ready (rs := [9]) (by kernel_rfl) (by simp) ?_
    refine AllReadyH.cons (o := { dst := some 30, op := Op.call { callee := Callee.builtin Builtin.append, args := #[Operand.tmp 25, Operand.tmp 29], argTypes := #[33, 33] }, type := 33, pos := "keep.go:216", after := #[{ on := 4, ground := Ground.data }, { on := 8, ground := Ground.data }, { on := 7, ground := Ground.chain }], guard := none }) rfl (fun K hK => ?_) AllReadyH.nil
    rw [if_pos (by rfl)]
    refine wp_append_two _ (.tmp 25) (.tmp 29) 33 rfl 0 23 iL (.slice none 0 0) 1 24 Tryz.underlying33 hiL hzL0 hzL1 hzL2 rfl (by decide) ow m us rfl hO7.out ⟨w6.heap.size, 0, none⟩ 1 1 [.slice ou6 F.length cu6] rfl rfl (cell_one_new _ _ _) (by simpa using h1u.out) (by decide) (by unfold maxLen; omega) (by omega) (Nat.zero_le _) ?_; intro g8 cap8 w8 hnew8 hold8 hat8; have hb8 := boxR hLN'.out hB6.out hat8; have c8 := hb8.c1; have f8 := hb8.fz 1; have hnew8' := hide' hnew8; have hold8' := hide' hold8; have hat8' := hide' hat8; clear hb8 hnew8 hold8 hat8; (try dsimp only)
    refine hK.out _ _ ?_ (fun hHeld => ?_)
    · trivial
    clear hK K
    try simp only [Act.put, List.setIfInBounds_toArray, List.set_cons_zero, List.set_cons_succ]
    refine wpAnyH_take (i := 10) (oi := { dst := some 31, op := Op.nilCheck (Operand.tmp 21), type := 0, pos := "keep.go:216", after := #[{ on := 0, ground := Ground.data }, { on := 0, ground := Ground.phase }, { on := 1, ground := Ground.phase }, { on := 2, ground := Ground.phase }, { on := 3, ground := Ground.phase }, { on := 4, ground := Ground.phase }, { on := 5, ground := Ground.phase }, { on := 6, ground := Ground.phase }, { on := 7, ground := Ground.phase }, { on := 8, ground := Ground.phase }, { on := 9, ground := Ground.phase }], guard := none }) (v := ?_) rfl (by kernel_rfl) (by kernel_rfl) (by kernel_rfl) (fun _ _ _ h => h) (Or.inl ⟨by rfl, ?_⟩) (by assumption) ?_
    rotate_left
    · intro w hSw; (try dsimp only at hSw); go_simp <;> with_reducible rfl
    simp only [Act.put, List.setIfInBounds_toArray, List.set_cons_zero, List.set_cons_succ]
    refine wpAnyH_take (i := 11) (oi := { dst := some 32, op := Op.fieldAddr 40 (Operand.tmp 31) 1, type := 0, pos := "keep.go:216", after := #[{ on := 10, ground := Ground.data }, { on := 0, ground := Ground.phase }, { on := 1, ground := Ground.phase }, { on := 2, ground := Ground.phase }, { on := 3, ground := Ground.phase }, { on := 4, ground := Ground.phase }, { on := 5, ground := Ground.phase }, { on := 6, ground := Ground.phase }, { on := 7, ground := Ground.phase }, { on := 8, ground := Ground.phase }, { on := 9, ground := Ground.phase }], guard := none }) (v := ?_) rfl (by kernel_rfl) (by kernel_rfl) (by kernel_rfl) (fun _ _ _ h => h) (Or.inl ⟨by rfl, ?_⟩) (by assumption) ?_
    rotate_left
    · intro w hSw; (try dsimp only at hSw); go_simp <;> with_reducible rfl
    simp only [Act.put, List.setIfInBounds_toArray, List.set_cons_zero, List.set_cons_succ]
    refine wpAnyH_ready (rs := [12]) (by kernel_rfl) (by simp) ?_
    refine AllReadyH.cons (o := { dst := none, op := Op.store 33 (Operand.tmp 32) (Operand.tmp 30), type := 0, pos := "keep.go:216", after := #[{ on := 11, ground := Ground.data }, { on := 9, ground := Ground.data }, { on := 9, ground := Ground.chain }, { on := 0, ground := Ground.phase }, { on := 1, ground := Ground.phase }, { on := 2, ground := Ground.phase }, { on := 3, ground := Ground.phase }, { on := 4, ground := Ground.phase }, { on := 5, ground := Ground.phase }, { on := 6, ground := Ground.phase }, { on := 7, ground := Ground.phase }, { on := 8, ground := Ground.phase }, { on := 9, ground := Ground.phase }], guard := none }) rfl (fun K hK => ?_) AllReadyH.nil
    go_simp
    refine hK.out _ _ ?_ (fun hHeld => ?_)
    · trivial
    clear hK K
    try simp only [Act.put, List.setIfInBounds_toArray, List.set_cons_zero, List.set_cons_succ]
    refine wpAnyH_done (by kernel_rfl) ?_ _
    skip
    obtain ⟨tag4, hL4, hFr4⟩ := stageW hLN'.out hB6.out (by rw [hrm'.out]; exact hu6'.out) hnew8'.out hold8'.out hat8'.out
    have hL4' := hide' hL4
    have hFr4' := hide' hFr4
    clear hL4 hFr4 hnew8' hold8' hat8'
    go_wp2
    go_ret
    exact lent_done hL4'.out hFr'.out hFr4'.out hFR.out hg2.out.1 hlt3.out hgt'.out
  refine AllReadyH.cons (o := { dst := some 28, op := Op.call { callee := Callee.builtin Builtin.append, args := #[Operand.tmp 26, Operand.tmp 27], argTypes := #[23, 23] }, type := 23, pos := "keep.go:216", after := #[{ on := 5, ground := Ground.data }, { on := 6, ground := Ground.data }], guard := none }) rfl (fun K hK => ?_) AllReadyH.nil
  rw [if_pos (by rfl)]
  refine wp_copyZ _ (.tmp 26) (.tmp 27) W3.heap.size (.slice (some ⟨g2, 0, none⟩) (l.length + 4) cap2) F rfl rfl hZ.out rfl hR.out (by rw [hFl.out]; omega) ?_; intro u w6 hu6 hg6; obtain ⟨ou6, cu6, rfl⟩ := own_shape hu6; have hB6 := hide' (B4.out.grown hg6 (by simp) (fun j ej => by cases ej; exact Nat.le_refl _)); have c6 := cV.out _ hB6.out; have B7 : Hid (Below W3.heap.size W3 (w6.alloc (.cells #[.slice ou6 F.length cu6] 23))) := hB6.out.alloc hB6.out.size _; have c7 := cV.out _ B7.out; have h1u := hide' (own_one hu6); have hu6' := hide' hu6; have hO7 := hide' ((hLN'.out.below hB6.out).want.outer.alloc (.cells #[.slice ou6 F.length cu6] 23)); clear hu6 hg6; (try dsimp only)
  refine hK.out _ _ ?_ (fun hHeld => ?_)
  · trivial
  clear hK K
  try simp only [Act.put, List.setIfInBounds_toArray, List.set_cons_zero, List.set_cons_succ]
  refine wpAnyH_ready (rs := [4, 8]) (by kernel_rfl) (by simp) ?_
  refine AllReadyH.cons (o := { dst := some 25, op := Op.load 33 (Operand.tmp 24), type := 33, pos := "keep.go:216", after := #[{ on := 3, ground := Ground.data }], guard := none }) rfl (fun K hK => ?_) ?_
  · skip
    go_simp
    refine hK.out _ _ ?_ (fun hHeld => ?_)
    · trivial
    clear hK K
    try simp only [Act.put, List.setIfInBounds_toArray, List.set_cons_zero, List.set_cons_succ]
    refine wpAnyH_ready (rs := [8]) (by kernel_rfl) (by simp) ?_
    refine AllReadyH.cons (o := { dst := some 29, op := Op.buildSlice 33 1 #[(0, Operand.tmp 28)], type := 33, pos := "keep.go:216", after := #[{ on := 7, ground := Ground.data }], guard := none }) rfl (fun K hK => ?_) AllReadyH.nil
    go_simp
    refine hK.out _ _ ?_ (fun hHeld => ?_)
    · trivial
    clear hK K
    try simp only [Act.put, List.setIfInBounds_toArray, List.set_cons_zero, List.set_cons_succ]
    refine wpAnyH_ready (rs := [9]) (by kernel_rfl) (by simp) ?_
    refine AllReadyH.cons (o := { dst := some 30, op := Op.call { callee := Callee.builtin Builtin.append, args := #[Operand.tmp 25, Operand.tmp 29], argTypes := #[33, 33] }, type := 33, pos := "keep.go:216", after := #[{ on := 4, ground := Ground.data }, { on := 8, ground := Ground.data }, { on := 7, ground := Ground.chain }], guard := none }) rfl (fun K hK => ?_) AllReadyH.nil
    rw [if_pos (by rfl)]
    refine wp_append_two _ (.tmp 25) (.tmp 29) 33 rfl 0 23 iL (.slice none 0 0) 1 24 Tryz.underlying33 hiL hzL0 hzL1 hzL2 rfl (by decide) ow m us rfl hO7.out ⟨w6.heap.size, 0, none⟩ 1 1 [.slice ou6 F.length cu6] rfl rfl (cell_one_new _ _ _) (by simpa using h1u.out) (by decide) (by unfold maxLen; omega) (by omega) (Nat.zero_le _) ?_; intro g8 cap8 w8 hnew8 hold8 hat8; have hb8 := boxR hLN'.out hB6.out hat8; have c8 := hb8.c1; have f8 := hb8.fz 1; have hnew8' := hide' hnew8; have hold8' := hide' hold8; have hat8' := hide' hat8; clear hb8 hnew8 hold8 hat8; (try dsimp only)
    refine hK.out _ _ ?_ (fun hHeld => ?_)
    · trivial
    clear hK K
    try simp only [Act.put, List.setIfInBounds_toArray, List.set_cons_zero, List.set_cons_succ]
    refine wpAnyH_take (i := 10) (oi := { dst := some 31, op := Op.nilCheck (Operand.tmp 21), type := 0, pos := "keep.go:216", after := #[{ on := 0, ground := Ground.data }, { on := 0, ground := Ground.phase }, { on := 1, ground := Ground.phase }, { on := 2, ground := Ground.phase }, { on := 3, ground := Ground.phase }, { on := 4, ground := Ground.phase }, { on := 5, ground := Ground.phase }, { on := 6, ground := Ground.phase }, { on := 7, ground := Ground.phase }, { on := 8, ground := Ground.phase }, { on := 9, ground := Ground.phase }], guard := none }) (v := ?_) rfl (by kernel_rfl) (by kernel_rfl) (by kernel_rfl) (fun _ _ _ h => h) (Or.inl ⟨by rfl, ?_⟩) (by assumption) ?_
    rotate_left
    · intro w hSw; (try dsimp only at hSw); go_simp <;> with_reducible rfl
    simp only [Act.put, List.setIfInBounds_toArray, List.set_cons_zero, List.set_cons_succ]
    refine wpAnyH_take (i := 11) (oi := { dst := some 32, op := Op.fieldAddr 40 (Operand.tmp 31) 1, type := 0, pos := "keep.go:216", after := #[{ on := 10, ground := Ground.data }, { on := 0, ground := Ground.phase }, { on := 1, ground := Ground.phase }, { on := 2, ground := Ground.phase }, { on := 3, ground := Ground.phase }, { on := 4, ground := Ground.phase }, { on := 5, ground := Ground.phase }, { on := 6, ground := Ground.phase }, { on := 7, ground := Ground.phase }, { on := 8, ground := Ground.phase }, { on := 9, ground := Ground.phase }], guard := none }) (v := ?_) rfl (by kernel_rfl) (by kernel_rfl) (by kernel_rfl) (fun _ _ _ h => h) (Or.inl ⟨by rfl, ?_⟩) (by assumption) ?_
    rotate_left
    · intro w hSw; (try dsimp only at hSw); go_simp <;> with_reducible rfl
    simp only [Act.put, List.setIfInBounds_toArray, List.set_cons_zero, List.set_cons_succ]
    refine wpAnyH_ready (rs := [12]) (by kernel_rfl) (by simp) ?_
    refine AllReadyH.cons (o := { dst := none, op := Op.store 33 (Operand.tmp 32) (Operand.tmp 30), type := 0, pos := "keep.go:216", after := #[{ on := 11, ground := Ground.data }, { on := 9, ground := Ground.data }, { on := 9, ground := Ground.chain }, { on := 0, ground := Ground.phase }, { on := 1, ground := Ground.phase }, { on := 2, ground := Ground.phase }, { on := 3, ground := Ground.phase }, { on := 4, ground := Ground.phase }, { on := 5, ground := Ground.phase }, { on := 6, ground := Ground.phase }, { on := 7, ground := Ground.phase }, { on := 8, ground := Ground.phase }, { on := 9, ground := Ground.phase }], guard := none }) rfl (fun K hK => ?_) AllReadyH.nil
    go_simp
    refine hK.out _ _ ?_ (fun hHeld => ?_)
    · trivial
    clear hK K
    try simp only [Act.put, List.setIfInBounds_toArray, List.set_cons_zero, List.set_cons_succ]
    refine wpAnyH_done (by kernel_rfl) ?_ _
    skip
    obtain ⟨tag4, hL4, hFr4⟩ := stageW hLN'.out hB6.out (by rw [hrm'.out]; exact hu6'.out) hnew8'.out hold8'.out hat8'.out
    have hL4' := hide' hL4
    have hFr4' := hide' hFr4
    clear hL4 hFr4 hnew8' hold8' hat8'
    go_wp2
    go_ret
    exact lent_done hL4'.out hFr'.out hFr4'.out hFR.out hg2.out.1 hlt3.out hgt'.out
  refine AllReadyH.cons (o := { dst := some 29, op := Op.buildSlice 33 1 #[(0, Operand.tmp 28)], type := 33, pos := "keep.go:216", after := #[{ on := 7, ground := Ground.data }], guard := none }) rfl (fun K hK => ?_) AllReadyH.nil
  go_simp
  refine hK.out _ _ ?_ (fun hHeld => ?_)
  · trivial
  clear hK K
  try simp only [Act.put, List.setIfInBounds_toArray, List.set_cons_zero, List.set_cons_succ]
  refine wpAnyH_ready (rs := [4]) (by kernel_rfl) (by simp) ?_
  refine AllReadyH.cons (o := { dst := some 25, op := Op.load 33 (Operand.tmp 24), type := 33, pos := "keep.go:216", after := #[{ on := 3, ground := Ground.data }], guard := none }) rfl (fun K hK => ?_) AllReadyH.nil
  go_simp
  refine hK.out _ _ ?_ (fun hHeld => ?_)
  · trivial
  clear hK K
  try simp only [Act.put, List.setIfInBounds_toArray, List.set_cons_zero, List.set_cons_succ]
  refine wpAnyH_ready (rs := [9]) (by kernel_rfl) (by simp) ?_
  refine AllReadyH.cons (o := { dst := some 30, op := Op.call { callee := Callee.builtin Builtin.append, args := #[Operand.tmp 25, Operand.tmp 29], argTypes := #[33, 33] }, type := 33, pos := "keep.go:216", after := #[{ on := 4, ground := Ground.data }, { on := 8, ground := Ground.data }, { on := 7, ground := Ground.chain }], guard := none }) rfl (fun K hK => ?_) AllReadyH.nil
  rw [if_pos (by rfl)]
  refine wp_append_two _ (.tmp 25) (.tmp 29) 33 rfl 0 23 iL (.slice none 0 0) 1 24 Tryz.underlying33 hiL hzL0 hzL1 hzL2 rfl (by decide) ow m us rfl hO7.out ⟨w6.heap.size, 0, none⟩ 1 1 [.slice ou6 F.length cu6] rfl rfl (cell_one_new _ _ _) (by simpa using h1u.out) (by decide) (by unfold maxLen; omega) (by omega) (Nat.zero_le _) ?_; intro g8 cap8 w8 hnew8 hold8 hat8; have hb8 := boxR hLN'.out hB6.out hat8; have c8 := hb8.c1; have f8 := hb8.fz 1; have hnew8' := hide' hnew8; have hold8' := hide' hold8; have hat8' := hide' hat8; clear hb8 hnew8 hold8 hat8; (try dsimp only)
  refine hK.out _ _ ?_ (fun hHeld => ?_)
  · trivial
  clear hK K
  try simp only [Act.put, List.setIfInBounds_toArray, List.set_cons_zero, List.set_cons_succ]
  refine wpAnyH_take (i := 10) (oi := { dst := some 31, op := Op.nilCheck (Operand.tmp 21), type := 0, pos := "keep.go:216", after := #[{ on := 0, ground := Ground.data }, { on := 0, ground := Ground.phase }, { on := 1, ground := Ground.phase }, { on := 2, ground := Ground.phase }, { on := 3, ground := Ground.phase }, { on := 4, ground := Ground.phase }, { on := 5, ground := Ground.phase }, { on := 6, ground := Ground.phase }, { on := 7, ground := Ground.phase }, { on := 8, ground := Ground.phase }, { on := 9, ground := Ground.phase }], guard := none }) (v := ?_) rfl (by kernel_rfl) (by kernel_rfl) (by kernel_rfl) (fun _ _ _ h => h) (Or.inl ⟨by rfl, ?_⟩) (by assumption) ?_
  rotate_left
  · intro w hSw; (try dsimp only at hSw); go_simp <;> with_reducible rfl
  simp only [Act.put, List.setIfInBounds_toArray, List.set_cons_zero, List.set_cons_succ]
  refine wpAnyH_take (i := 11) (oi := { dst := some 32, op := Op.fieldAddr 40 (Operand.tmp 31) 1, type := 0, pos := "keep.go:216", after := #[{ on := 10, ground := Ground.data }, { on := 0, ground := Ground.phase }, { on := 1, ground := Ground.phase }, { on := 2, ground := Ground.phase }, { on := 3, ground := Ground.phase }, { on := 4, ground := Ground.phase }, { on := 5, ground := Ground.phase }, { on := 6, ground := Ground.phase }, { on := 7, ground := Ground.phase }, { on := 8, ground := Ground.phase }, { on := 9, ground := Ground.phase }], guard := none }) (v := ?_) rfl (by kernel_rfl) (by kernel_rfl) (by kernel_rfl) (fun _ _ _ h => h) (Or.inl ⟨by rfl, ?_⟩) (by assumption) ?_
  rotate_left
  · intro w hSw; (try dsimp only at hSw); go_simp <;> with_reducible rfl
  simp only [Act.put, List.setIfInBounds_toArray, List.set_cons_zero, List.set_cons_succ]
  refine wpAnyH_ready (rs := [12]) (by kernel_rfl) (by simp) ?_
  refine AllReadyH.cons (o := { dst := none, op := Op.store 33 (Operand.tmp 32) (Operand.tmp 30), type := 0, pos := "keep.go:216", after := #[{ on := 11, ground := Ground.data }, { on := 9, ground := Ground.data }, { on := 9, ground := Ground.chain }, { on := 0, ground := Ground.phase }, { on := 1, ground := Ground.phase }, { on := 2, ground := Ground.phase }, { on := 3, ground := Ground.phase }, { on := 4, ground := Ground.phase }, { on := 5, ground := Ground.phase }, { on := 6, ground := Ground.phase }, { on := 7, ground := Ground.phase }, { on := 8, ground := Ground.phase }, { on := 9, ground := Ground.phase }], guard := none }) rfl (fun K hK => ?_) AllReadyH.nil
  go_simp
  refine hK.out _ _ ?_ (fun hHeld => ?_)
  · trivial
  clear hK K
  try simp only [Act.put, List.setIfInBounds_toArray, List.set_cons_zero, List.set_cons_succ]
  refine wpAnyH_done (by kernel_rfl) ?_ _
  skip
  obtain ⟨tag4, hL4, hFr4⟩ := stageW hLN'.out hB6.out (by rw [hrm'.out]; exact hu6'.out) hnew8'.out hold8'.out hat8'.out
  have hL4' := hide' hL4
  have hFr4' := hide' hFr4
  clear hL4 hFr4 hnew8' hold8' hat8'
  go_wp2
  go_ret
  exact lent_done hL4'.out hFr'.out hFr4'.out hFR.out hg2.out.1 hlt3.out hgt'.out
end Go.Proofs.YtlijlelejobchaaGreatDoor.K

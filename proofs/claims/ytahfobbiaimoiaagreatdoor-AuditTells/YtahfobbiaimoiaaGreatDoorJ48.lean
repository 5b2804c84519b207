/- Pieces of a row of pairs, and what appends them. -/
import Derived.Test.YtahfobbiaimoiaaGreatDoorJ32
import Derived.Test.YtahfobbiaimoiaaGreatDoorJ37
import Derived.Laws.AppendOwnNone
import Derived.OpenShut
namespace Go.Proofs.YtahfobbiaimoiaaGreatDoor
open Go.RowKit O
/-- A piece of a row, as it is read. -/
def Seg (W : World) (sv : Value) (m : Nat) (news : List Value) : Prop :=
  (sv = .slice none 0 0 ∧ m = 0 ∧ news = []) ∨ ∃ ad c, sv = .slice (some ad) m c ∧ news.length = m * 2 ∧ ad.block < W.heap.size ∧ ∀ j u, news[j]? = some u → W.cell? (ad.add j) = some u
theorem Seg.over {W W' : World} {sv : Value} {m : Nat} {news : List Value} (h : Seg W sv m news) (hb : Below W.heap.size W W') : Seg W' sv m news := by
  rcases h with h | ⟨ad, c, h1, h2, h3, h4⟩
  · exact .inl h
  · refine .inr ⟨ad, c, h1, h2, Nat.lt_of_lt_of_le h3 hb.size, fun j u hu => ?_⟩
    have := h4 j u hu
    rw [← this]
    exact hb.cell (p := ad.add j) (by unfold Addr.add; split <;> exact h3)
theorem cellsP_take (l : List (Int × Int)) (k : Nat) : cellsP (l.take k) = (cellsP l).take (k * 2) := by
  induction k generalizing l with
  | zero => simp [cellsP]
  | succ k ih =>
    cases l with
    | nil => simp [cellsP]
    | cons a l =>
      have e : ∀ l, cellsP (a :: l) = .int .i64 a.1 :: .int .i64 a.2 :: cellsP l := fun l => rfl
      rw [List.take_succ_cons, e, e, ih, show (k + 1) * 2 = k * 2 + 1 + 1 by omega, List.take_succ_cons, List.take_succ_cons]
theorem cellsP_drop (l : List (Int × Int)) (k : Nat) : cellsP (l.drop k) = (cellsP l).drop (k * 2) := by
  induction k generalizing l with
  | zero => simp
  | succ k ih =>
    cases l with
    | nil => simp [cellsP]
    | cons a l =>
      have e : cellsP (a :: l) = .int .i64 a.1 :: .int .i64 a.2 :: cellsP l := rfl
      rw [List.drop_succ_cons, e, ih, show (k + 1) * 2 = k * 2 + 1 + 1 by omega, List.drop_succ_cons, List.drop_succ_cons]
theorem elem33 : Tryz.prog.underlying 58 = some (.slice (Tryz.prog.elem 58)) := by kernel_rfl
theorem size33 (V : World) : (sizeOf (Tryz.prog.elem 58)).run Tryz.prog V = .ok 2 V := by kernel_rfl
/-- The head of a row. -/
theorem seg_head {W : World} {B : Nat} {ov : Option Addr} {cv : Nat} {l : List (Int × Int)} (h : W.ownsRow B 93 2 (.slice ov l.length cv) l.length (cellsP l)) {k : Nat} (hk : k ≤ l.length) :
    ∃ sv, (∀ V : World, (Instr.sliceAt 58 (.slice ov l.length cv) none (some (.int .i64 (k : Int))) none).run Tryz.prog V = .ok sv V) ∧ Seg W sv k (cellsP (l.take k)) := by
  rcases h.2 with ⟨h1, h2⟩ | ⟨g, cap', cur, h1, _, hg, hcap, _⟩
  · have hl : l = [] := List.eq_nil_of_length_eq_zero h2
    subst hl
    cases h1
    obtain rfl : k = 0 := by simpa using hk
    refine ⟨.slice none 0 0, fun V => ?_, .inl ⟨rfl, rfl, rfl⟩⟩
    rw [run_sliceAt_slice _ _ _ _ _ _ elem33, run_slice_h _ _ _ _ _ elem33 _ _ (by simp) (by simp), size33]
    rfl
  · cases h1
    refine ⟨.slice (some ⟨g, 0, none⟩) k cv, fun V => ?_, .inr ⟨_, _, rfl, ?_, (Array.getElem?_eq_some_iff.1 hg).1, fun j u hu => ?_⟩⟩
    · rw [run_sliceAt_slice _ _ _ _ _ _ elem33, run_slice_h _ _ _ _ _ elem33 _ _ (by omega) (by omega), size33]
      show Result.ok (sliced (some ⟨g, 0, none⟩) 0 (k : Int).toNat cv 2) V = _
      unfold sliced
      congr 1
      simp [Addr.add]
    · rw [cellsP_len, List.length_take]; omega
    · rw [cellsP_take, List.getElem?_take] at hu
      split at hu
      · rename_i hj
        have := h.cellAt j (by omega)
        rw [hu] at this
        rw [← this, Addr.add_lit]
        try rw [Nat.zero_add]
      · cases hu
/-- The rest of a row. -/
theorem seg_rest {W : World} {B : Nat} {ov : Option Addr} {cv : Nat} {l : List (Int × Int)} (h : W.ownsRow B 93 2 (.slice ov l.length cv) l.length (cellsP l)) {k : Nat} (hk : k ≤ l.length) :
    ∃ sv, (∀ V : World, (Instr.sliceAt 58 (.slice ov l.length cv) (some (.int .i64 (k : Int))) none none).run Tryz.prog V = .ok sv V) ∧ Seg W sv (l.length - k) (cellsP (l.drop k)) := by
  rcases h.2 with ⟨h1, h2⟩ | ⟨g, cap', cur, h1, _, hg, hcap, _⟩
  · have hl : l = [] := List.eq_nil_of_length_eq_zero h2
    subst hl
    cases h1
    obtain rfl : k = 0 := by simpa using hk
    refine ⟨.slice none 0 0, fun V => ?_, .inl ⟨rfl, rfl, rfl⟩⟩
    rw [run_sliceAt_slice _ _ _ _ _ _ elem33, run_slice_l _ _ _ _ _ elem33 _ _ (by simp) (by simp), size33]
    rfl
  · cases h1
    by_cases e : cv = k
    · have hz : l.length - k = 0 := by omega
      refine ⟨.slice (some ⟨g, 0, none⟩) (l.length - k) (cv - k), fun V => ?_, .inr ⟨_, _, rfl, ?_, (Array.getElem?_eq_some_iff.1 hg).1, fun j u hu => ?_⟩⟩
      · rw [run_sliceAt_slice _ _ _ _ _ _ elem33, run_slice_l _ _ _ _ _ elem33 _ _ (by omega) (by omega), size33]
        show Result.ok (sliced (some ⟨g, 0, none⟩) (k : Int).toNat l.length cv 2) V = _
        unfold sliced
        rw [Int.toNat_natCast, if_pos e]
      · rw [cellsP_len, List.length_drop]
      · rw [List.drop_eq_nil_of_le (by omega)] at hu
        simp [cellsP] at hu
    · refine ⟨.slice (some ⟨g, k * 2, none⟩) (l.length - k) (cv - k), fun V => ?_, .inr ⟨_, _, rfl, ?_, (Array.getElem?_eq_some_iff.1 hg).1, fun j u hu => ?_⟩⟩
      · rw [run_sliceAt_slice _ _ _ _ _ _ elem33, run_slice_l _ _ _ _ _ elem33 _ _ (by omega) (by omega), size33]
        show Result.ok (sliced (some ⟨g, 0, none⟩) (k : Int).toNat l.length cv 2) V = _
        unfold sliced
        rw [Int.toNat_natCast, if_neg e]
        simp [Addr.add_lit]
      · rw [cellsP_len, List.length_drop]
      · rw [cellsP_drop, List.getElem?_drop] at hu
        have hj : k * 2 + j < l.length * 2 := by
          have := (List.getElem?_eq_some_iff.1 hu).1
          rw [cellsP_len] at this
          exact this
        have := h.cellAt (k * 2 + j) (by omega)
        rw [hu] at this
        rw [← this, Addr.add_lit]
        try rw [Nat.zero_add]
/-- A piece appended to a row of one's own. -/
theorem app_seg {W : World} {ops : Array Oper} {rest : List Oper} {o : Oper} {a : Act} {Q : Exit → Act → World → Prop} (hgd : o.guard = none) (s x : Operand)
    (ho : o.op = .call { callee := .builtin .append, args := #[s, x], argTypes := #[58, 58] })
    (B : Nat) (v : Value) (n : Nat) (xs : List Value) (hs : a.eval s = v) (hown : W.ownsRow B 93 2 v n xs)
    (sv : Value) (m : Nat) (L : List (Int × Int)) (hx : a.eval x = sv) (hseg : Seg W sv m (cellsP L)) (hn : n + m ≤ 4000000) (hB : B ≤ W.heap.size)
    (h : ∀ v' w', w'.ownsRow B 93 2 v' (n + m) (xs ++ cellsP L) → W.grownBy w' v.ownBlock → wpList Tryz.prog ops Q rest (a.put o.dst v') w') : wpList Tryz.prog ops Q (o :: rest) a W := by
  obtain ⟨i0, hi, hz0, hz1, hz2⟩ := info_parts O.infoP
  rcases hseg with ⟨rfl, rfl, h3⟩ | ⟨ad, c, rfl, h2, _, h4⟩
  · refine wpList_append_own_none hgd s x 58 ho B 93 i0 2 Tryz.underlying58 hi v n xs hs hown hx (h v W ?_ (World.grownBy.refl _ _))
    rw [h3, List.append_nil]; exact hown
  · exact wpList_append_own W hgd s x 58 ho B 93 i0 (.agg #[.int .i64 0, .int .i64 0]) 2 16 Tryz.underlying58 hi hz0 hz1 hz2 rfl (by decide) v n xs hs hown ad m c (cellsP L) hx h2 h4 (cellsP_one L) (by unfold maxLen; omega) (by omega) hB (fun v' w' h5 h6 _ => h v' w' h5 h6)
end Go.Proofs.YtahfobbiaimoiaaGreatDoor

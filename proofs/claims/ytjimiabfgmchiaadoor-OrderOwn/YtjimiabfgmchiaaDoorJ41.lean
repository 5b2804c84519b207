/- order's Least: the row in which at each turn the ready one of least priority comes. -/
import Derived.Test.YtjimiabfgmchiaaDoorOWords
import Derived.Test.YtjimiabfgmchiaaDoorJ40
import Derived.Laws.AppendOwnNone
import Derived.Laws.MakeOwn
namespace Go.Proofs.YtjimiabfgmchiaaDoor
open Go.RowKit Go.Shelf
theorem infoIV : (Tryd.prog.info? 3).map (fun i => (i.zero, i.size, i.bytes)) = some (some (.int .i64 0), 1, 8) := by kernel_rfl
def cellsN (l : List Nat) : List Value := l.map fun k : Nat => Value.int .i64 (k : Int)
theorem cellsN_snoc (l : List Nat) (a : Nat) : cellsN (l ++ [a]) = cellsN l ++ [.int .i64 (a : Int)] := by simp [cellsN]
/-- One block alone may have been turned. -/
structure OneB (W W' : World) (b : Option Nat) (t : TypeId) : Prop where
  size : W.heap.size ≤ W'.heap.size
  block : ∀ k, k < W.heap.size → b ≠ some k → W'.heap[k]? = W.heap[k]?
  kind : ∀ k, b = some k → ∃ c f, W.heap[k]? = some (.cells c t f)
theorem OneB.boxed {W W' : World} {b : Option Nat} {t t' : TypeId} {k : Nat} {v : Value} (h : OneB W W' b t) (hb : Boxed W k t' v) (hne : t' ≠ t) : Boxed W' k t' v := by
  unfold Boxed at *
  rw [h.block k (Array.getElem?_eq_some_iff.1 hb).1 (fun e => ?_)]
  · exact hb
  · obtain ⟨c, f, hc⟩ := h.kind k e
    rw [hb] at hc
    cases hc
    exact hne rfl
theorem OneB.owns {W W' : World} {b : Option Nat} {t : TypeId} {base : Nat} {e : TypeId} {size : Nat} {v : Value} {n : Nat} {xs : List Value} (h : OneB W W' b t) (ho : W.ownsRow base e size v n xs) (hne : e ≠ t) : W'.ownsRow base e size v n xs := by
  refine ⟨ho.1, ?_⟩
  rcases ho.2 with hn | ⟨g, cap, cur, rfl, hb0, hgg, rest⟩
  · exact .inl hn
  · refine .inr ⟨g, cap, cur, rfl, hb0, ?_, rest⟩
    rw [h.block g (Array.getElem?_eq_some_iff.1 hgg).1 (fun e1 => ?_)]
    · exact hgg
    · obtain ⟨c, f, hc⟩ := h.kind g e1
      rw [hgg] at hc
      cases hc
      exact hne rfl
theorem OneB.hpv {W W' : World} {b : Option Nat} {t : TypeId} {B q m : Nat} {g : Nat → Ent} (h : OneB W W' b t) (hh : HpV B q W m g) (h1 : 81 ≠ t) (h2 : 84 ≠ t) : HpV B q W' m g := by
  obtain ⟨hq, rv, f, a1, a2, a3, a4, a5⟩ := hh
  exact ⟨hq, rv, f, h.boxed a1 h1, h.owns a2 h2, a3, a4, a5⟩
theorem OneB.set {W : World} {b : Nat} {t : TypeId} {v : Value} (h : Boxed W b t v) (u : Value) : OneB W (W.setCell ⟨b, 0, none⟩ u) (some b) t := ⟨by simp [World.setCell], fun k _ hne => Below.heap_setCell _ _ _ _ (fun e => hne (by rw [e])), fun k e => by cases e; exact ⟨_, _, h⟩⟩
theorem OneB.grown {W W' : World} {base n : Nat} {v : Value} {xs : List Value} {o : Obj} (ho : W.ownsRow base 3 1 v n xs) (hg : (W.alloc o).grownBy W' v.ownBlock) : OneB W W' v.ownBlock 3 := by
  refine ⟨?_, fun k hk hne => ?_, fun k e => Go.Lib.ownsRow_kind ho k e⟩
  · have := hg.size; simp at this; omega
  · rw [hg.block k (by simp; omega) (fun e => hne e.symm), Below.heap_alloc _ _ _ hk]
theorem owns_fz {W W' : World} {base : Nat} {v : Value} {n : Nat} {xs : List Value} (ho : W.ownsRow base 3 1 v n xs) (hf : FzT W W') : W'.ownsRow base 3 1 v n xs := by
  refine ⟨ho.1, ?_⟩
  rcases ho.2 with hn | ⟨g, cap, cur, rfl, hb0, hgg, rest⟩
  · exact .inl hn
  · refine .inr ⟨g, cap, cur, rfl, hb0, ?_, rest⟩
    rw [hf.block g (Array.getElem?_eq_some_iff.1 hgg).1 (fun c e f hc => by rw [hgg] at hc; cases hc; exact ⟨by decide, by decide⟩)]
    exact hgg
theorem own_formI {w : World} {base n : Nat} {v : Value} {xs : List Value} (h : w.ownsRow base 3 1 v n xs) : ∃ oa cap, v = .slice oa n cap := by
  rcases h.2 with ⟨rfl, rfl⟩ | ⟨g, cap, cur, rfl, _⟩
  · exact ⟨_, _, rfl⟩
  · exact ⟨_, _, rfl⟩
/-- What Least holds behind so many turns. -/
structure LsS (n : Nat) (R : Nat → Nat → Bool) (p : Nat → Int) (w : World) (q rb pb dn : Nat) (vP : Value) (c : Nat) (rv : Value) (W : World) : Prop where
  old : Below w.heap.size w W
  br : Boxed W rb 79 (.pointer (some ⟨q, 0, none⟩))
  bp : Boxed W pb 24 vP
  bd : Boxed W dn 65 (.int .u64 ((dK n R p c : Nat) : Int))
  row : W.ownsRow w.heap.size 3 1 rv c (cellsN (lK n R p c))
  hp : ∃ l, LRd n R (dK n R p c) l ∧ HpV w.heap.size q W l.length (lst p l)
  dw : isDown n R (dK n R p c)
  cn : cnt n (dK n R p c) = c
section
variable {n : Nat} {R : Nat → Nat → Bool} {p : Nat → Int} {w W W' : World} {q rb pb dn c : Nat} {vP rv : Value}
theorem LsS.below (h : LsS n R p w q rb pb dn vP c rv W) (hb : Below W.heap.size W W') : LsS n R p w q rb pb dn vP c rv W' := by
  obtain ⟨l, h1, h2⟩ := h.hp
  exact ⟨h.old.trans (hb.mono h.old.size), bxb h.br hb h.br.lt, bxb h.bp hb h.bp.lt, bxb h.bd hb h.bd.lt, owns_fz h.row (FzT.below hb), ⟨l, h1, h2.below hb⟩, h.dw, h.cn⟩
end
theorem enterO (B q rb pb : Nat) (w : World) (n : Nat) (oP : Option Addr) (cP : Nat) (p : Nat → Int) (l : List (Fin 64)) (x : Nat) (hx : x < 18446744073709551616) (ht : Tab w) (hB : B ≤ w.heap.size) (hG : 1 ≤ B) (br : Boxed w rb 79 (.pointer (some ⟨q, 0, none⟩))) (bp : Boxed w pb 24 (.slice oP n cP)) (hH : HpV B q w l.length (lst p l)) (hm : l.length ≤ 800) (hpr : ∀ k ∈ nums x, k.val < n ∧ ∃ gP o, oP = some ⟨gP, o, none⟩ ∧ w.cell? ⟨gP, o + k.val, none⟩ = some (.int .i64 (p k.val)) ∧ gP < B) :
    Calls Tryd.prog 33 #[.agg #[.int .u64 x], .pointer (some ⟨rb, 0, none⟩), .pointer (some ⟨pb, 0, none⟩)] w fun e w' => e = .returned (.tuple #[]) ∧ Hid (HpV B q w' (l ++ nums x).length (lst p (l ++ nums x))) ∧ Hid (FzT w w') ∧ Hid (Below B w w') := by
  refine (callsIn_wide.1 (enterC B q rb pb w n oP cP p l.length (lst p l) x hx ht hB hG br bp hH (by omega) hpr)).mono ?_
  rintro e w' ⟨rfl, h1, h2, h3⟩
  refine ⟨rfl, ?_, h2, h3⟩
  have h4 := ext_lst p l (nums x)
  rw [List.length_append] at h4 ⊢
  exact h1.re h4
theorem pigeon : ∀ (N L : Nat) (f : Nat → Nat), (∀ i, i < L → f i < N) → (∀ i j, i < L → j < L → f i = f j → i = j) → L ≤ N := by
  intro N
  induction N with
  | zero => intro L f h _; rcases Nat.eq_zero_or_pos L with h0 | h0; omega; have := h 0 h0; omega
  | succ N ih =>
    intro L f h hi
    rcases Nat.eq_zero_or_pos L with h0 | h0
    · omega
    · obtain ⟨M, rfl⟩ : ∃ M, L = M + 1 := ⟨L - 1, by omega⟩
      have hM := h M (by omega)
      have := ih M (fun i => if f i = N then f M else f i) (fun i hi' => ?_) (fun i j hi' hj' e => ?_)
      · omega
      · show (if f i = N then f M else f i) < N
        have h1 := h i (by omega)
        by_cases e : f i = N
        · rw [if_pos e]
          have : f M ≠ N := fun e2 => by have := hi i M (by omega) (by omega) (e.trans e2.symm); omega
          omega
        · rw [if_neg e]; omega
      · have e' : (if f i = N then f M else f i) = (if f j = N then f M else f j) := e
        by_cases e1 : f i = N
        · by_cases e2 : f j = N
          · exact hi i j (by omega) (by omega) (e1.trans e2.symm)
          · rw [if_pos e1, if_neg e2] at e'
            have := hi M j (by omega) (by omega) e'
            omega
        · by_cases e2 : f j = N
          · rw [if_neg e1, if_pos e2] at e'
            have := hi i M (by omega) (by omega) e'
            omega
          · rw [if_neg e1, if_neg e2] at e'
            exact hi i j (by omega) (by omega) e'
theorem LRd_len {n : Nat} {R : Nat → Nat → Bool} {D : Nat} {l : List (Fin 64)} (h : LRd n R D l) : l.length ≤ 64 :=
  pigeon 64 l.length (fun i => (l.getD i 0).val) (fun i _ => (l.getD i 0).isLt) (fun i j hi hj e => h.1 i j hi hj (Fin.ext e))
section
variable {go gp gs n : Nat} {R : Nat → Nat → Bool} {Pf Sf : Nat → Nat} {w : World} {p : Nat → Int}
/-- A priority as it lies. -/
def PrA (w : World) (oP : Option Addr) (n : Nat) (p : Nat → Int) : Prop := ∀ k, k < n → ∃ gP o, oP = some ⟨gP, o, none⟩ ∧ w.cell? ⟨gP, o + k, none⟩ = some (.int .i64 (p k))
theorem cnt_le (n d : Nat) : cnt n d ≤ n := by
  unfold cnt
  refine Nat.le_trans List.countP_le_length ?_
  simp
end
end Go.Proofs.YtjimiabfgmchiaaDoor

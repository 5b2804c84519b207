/- A book and a loan of rows of words beside each other. -/
import Derived.Test.YtmoiedlchcceaaaDoorJ09
import Derived.Test.YtmoiedlchcceaaaDoorJ16
import Derived.Test.YtmoiedlchcceaaaDoorJ18
namespace Go.Proofs.YtmoiedlchcceaaaDoor
open Go.RowKit
/-- The book at b, the loan behind it; what was there before them stands. -/
structure OwM (w2 W : World) (b : Nat) (tB tL : Nat → Nat) (m : Nat) : Prop where
  bk : K.Book W b tB
  ln : KU.Loan W (b + 1) tL m
  dis : ∀ g, tB g = 0 ∨ tL g = 0
  lowB : ∀ g, g < b → tB g = 0
  lowL : ∀ g, g < b → tL g = 0
  old : Below b w2 W
section
variable {w2 W W' : World} {b : Nat} {tB tL tB' tL' : Nat → Nat} {m : Nat}
theorem LoanM.fresh {p : Nat} (h : KU.Loan W p tL m) : ∀ g, W.heap.size ≤ g → tL g = 0 := by
  obtain ⟨_, _, _, _, _, h⟩ := h
  exact h.fresh
theorem LoanM.lt {p : Nat} (h : KU.Loan W p tL m) : p < W.heap.size := by
  obtain ⟨_, _, _, _, _, h⟩ := h
  exact h.box.lt
theorem BookM.mv (h : K.Book W b tB) (s : K.Sm (· = 0) tB W W') : K.Book W' b tB := by
  obtain ⟨ov, ow, m, vs, us, rows, N, h⟩ := h
  exact ⟨ov, ow, m, vs, us, rows, N, h.box.mv s (by rw [h.bt]; decide), h.bt, h.live.mv s (by decide) (fun j _ => by omega), h.want.mv s (by decide) (fun j _ => by omega), fun g hg => h.fresh g (Nat.le_trans s.size hg), h.hN, h.hrow⟩
theorem LoanM.mv {p : Nat} (h : KU.Loan W p tL m) (s : K.Sm (· = 0) tL W W') : KU.Loan W' p tL m := by
  obtain ⟨ov, ow, vs, us, rows, h⟩ := h
  exact ⟨ov, ow, vs, us, rows, h.mv s⟩
theorem OwM.below (h : OwM w2 W b tB tL m) (hb : Below W.heap.size W W') : OwM w2 W' b tB tL m :=
  ⟨h.bk.below hb, LoanM.mv h.ln (K.Sm.below hb), h.dis, h.lowB, h.lowL, h.old.trans (hb.mono (by have := LoanM.lt h.ln; omega))⟩
theorem OwM.loan (h : OwM w2 W b tB tL m) {m' : Nat} (hk : KU.Loan W' (b + 1) tL' m') (hf : K.FrL tL W tL' W') : OwM w2 W' b tB tL' m' := by
  have hlt := LoanM.lt h.ln
  have hB : ∀ g, tB g ≠ 0 → tL g = 0 := fun g e => (h.dis g).resolve_left e
  have hbf := h.bk.fresh
  refine ⟨BookM.mv h.bk ⟨hf.os, hf.tape, hf.output, hf.size, fun g hg hx => hf.block g hg (by rw [hB g hx]; decide) (by rw [hB g hx]; decide) (by rw [hB g hx]; decide)⟩, hk, fun g => ?_, h.lowB, fun g hg => (hf.tg g (by omega)).trans (h.lowL g hg), h.old.trans ⟨hf.os, hf.tape, hf.output, hf.size, fun g hg => hf.block g (by omega) (by rw [h.lowL g hg]; decide) (by rw [h.lowL g hg]; decide) (by rw [h.lowL g hg]; decide)⟩⟩
  rcases Nat.lt_or_ge g W.heap.size with hg | hg
  · rw [hf.tg g hg]; exact h.dis g
  · exact .inl (hbf g hg)
/-- A row that is new is taken in. -/
theorem OwM.book (h : OwM w2 W b tB tL m) {v : Value} (hk : K.Book W' b tB') (hf : K.Fr tB v W tB' W') (hx : ∀ g, v.ownBlock = some g → tL g = 0 ∧ b + 2 ≤ g) : OwM w2 W' b tB' tL m := by
  have hlt := LoanM.lt h.ln
  have hL : ∀ g, tL g ≠ 0 → tB g = 0 := fun g e => (h.dis g).resolve_right e
  have hlf := LoanM.fresh h.ln
  have hxn : ∀ g, tL g ≠ 0 → v.ownBlock ≠ some g := fun g e e2 => e (hx g e2).1
  have hxl : ∀ g, g < b + 2 → v.ownBlock ≠ some g := fun g e e2 => by have := (hx g e2).2; omega
  refine ⟨hk, LoanM.mv h.ln ⟨hf.os, hf.tape, hf.output, hf.size, fun g hg e => hf.block g hg (hL g e) (hxn g e)⟩, fun g => ?_, fun g hg => hf.tg g (by omega) (h.lowB g hg) (hxl g (by omega)), h.lowL, h.old.trans ⟨hf.os, hf.tape, hf.output, hf.size, fun g hg => hf.block g (by omega) (h.lowB g hg) (hxl g (by omega))⟩⟩
  rcases Nat.lt_or_ge g W.heap.size with hg | hg
  · by_cases e : tL g = 0
    · exact .inr e
    · exact .inl (hf.tg g hg (hL g e) (hxn g e))
  · exact .inr (hlf g hg)
end
/-- What stands between the law's calls. -/
def Zm (w2 W : World) (b M : Nat) : Prop := ∃ tB tL m, OwM w2 W b tB tL m ∧ m ≤ M
section
variable {w2 W W' : World} {b M : Nat}
theorem Zm.below (h : Zm w2 W b M) (hb : Below W.heap.size W W') : Zm w2 W' b M := by
  obtain ⟨tB, tL, m, h1, h2⟩ := h
  exact ⟨tB, tL, m, h1.below hb, h2⟩
theorem Zm.more (h : Zm w2 W b M) {M' : Nat} (hM : M ≤ M') : Zm w2 W b M' := by
  obtain ⟨tB, tL, m, h1, h2⟩ := h
  exact ⟨tB, tL, m, h1, Nat.le_trans h2 hM⟩
theorem Zm.old (h : Zm w2 W b M) : Below b w2 W := by
  obtain ⟨tB, tL, m, h1, h2⟩ := h
  exact h1.old
theorem zmLoan (hZ : Zm w2 W b M) (hM : M ≤ 90000) (lv : Value) (l : List Int) (hr : KU.RowI W lv l) (hl : l.length ≤ 1000) :
    Calls Tryd.prog 5 #[.pointer (some ⟨b + 1, 0, none⟩), lv] W fun e w' => ∃ g cap, e = .returned (.slice (some ⟨g, 0, none⟩) l.length cap) ∧ Hid (Zm w2 w' b (M + 1)) ∧ Hid (KU.RowI w' (.slice (some ⟨g, 0, none⟩) l.length cap) l) := by
  obtain ⟨tB, tL, m, hO, hm⟩ := hZ
  refine (KU.loanRows (b + 1) tL m lv l W hO.ln hr hl (by omega)).mono ?_
  rintro e w' ⟨g, cap, tL', rfl, hk, hf, hrow, hg, ht⟩
  exact ⟨g, cap, rfl, ⟨tB, tL', m + 1, hO.loan hk hf, by omega⟩, hrow⟩
theorem zmBook (hZ : Zm w2 W b M) {W2 : World} (h2 : Below W.heap.size W W2) (x : Value) (k : Nat) (l : List Int) (hv : W2.ownsRow W.heap.size 3 1 x k (K.cellsI l)) (hl : l.length ≤ 1000000) :
    Calls Tryd.prog 7 #[.pointer (some ⟨b, 0, none⟩), x] W2 fun e w' => e = .returned (.tuple #[]) ∧ Hid (Zm w2 w' b M) := by
  obtain ⟨tB, tL, m, hO, hm⟩ := hZ
  have hn : k = l.length := by have := hv.1; simp [K.cellsI] at this; omega
  subst hn
  have hlt := LoanM.lt hO.ln
  have hfB := hO.bk.fresh
  have hfL := LoanM.fresh hO.ln
  have hO2 := hO.below h2
  have hx : ∀ g, x.ownBlock = some g → W.heap.size ≤ g := fun g hg => (hv.lt g hg).1
  refine (K.bookInts b tB x l W2 hO2.bk (K.owns_low hv (Nat.zero_le _)) hl (fun g hg => hfB g (hx g hg))).mono ?_
  rintro e w' ⟨rfl, tB', hk', hf⟩
  exact ⟨rfl, tB', tL, m, hO2.book hk' hf (fun g e => ⟨hfL g (hx g e), by have := hx g e; omega⟩), hm⟩
theorem zmBack (hZ : Zm w2 W b M) (hM : M ≤ 90000) :
    Calls Tryd.prog 12 #[.pointer (some ⟨b + 1, 0, none⟩)] W fun e w' => e = .returned (.bool true) ∧ Hid (K.BookO w2 b w') := by
  obtain ⟨tB, tL, m, hO, hm⟩ := hZ
  have hlt := LoanM.lt hO.ln
  refine (KU.loanBack (b + 1) tL m W hO.ln (by omega)).mono ?_
  rintro e w' ⟨rfl, hs⟩
  refine ⟨rfl, hO.old.trans ⟨hs.os, hs.tape, hs.output, hs.size, fun g hg => hs.block g (by omega) (fun h => h (hO.lowL g hg))⟩, tB, BookM.mv hO.bk ⟨hs.os, hs.tape, hs.output, hs.size, fun g hg hx => hs.block g hg fun h => h ((hO.dis g).resolve_left hx)⟩, hO.lowB⟩
theorem famNilU (w : World) (tag : Nat → Nat) (t : Nat) (c : Nat → Nat) (rows : Nat → List Int) : KU.Fam w tag t c (.slice none 0 0) 0 [] rows :=
  ⟨World.ownsRow_nil _ _ _ _, fun g e => by simp [Value.ownBlock] at e, fun j v hj => by simp at hj, fun j v g hj => by simp at hj⟩
theorem alloc_st (W : World) (o : Obj) (s : Nat) (hs : W.heap.size = s) : (W.alloc o).heap.size = s + 1 ∧ (W.alloc o).heap[s]? = some o ∧ (∀ (g : Nat) (x : Obj), W.heap[g]? = some x → (W.alloc o).heap[g]? = some x) ∧ Below s W (W.alloc o) := by
  subst hs
  refine ⟨by simp, K.heap_new W o, fun g x h => ?_, (Below.refl _ _).alloc (Nat.le_refl _) _⟩
  rw [Below.heap_alloc _ _ _ (Array.getElem?_eq_some_iff.1 h).1]; exact h
theorem Zm.start (w2 : World) : Zm w2 ((w2.alloc (.cells #[.slice none 0 0, .slice none 0 0, .slice none 0 0, .slice none 0 0, .slice none 0 0, .slice none 0 0, .slice none 0 0, .slice none 0 0, .slice none 0 0, .slice none 0 0, .slice none 0 0, .slice none 0 0, .int .i64 0] 28)).alloc (.cells #[.slice none 0 0, .slice none 0 0, .slice none 0 0, .slice none 0 0] 32)) w2.heap.size 0 := by
  have hb := K.Book.start w2
  obtain ⟨zA, nA, kA, bA⟩ := alloc_st w2 (.cells #[.slice none 0 0, .slice none 0 0, .slice none 0 0, .slice none 0 0, .slice none 0 0, .slice none 0 0, .slice none 0 0, .slice none 0 0, .slice none 0 0, .slice none 0 0, .slice none 0 0, .slice none 0 0, .int .i64 0] 28) _ rfl
  obtain ⟨zB, nB, kB, bB⟩ := alloc_st _ (.cells #[.slice none 0 0, .slice none 0 0, .slice none 0 0, .slice none 0 0] 32) _ zA
  refine ⟨fun g => if g = w2.heap.size then 1 else 0, fun g => if g = w2.heap.size + 1 then 1 else 0, 0, ⟨hb.below (by rw [zA]; exact bB), ⟨.slice none 0 0, .slice none 0 0, [], [], fun _ => [], nB, if_pos rfl, famNilU _ _ _ _ _, famNilU _ _ _ _ _, fun g hg => if_neg (by rw [zB] at hg; omega), fun j hj => by omega⟩, fun g => ?_, fun g hg => if_neg (by omega), fun g hg => if_neg (by omega), bA.trans (bB.mono (by omega))⟩, Nat.le_refl _⟩
  by_cases e : g = w2.heap.size
  · exact .inr (if_neg (by omega))
  · exact .inl (if_neg e)
end
/-- The words of a row as numbers. -/
def natI (L : List Nat) : List Int := L.map fun z : Nat => (z : Int)
theorem natI_len (L : List Nat) : (natI L).length = L.length := by simp [natI]
theorem rowI_of_U {w : World} {n₀ e : Nat} {v : Value} {n : Nat} {L : List Nat} (h : w.ownsRow n₀ e 1 v n (M.cellsU L)) : KU.RowI w v (natI L) := by
  refine KU.RowI.of_owns (n₀ := n₀) (e := e) (n := n) ?_
  have : KU.cellsI (natI L) = M.cellsU L := by simp [KU.cellsI, natI, M.cellsU]
  rw [this]; exact h
theorem rwa_of_I {w : World} {v : Value} {L : List Nat} (h : KU.RowI w v (natI L)) (ht : Tab w) (hw : ∀ z ∈ L, z < 18446744073709551616) : M.RwA w v L.length (M.fn L) := by
  obtain ⟨oa, cap, rfl, _, hc⟩ := h
  refine ⟨⟨oa, cap, by rw [natI_len], fun r hr => hc r _ ?_⟩, ht, M.fn_lt hw⟩
  simp [natI, M.fn_get hr]
end Go.Proofs.YtmoiedlchcceaaaDoor

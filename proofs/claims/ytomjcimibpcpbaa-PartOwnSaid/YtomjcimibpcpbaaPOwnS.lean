/- A book and a loan beside each other. -/
import Derived.Test.YtomjcimibpcpbaaNBack
import Derived.Test.YtomjcimibpcpbaaPSrc3
namespace Go.Proofs.Ytomjcimibpcpbaa
open Go.RowKit
/-- The book at b, the loan behind it; what was there before them stands. -/
structure OwP (w2 W : World) (b : Nat) (tB tL : Nat → Nat) (m : Nat) : Prop where
  bk : K.Book W b tB
  ln : K.Loan W (b + 1) tL m
  dis : ∀ g, tB g = 0 ∨ tL g = 0
  lowB : ∀ g, g < b → tB g = 0
  lowL : ∀ g, g < b → tL g = 0
  old : Below b w2 W
section
variable {w2 W W' : World} {b : Nat} {tB tL tB' tL' : Nat → Nat} {m : Nat}
theorem LoanP.fresh {p : Nat} (h : K.Loan W p tL m) : ∀ g, W.heap.size ≤ g → tL g = 0 := by
  obtain ⟨_, _, _, _, _, h⟩ := h
  exact h.fresh
theorem LoanP.lt {p : Nat} (h : K.Loan W p tL m) : p < W.heap.size := by
  obtain ⟨_, _, _, _, _, h⟩ := h
  exact h.box.lt
theorem BookP.mv (h : K.Book W b tB) (s : K.Sm (· = 0) tB W W') : K.Book W' b tB := by
  obtain ⟨ov, ow, m, vs, us, rows, N, h⟩ := h
  exact ⟨ov, ow, m, vs, us, rows, N, h.box.mv s (by rw [h.bt]; decide), h.bt, h.live.mv s (by decide) (fun j _ => by omega), h.want.mv s (by decide) (fun j _ => by omega), fun g hg => h.fresh g (Nat.le_trans s.size hg), h.hN, h.hrow⟩
theorem LoanP.mv {p : Nat} (h : K.Loan W p tL m) (s : K.Sm (· = 0) tL W W') : K.Loan W' p tL m := by
  obtain ⟨ov, ow, vs, us, rows, h⟩ := h
  exact ⟨ov, ow, vs, us, rows, h.mv s⟩
theorem OwP.below (h : OwP w2 W b tB tL m) (hb : Below W.heap.size W W') : OwP w2 W' b tB tL m :=
  ⟨h.bk.below hb, LoanP.mv h.ln (K.Sm.below hb), h.dis, h.lowB, h.lowL, h.old.trans (hb.mono (by have := LoanP.lt h.ln; omega))⟩
theorem OwP.loan (h : OwP w2 W b tB tL m) {m' : Nat} (hk : K.Loan W' (b + 1) tL' m') (hf : K.FrL tL W tL' W') : OwP w2 W' b tB tL' m' := by
  have hlt := LoanP.lt h.ln
  have hB : ∀ g, tB g ≠ 0 → tL g = 0 := fun g e => (h.dis g).resolve_left e
  have hbf := h.bk.fresh
  refine ⟨BookP.mv h.bk ⟨hf.os, hf.tape, hf.output, hf.size, fun g hg hx => hf.block g hg (by rw [hB g hx]; decide) (by rw [hB g hx]; decide) (by rw [hB g hx]; decide)⟩, hk, fun g => ?_, h.lowB, fun g hg => (hf.tg g (by omega)).trans (h.lowL g hg), h.old.trans ⟨hf.os, hf.tape, hf.output, hf.size, fun g hg => hf.block g (by omega) (by rw [h.lowL g hg]; decide) (by rw [h.lowL g hg]; decide) (by rw [h.lowL g hg]; decide)⟩⟩
  rcases Nat.lt_or_ge g W.heap.size with hg | hg
  · rw [hf.tg g hg]; exact h.dis g
  · exact .inl (hbf g hg)
/-- Rows that are new are taken in. -/
theorem OwP.lists (h : OwP w2 W b tB tL m) {vs : List Value} (hk : K.Book W' b tB') (hf : K.FrV tB vs W tB' W') (hx : ∀ v ∈ vs, ∀ g, v.ownBlock = some g → tL g = 0 ∧ b + 2 ≤ g) : OwP w2 W' b tB' tL m := by
  have hlt := LoanP.lt h.ln
  have hL : ∀ g, tL g ≠ 0 → tB g = 0 := fun g e => (h.dis g).resolve_right e
  have hlf := LoanP.fresh h.ln
  have hxn : ∀ g, tL g ≠ 0 → ∀ v ∈ vs, v.ownBlock ≠ some g := fun g e v hv e2 => e (hx v hv g e2).1
  have hxl : ∀ g, g < b + 2 → ∀ v ∈ vs, v.ownBlock ≠ some g := fun g e v hv e2 => by have := (hx v hv g e2).2; omega
  refine ⟨hk, LoanP.mv h.ln ⟨hf.os, hf.tape, hf.output, hf.size, fun g hg e => hf.block g hg (hL g e) (hxn g e)⟩, fun g => ?_, fun g hg => hf.tg g (by omega) (h.lowB g hg) (hxl g (by omega)), h.lowL, h.old.trans ⟨hf.os, hf.tape, hf.output, hf.size, fun g hg => hf.block g (by omega) (h.lowB g hg) (hxl g (by omega))⟩⟩
  rcases Nat.lt_or_ge g W.heap.size with hg | hg
  · by_cases e : tL g = 0
    · exact .inr e
    · exact .inl (hf.tg g hg (hL g e) (hxn g e))
  · exact .inr (hlf g hg)
end
/-- What stands between the law's calls. -/
def Zp (w2 W : World) (b M : Nat) : Prop := ∃ tB tL m, OwP w2 W b tB tL m ∧ m ≤ M
section
variable {w2 W W' : World} {b M : Nat}
theorem Zp.below (h : Zp w2 W b M) (hb : Below W.heap.size W W') : Zp w2 W' b M := by
  obtain ⟨tB, tL, m, h1, h2⟩ := h
  exact ⟨tB, tL, m, h1.below hb, h2⟩
theorem Zp.more (h : Zp w2 W b M) {M' : Nat} (hM : M ≤ M') : Zp w2 W b M' := by
  obtain ⟨tB, tL, m, h1, h2⟩ := h
  exact ⟨tB, tL, m, h1, Nat.le_trans h2 hM⟩
theorem Zp.old (h : Zp w2 W b M) : Below b w2 W := by
  obtain ⟨tB, tL, m, h1, h2⟩ := h
  exact h1.old
theorem zpLoan (hZ : Zp w2 W b M) (hM : M ≤ 90000) (lv : Value) (l : List Int) (hr : RowI W lv l) (hl : l.length ≤ 1000) :
    Calls Try.prog 7 #[.pointer (some ⟨b + 1, 0, none⟩), lv] W fun e w' => ∃ g cap, e = .returned (.slice (some ⟨g, 0, none⟩) l.length cap) ∧ Hid (Zp w2 w' b (M + 1)) ∧ Hid (RowI w' (.slice (some ⟨g, 0, none⟩) l.length cap) l) := by
  obtain ⟨tB, tL, m, hO, hm⟩ := hZ
  refine (K.loanInts (b + 1) tL m lv l W hO.ln hr hl (by omega)).mono ?_
  rintro e w' ⟨g, cap, tL', rfl, hk, hf, hrow, hg, ht⟩
  exact ⟨g, cap, rfl, ⟨tB, tL', m + 1, hO.loan hk hf, by omega⟩, hrow⟩
theorem zpBook (hZ : Zp w2 W b M) {W2 : World} (h2 : Below W.heap.size W W2) (x : Value) (k : Nat) (l : List Int) (hv : W2.ownsRow W.heap.size 3 1 x k (cellsI l)) (hl : l.length ≤ 1000000) :
    Calls Try.prog 8 #[.pointer (some ⟨b, 0, none⟩), x] W2 fun e w' => e = .returned (.tuple #[]) ∧ Hid (Zp w2 w' b M) := by
  obtain ⟨tB, tL, m, hO, hm⟩ := hZ
  have hn : k = l.length := by have := hv.1; simp [cellsI] at this; omega
  subst hn
  have hlt := LoanP.lt hO.ln
  have hfB := hO.bk.fresh
  have hfL := LoanP.fresh hO.ln
  have hO2 := hO.below h2
  have hx : ∀ g, x.ownBlock = some g → W.heap.size ≤ g := fun g hg => (hv.lt g hg).1
  refine (K.bookInts b tB x l W2 hO2.bk (K.owns_low hv (Nat.zero_le _)) hl (fun g hg => hfB g (hx g hg))).mono ?_
  rintro e w' ⟨rfl, tB', hk', hf⟩
  have hfv := (K.FrV.refl tB W2).snoc hf
  exact ⟨rfl, tB', tL, m, hO2.lists (vs := [x]) hk' hfv (fun v hv g e => by rw [List.mem_singleton] at hv; subst hv; exact ⟨hfL g (hx g e), by have := hx g e; omega⟩), hm⟩
/-- Lists of new memory are taken in. -/
theorem zpLists (hZ : Zp w2 W b M) {W2 : World} (h2 : Below W.heap.size W W2) (ov : Value) (hN : New5 W W2 ov) :
    Calls Try.prog 17 #[.pointer (some ⟨b, 0, none⟩), ov] W2 fun e w' => e = .returned (.tuple #[]) ∧ Hid (Zp w2 w' b M) := by
  obtain ⟨tB, tL, m, hO, hm⟩ := hZ
  obtain ⟨tag, k, vs, rows, hF, hk, hrl, hnew⟩ := hN
  have hlt := LoanP.lt hO.ln
  have hfB := hO.bk.fresh
  have hfL := LoanP.fresh hO.ln
  have hO2 := hO.below h2
  have hlen := hF.len
  have hin : ∀ v ∈ vs, ∀ g, v.ownBlock = some g → W.heap.size ≤ g := fun v hv g e => by
    obtain ⟨j, hj⟩ := List.getElem?_of_mem hv
    exact hnew g (by rw [hF.itag j v g hj e]; omega)
  have hR : K.Rws W2 tB ov vs rows := by
    refine ⟨?_, fun j v hj => ⟨hF.inner j v hj, hrl j (by have := (List.getElem?_eq_some_iff.1 hj).1; omega)⟩, fun v hv g e => hfB g (hin v hv g e), fun i j u v g hij hi hj e1 e2 => ?_⟩
    · rcases hF.outer.2 with ⟨rfl, h0⟩ | ⟨g, cap, cur, rfl, _⟩
      · exact ⟨none, 0, by rw [hlen, h0], fun j v hj => by have := (List.getElem?_eq_some_iff.1 hj).1; omega⟩
      · have hg2 : tag g = 2 := hF.otag g rfl
        refine ⟨_, cap, by rw [hlen], fun j v hj => ⟨g, 0, rfl, ?_, hfB g (hnew g (by omega)), fun u hu e => ?_⟩⟩
        · have hjl := (List.getElem?_eq_some_iff.1 hj).1
          rw [Nat.zero_add, hF.outer.cellAt j (by omega)]; exact hj
        · obtain ⟨i, hi⟩ := List.getElem?_of_mem hu
          have := hF.itag i u g hi e
          omega
    · have h1 := hF.itag i u g hi e1
      have h2 := hF.itag j v g hj e2
      omega
  refine (K.bookLists b tB ov vs rows W2 hO2.bk hR (by omega)).mono ?_
  rintro e w' ⟨rfl, tB', hk', hf⟩
  exact ⟨rfl, tB', tL, m, hO2.lists hk' hf (fun v hv g e => ⟨hfL g (hin v hv g e), by have := hin v hv g e; omega⟩), hm⟩
theorem zpBack (hZ : Zp w2 W b M) (hM : M ≤ 90000) :
    Calls Try.prog 24 #[.pointer (some ⟨b + 1, 0, none⟩)] W fun e w' => e = .returned (.bool true) ∧ Hid (K.BookO w2 b w') := by
  obtain ⟨tB, tL, m, hO, hm⟩ := hZ
  have hlt := LoanP.lt hO.ln
  refine (K.loanBack (b + 1) tL m W hO.ln (by omega)).mono ?_
  rintro e w' ⟨rfl, hs⟩
  refine ⟨rfl, hO.old.trans ⟨hs.os, hs.tape, hs.output, hs.size, fun g hg => hs.block g (by omega) (fun h => h (hO.lowL g hg))⟩, tB, BookP.mv hO.bk ⟨hs.os, hs.tape, hs.output, hs.size, fun g hg hx => hs.block g hg fun h => h ((hO.dis g).resolve_left hx)⟩, hO.lowB⟩
end
end Go.Proofs.Ytomjcimibpcpbaa

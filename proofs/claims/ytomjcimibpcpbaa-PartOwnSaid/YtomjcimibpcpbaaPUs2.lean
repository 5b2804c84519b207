/- PartOwn: what its calls answer, as the law needs it. -/
import Derived.Test.YtomjcimibpcpbaaPUs
import Derived.Test.YtomjcimibpcpbaaPBlkFn
import Derived.Test.YtomjcimibpcpbaaPRank
import Derived.Test.YtomjcimibpcpbaaPOwnS
namespace Go.Proofs.Ytomjcimibpcpbaa
open Go.RowKit
theorem RowI.keepP {W W' : World} {v : Value} {l : List Int} (h : RowI W v l) (hs : ∀ g, g < W.heap.size → v.ownBlock = some g → W'.heap[g]? = W.heap[g]?) : RowI W' v l := by
  obtain ⟨oa, cap, rfl, h0, hc⟩ := h
  refine ⟨oa, cap, rfl, h0, fun i z hi => ?_⟩
  obtain ⟨g, o, rfl, e2⟩ := hc i z hi
  refine ⟨g, o, rfl, ?_⟩
  have e := hs g (cell_lt e2) rfl
  unfold World.cell? at e2 ⊢
  simp only [e]
  exact e2
/-- .. with a row that was lent. -/
def Zq (w2 W : World) (b M : Nat) (u : Value) (l : List Int) : Prop := ∃ tB tL m, OwP w2 W b tB tL m ∧ m ≤ M ∧ RowI W u l ∧ ∀ g, u.ownBlock = some g → 10 ≤ tL g
section
variable {w2 W W' : World} {b M : Nat}
theorem Zq.zp {u : Value} {l : List Int} (h : Zq w2 W b M u l) : Zp w2 W b M := by
  obtain ⟨tB, tL, m, h1, h2, _⟩ := h
  exact ⟨tB, tL, m, h1, h2⟩
theorem Zq.row {u : Value} {l : List Int} (h : Zq w2 W b M u l) : RowI W u l := by
  obtain ⟨tB, tL, m, _, _, h3, _⟩ := h
  exact h3
theorem zqLoan (hZ : Zp w2 W b M) (hM : M ≤ 90000) (lv : Value) (l : List Int) (n : Nat) (hr : RowI W lv l) (hln : l.length = n) (hl : n ≤ 1000) :
    Calls Try.prog 7 #[.pointer (some ⟨b + 1, 0, none⟩), lv] W fun e w' => ∃ g cap, e = .returned (.slice (some ⟨g, 0, none⟩) n cap) ∧ Hid (Zq w2 w' b (M + 1) (.slice (some ⟨g, 0, none⟩) n cap) l) := by
  subst hln
  obtain ⟨tB, tL, m, hO, hm⟩ := hZ
  refine (K.loanInts (b + 1) tL m lv l W hO.ln hr hl (by omega)).mono ?_
  rintro e w' ⟨g, cap, tL', rfl, hk, hf, hrow, hg, ht⟩
  exact ⟨g, cap, rfl, tB, tL', m + 1, hO.loan hk hf, by omega, hrow, fun g' e => by
    have : g = g' := by simpa [Value.ownBlock] using e
    subst this; omega⟩
theorem zqLoan2 {u : Value} {l1 : List Int} (hZ : Zq w2 W b M u l1) (hM : M ≤ 90000) (lv : Value) (l : List Int) (n : Nat) (hr : RowI W lv l) (hln : l.length = n) (hl : n ≤ 1000) :
    Calls Try.prog 7 #[.pointer (some ⟨b + 1, 0, none⟩), lv] W fun e w' => ∃ g cap, e = .returned (.slice (some ⟨g, 0, none⟩) n cap) ∧ Hid (Zp w2 w' b (M + 1) ∧ RowI w' u l1 ∧ RowI w' (.slice (some ⟨g, 0, none⟩) n cap) l) := by
  subst hln
  obtain ⟨tB, tL, m, hO, hm, hu, h10⟩ := hZ
  refine (K.loanInts (b + 1) tL m lv l W hO.ln hr hl (by omega)).mono ?_
  rintro e w' ⟨g, cap, tL', rfl, hk, hf, hrow, hg, ht⟩
  exact ⟨g, cap, rfl, ⟨tB, tL', m + 1, hO.loan hk hf, by omega⟩, hu.keepP fun q hq e => hf.block q hq (by have := h10 q e; omega) (by have := h10 q e; omega) (by have := h10 q e; omega), hrow⟩
theorem zpBookU (hZ : Zp w2 W b M) {W2 : World} (h2 : Below W.heap.size W W2) (x : Value) (k : Nat) (hv : OwnU W W2 x k) :
    Calls Try.prog 8 #[.pointer (some ⟨b, 0, none⟩), x] W2 fun e w' => e = .returned (.tuple #[]) ∧ Hid (Zp w2 w' b M) := by
  obtain ⟨l, h, hl⟩ := hv
  exact zpBook hZ h2 x k l h hl
theorem zpBlocks (hZ : Zp w2 W b M) {W2 : World} (h2 : Below W.heap.size W W2) (gt m : Nat) (vs : List Value) (rows : Nat → List Nat) (hT : Tab W.heap.size W2 gt m vs rows) (hm : m ≤ 65536) (hrl : ∀ j, (rows j).length ≤ 1000000) :
    Calls Try.prog 17 #[.pointer (some ⟨b, 0, none⟩), .slice (some ⟨gt, 0, none⟩) m m] W2 fun e w' => e = .returned (.tuple #[]) ∧ Hid (Zp w2 w' b M) := by
  obtain ⟨tB, tL, m', hO, hm'⟩ := hZ
  have hlt := LoanP.lt hO.ln
  have hfB := hO.bk.fresh
  have hfL := LoanP.fresh hO.ln
  have hO2 := hO.below h2
  have hlen := hT.len
  have hin : ∀ v ∈ vs, ∀ g, v.ownBlock = some g → W.heap.size ≤ g := fun v hv g e => by
    obtain ⟨j, hj⟩ := List.getElem?_of_mem hv
    exact own_ge (hT.inner j v hj) e
  have hR : K.Rws W2 tB (.slice (some ⟨gt, 0, none⟩) m m) vs (fun j => ints (rows j)) := by
    refine ⟨⟨_, m, by rw [hlen], fun j v hj => ⟨gt, 0, rfl, ?_, hfB gt (own_ge hT.outer rfl), fun u hu => ?_⟩⟩, fun j v hj => ⟨?_, by rw [ints_len]; exact hrl j⟩, fun v hv g e => hfB g (hin v hv g e), fun i j u v g hij hi hj e1 e2 => ?_⟩
    · have hjl := (List.getElem?_eq_some_iff.1 hj).1
      rw [Nat.zero_add, hT.outer.cellAt j (by omega)]; exact hj
    · obtain ⟨i, hi⟩ := List.getElem?_of_mem hu
      exact hT.ne hi
    · rw [ints_len]; exact K.owns_low (hT.inner j v hj) (Nat.zero_le _)
    · have := hT.dist i j u v g hi hj e1 e2; omega
  refine (K.bookLists b tB _ vs _ W2 hO2.bk hR (by omega)).mono ?_
  rintro e w' ⟨rfl, tB', hk', hf⟩
  exact ⟨rfl, tB', tL, m', hO2.lists hk' hf (fun v hv g e => ⟨hfL g (hin v hv g e), by have := hin v hv g e; omega⟩), hm'⟩
theorem Zp.start (w2 : World) : Zp w2 ((w2.alloc (.cells #[.slice none 0 0, .slice none 0 0, .slice none 0 0, .slice none 0 0, .slice none 0 0, .slice none 0 0, .slice none 0 0, .slice none 0 0, .slice none 0 0, .slice none 0 0, .slice none 0 0, .slice none 0 0, .int .i64 0] 36)).alloc (.cells #[.slice none 0 0, .slice none 0 0, .slice none 0 0, .slice none 0 0] 40)) w2.heap.size 0 := by
  have hb := K.Book.start w2
  obtain ⟨zA, nA, kA, bA⟩ := alloc_st w2 (.cells #[.slice none 0 0, .slice none 0 0, .slice none 0 0, .slice none 0 0, .slice none 0 0, .slice none 0 0, .slice none 0 0, .slice none 0 0, .slice none 0 0, .slice none 0 0, .slice none 0 0, .slice none 0 0, .int .i64 0] 36) _ rfl
  obtain ⟨zB, nB, kB, bB⟩ := alloc_st _ (.cells #[.slice none 0 0, .slice none 0 0, .slice none 0 0, .slice none 0 0] 40) _ zA
  refine ⟨fun g => if g = w2.heap.size then 1 else 0, fun g => if g = w2.heap.size + 1 then 1 else 0, 0, ⟨hb.below (by rw [zA]; exact bB), ⟨.slice none 0 0, .slice none 0 0, [], [], fun _ => [], nB, if_pos rfl, K.famNil _ _ _ _ _, K.famNil _ _ _ _ _, fun g hg => if_neg (by rw [zB] at hg; omega), fun j hj => by omega⟩, fun g => ?_, fun g hg => if_neg (by omega), fun g hg => if_neg (by omega), bA.trans (bB.mono (by omega))⟩, Nat.le_refl _⟩
  by_cases e : g = w2.heap.size
  · exact .inr (if_neg (by omega))
  · exact .inl (if_neg e)
end
set_option maxRecDepth 100000 in
set_option maxHeartbeats 1000000 in
theorem firstU (n : Nat) (hn : n ≤ 25) (w : World) :
    Calls Try.prog 14 #[.int .i64 (n : Int)] w fun e w' => ∃ oa k cap z, e = .returned (.tuple #[.slice oa k cap, .int .i64 z]) ∧ Hid (OwnU w w' (.slice oa k cap) k) ∧ Below w.heap.size w w' := by
  have KF := hide' (fitsN n hn)
  have hmk := makeN n (by omega)
  go_enter Try.func14, Try.ntmps14
  go_wp2_with (first | (go_at_call 26; refine (KF.out _).mono ?_; rintro e w1 ⟨rfl, rfl⟩))
  refine bodyPost_ret (v := .tuple #[.slice (some ⟨w1.heap.size, 0, none⟩) n n, .int .i64 0]) (by simp [results, Try.results14, go_sem]) rfl ⟨_, _, _, _, rfl, ⟨List.replicate n 0, ⟨by simp [cellsI], .inr ⟨w1.heap.size, n, _, rfl, Nat.le_refl _, heap_new _ _, Nat.le_refl _, by unfold maxLen; omega, by rw [size_madeCells, Nat.mul_one], ?_⟩⟩, by simp; omega⟩, (Below.refl _ _).alloc (Nat.le_refl _) _⟩
  rw [toList_madeCells_one, Nat.mul_one, List.take_of_length_le (by simp)]
  simp [cellsI]
end Go.Proofs.Ytomjcimibpcpbaa

/- A book and a loan beside each other, and a row of rules whose steps are lent. -/
import Derived.Test.YtdiplbkgglgnfaaKOwn
import Derived.Test.YtdiplbkgglgnfaaNBack
import Derived.Test.YtdiplbkgglgnfaaNRules
import Derived.Test.YtdiplbkgglgnfaaRTwin
import Derived.Test.YtdiplbkgglgnfaaRFoes
namespace Go.Proofs.Ytdiplbkgglgnfaa
open Go.RowKit
theorem RowI.keep {W W' : World} {v : Value} {l : List Int} (h : RowI W v l) (hs : ∀ g, g < W.heap.size → v.ownBlock = some g → W'.heap[g]? = W.heap[g]?) : RowI W' v l := by
  obtain ⟨oa, cap, rfl, h0, hc⟩ := h
  refine ⟨oa, cap, rfl, h0, fun i z hi => ?_⟩
  obtain ⟨g, o, rfl, e2⟩ := hc i z hi
  refine ⟨g, o, rfl, ?_⟩
  have e := hs g (cell_lt e2) rfl
  unfold World.cell? at e2 ⊢
  rw [show (⟨g, o + i, none⟩ : Addr).block = g from rfl] at *
  simp only [e]
  exact e2
/-- The book at b, the loan behind it, the mark behind that; what was there before them stands. -/
structure OwR (w2 W : World) (b : Nat) (tB tL : Nat → Nat) (m : Nat) : Prop where
  bk : K.Book W b tB
  ln : K.Loan W (b + 1) tL m
  dis : ∀ g, tB g = 0 ∨ tL g = 0
  lowB : ∀ g, g < b → tB g = 0
  lowL : ∀ g, g < b → tL g = 0
  mrk : W.heap[b + 2]? = some (.cells #[.int .i64 99, .int .i64 0, .slice none 0 0] 40 (0, 0))
  mkB : tB (b + 2) = 0
  mkL : tL (b + 2) = 0
  old : Below b w2 W
/-- A row of rules, their steps lent. -/
structure Lnt (W : World) (b : Nat) (tB tL : Nat → Nat) (v : Value) (P : List (Rl × Value)) : Prop where
  row : W.ownsRow (b + 3) 40 3 v P.length (cellsR P)
  un : ∀ g, v.ownBlock = some g → tB g = 0 ∧ tL g = 0
  inn : ∀ q ∈ P, RowI W q.2 q.1.steps ∧ ∀ g, q.2.ownBlock = some g → 10 ≤ tL g
section
variable {w2 W W' : World} {b : Nat} {tB tL tB' tL' : Nat → Nat} {m : Nat} {X : Nat → Prop} {v : Value} {P : List (Rl × Value)}
theorem Loan.fresh {p : Nat} (h : K.Loan W p tL m) : ∀ g, W.heap.size ≤ g → tL g = 0 := by
  obtain ⟨_, _, _, _, _, h⟩ := h
  exact h.fresh
theorem Loan.lt {p : Nat} (h : K.Loan W p tL m) : p < W.heap.size := by
  obtain ⟨_, _, _, _, _, h⟩ := h
  exact h.box.lt
theorem BookN.mv (h : K.Book W b tB) (s : K.Sm (· = 0) tB W W') : K.Book W' b tB := by
  obtain ⟨ov, ow, m, vs, us, rows, N, h⟩ := h
  exact ⟨ov, ow, m, vs, us, rows, N, h.box.mv s (by rw [h.bt]; decide), h.bt, h.live.mv s (by decide) (fun j _ => by omega), h.want.mv s (by decide) (fun j _ => by omega), fun g hg => h.fresh g (Nat.le_trans s.size hg), h.hN, h.hrow⟩
theorem LoanN.mv {p : Nat} (h : K.Loan W p tL m) (s : K.Sm (· = 0) tL W W') : K.Loan W' p tL m := by
  obtain ⟨ov, ow, vs, us, rows, h⟩ := h
  exact ⟨ov, ow, vs, us, rows, h.mv s⟩
theorem OwR.lt (h : OwR w2 W b tB tL m) : b + 2 < W.heap.size := (Array.getElem?_eq_some_iff.1 h.mrk).1
theorem OwR.mv (h : OwR w2 W b tB tL m) (hs : K.Sm X id W W') (hX : ∀ g, X g → g < W.heap.size → tB g = 0 ∧ tL g = 0 ∧ b + 3 ≤ g) : OwR w2 W' b tB tL m := by
  have hlt := h.lt
  refine ⟨BookN.mv h.bk ⟨hs.os, hs.tape, hs.output, hs.size, fun g hg hx => hs.block g hg fun e => hx (hX g e hg).1⟩, LoanN.mv h.ln ⟨hs.os, hs.tape, hs.output, hs.size, fun g hg hx => hs.block g hg fun e => hx (hX g e hg).2.1⟩, h.dis, h.lowB, h.lowL, (hs.block _ hlt fun e => ?_).trans h.mrk, h.mkB, h.mkL, h.old.trans ⟨hs.os, hs.tape, hs.output, hs.size, fun g hg => hs.block g (by omega) fun e => ?_⟩⟩
  · have : b + 3 ≤ b + 2 := (hX _ e hlt).2.2
    omega
  · have hgl : g < W.heap.size := by omega
    have : b + 3 ≤ g := (hX g e hgl).2.2
    omega
theorem Lnt.mv (h : Lnt W b tB tL v P) (hs : K.Sm X id W W') (hX : ∀ g, X g → g < W.heap.size → tL g < 10 ∧ v.ownBlock ≠ some g) : Lnt W' b tB tL v P :=
  ⟨own_same h.row fun g hg e => hs.block g hg fun x => (hX g x hg).2 e, h.un, fun q hq => ⟨(h.inn q hq).1.keep fun g hg e => hs.block g hg fun x => by have := (hX g x hg).1; have := (h.inn q hq).2 g e; simp at *; omega, (h.inn q hq).2⟩⟩
theorem OwR.below (h : OwR w2 W b tB tL m) (hb : Below W.heap.size W W') : OwR w2 W' b tB tL m := h.mv (K.Sm.below (X := fun _ => False) hb) (fun _ e _ => e.elim)
theorem Lnt.below (h : Lnt W b tB tL v P) (hb : Below W.heap.size W W') : Lnt W' b tB tL v P := h.mv (K.Sm.below (X := fun _ => False) hb) (fun _ e _ => e.elim)
theorem OwR.loan (h : OwR w2 W b tB tL m) {m' : Nat} (hk : K.Loan W' (b + 1) tL' m') (hf : K.FrL tL W tL' W') : OwR w2 W' b tB tL' m' := by
  have hlt := h.lt
  have hB : ∀ g, tB g ≠ 0 → tL g = 0 := fun g e => (h.dis g).resolve_left e
  have hbf := h.bk.fresh
  refine ⟨BookN.mv h.bk ⟨hf.os, hf.tape, hf.output, hf.size, fun g hg hx => hf.block g hg (by rw [hB g hx]; decide) (by rw [hB g hx]; decide) (by rw [hB g hx]; decide)⟩, hk, fun g => ?_, h.lowB, fun g hg => (hf.tg g (by omega)).trans (h.lowL g hg), (hf.block _ hlt (by rw [h.mkL]; decide) (by rw [h.mkL]; decide) (by rw [h.mkL]; decide)).trans h.mrk, h.mkB, (hf.tg _ hlt).trans h.mkL, h.old.trans ⟨hf.os, hf.tape, hf.output, hf.size, fun g hg => hf.block g (by omega) (by rw [h.lowL g hg]; decide) (by rw [h.lowL g hg]; decide) (by rw [h.lowL g hg]; decide)⟩⟩
  rcases Nat.lt_or_ge g W.heap.size with hg | hg
  · rw [hf.tg g hg]; exact h.dis g
  · exact .inl (hbf g hg)
theorem Lnt.loan (h : Lnt W b tB tL v P) (hO : OwR w2 W b tB tL m) (hf : K.FrL tL W tL' W') : Lnt W' b tB tL' v P := by
  have hfr := Loan.fresh hO.ln
  refine ⟨own_same h.row fun g hg e => hf.block g hg (by rw [(h.un g e).2]; decide) (by rw [(h.un g e).2]; decide) (by rw [(h.un g e).2]; decide), fun g e => ⟨(h.un g e).1, (hf.tg g (own_lt' h.row e)).trans (h.un g e).2⟩, fun q hq => ?_⟩
  have h10 := (h.inn q hq).2
  refine ⟨(h.inn q hq).1.keep fun g hg e => hf.block g hg (by have := h10 g e; omega) (by have := h10 g e; omega) (by have := h10 g e; omega), fun g e => ?_⟩
  have h1 := h10 g e
  have hg : g < W.heap.size := by
    rcases Nat.lt_or_ge g W.heap.size with hg | hg
    · exact hg
    · have := hfr g hg; omega
  rw [hf.tg g hg]; exact h1
theorem OwR.book (h : OwR w2 W b tB tL m) {x : Value} (hk : K.Book W' b tB') (hf : K.Fr tB x W tB' W') (hx : ∀ g, x.ownBlock = some g → tL g = 0 ∧ b + 3 ≤ g) : OwR w2 W' b tB' tL m := by
  have hlt := h.lt
  have hL : ∀ g, tL g ≠ 0 → tB g = 0 := fun g e => (h.dis g).resolve_right e
  have hlf := Loan.fresh h.ln
  have hxn : ∀ g, tL g ≠ 0 → x.ownBlock ≠ some g := fun g e e2 => e (hx g e2).1
  have hxl : ∀ g, g < b + 3 → x.ownBlock ≠ some g := fun g e e2 => by have := (hx g e2).2; omega
  refine ⟨hk, LoanN.mv h.ln ⟨hf.os, hf.tape, hf.output, hf.size, fun g hg e => hf.block g hg (hL g e) (hxn g e)⟩, fun g => ?_, fun g hg => hf.tg g (by omega) (h.lowB g hg) (hxl g (by omega)), h.lowL, (hf.block _ hlt h.mkB (hxl _ (by omega))).trans h.mrk, hf.tg _ hlt h.mkB (hxl _ (by omega)), h.mkL, h.old.trans ⟨hf.os, hf.tape, hf.output, hf.size, fun g hg => hf.block g (by omega) (h.lowB g hg) (hxl g (by omega))⟩⟩
  rcases Nat.lt_or_ge g W.heap.size with hg | hg
  · by_cases e : tL g = 0
    · exact .inr e
    · exact .inl (hf.tg g hg (hL g e) (hxn g e))
  · exact .inr (hlf g hg)
theorem Lnt.book (h : Lnt W b tB tL v P) (hO : OwR w2 W b tB tL m) {x : Value} (hf : K.Fr tB x W tB' W') (hx : ∀ g, x.ownBlock = some g → tL g = 0 ∧ v.ownBlock ≠ some g) : Lnt W' b tB' tL v P := by
  have hne : ∀ g, v.ownBlock = some g → x.ownBlock ≠ some g := fun g e e2 => (hx g e2).2 e
  refine ⟨own_same h.row fun g hg e => hf.block g hg (h.un g e).1 (hne g e), fun g e => ⟨hf.tg g (own_lt' h.row e) (h.un g e).1 (hne g e), (h.un g e).2⟩, fun q hq => ⟨(h.inn q hq).1.keep fun g hg e => ?_, (h.inn q hq).2⟩⟩
  have h10 := (h.inn q hq).2 g e
  refine hf.block g hg ((hO.dis g).resolve_right (by omega)) fun e2 => ?_
  have := (hx g e2).1; omega
theorem Lnt.nil (W : World) (b : Nat) (tB tL : Nat → Nat) : Lnt W b tB tL (.slice none 0 0) [] := ⟨World.ownsRow_nil _ _ _ _, fun g e => by simp [Value.ownBlock] at e, fun q h => by cases h⟩
end
/-- What stands between the law's calls. -/
def Zs (w2 W : World) (b M : Nat) (v : Value) (P : List (Rl × Value)) : Prop := ∃ tB tL m, OwR w2 W b tB tL m ∧ m ≤ M ∧ Lnt W b tB tL v P
/-- .. with a row that was lent. -/
def Zu (w2 W : World) (b M : Nat) (v : Value) (P : List (Rl × Value)) (u : Value) (l : List Int) : Prop := ∃ tB tL m, OwR w2 W b tB tL m ∧ m ≤ M ∧ Lnt W b tB tL v P ∧ RowI W u l ∧ ∀ g, u.ownBlock = some g → 10 ≤ tL g
section
variable {w2 W W' : World} {b M : Nat} {v : Value} {P : List (Rl × Value)}
theorem Zs.below (h : Zs w2 W b M v P) (hb : Below W.heap.size W W') : Zs w2 W' b M v P := by
  obtain ⟨tB, tL, m, h1, h2, h3⟩ := h
  exact ⟨tB, tL, m, h1.below hb, h2, h3.below hb⟩
theorem Zs.nil (h : Zs w2 W b M v P) : Zs w2 W b M (.slice none 0 0) [] := by
  obtain ⟨tB, tL, m, h1, h2, h3⟩ := h
  exact ⟨tB, tL, m, h1, h2, Lnt.nil _ _ _ _⟩
theorem Zs.more (h : Zs w2 W b M v P) {M' : Nat} (hM : M ≤ M') : Zs w2 W b M' v P := by
  obtain ⟨tB, tL, m, h1, h2, h3⟩ := h
  exact ⟨tB, tL, m, h1, Nat.le_trans h2 hM, h3⟩
theorem Zs.old (h : Zs w2 W b M v P) : Below b w2 W := by
  obtain ⟨tB, tL, m, h1, h2, h3⟩ := h
  exact h1.old
theorem Zu.zs {u : Value} {l : List Int} (h : Zu w2 W b M v P u l) : Zs w2 W b M v P := by
  obtain ⟨tB, tL, m, h1, h2, h3, _⟩ := h
  exact ⟨tB, tL, m, h1, h2, h3⟩
theorem Zu.row {u : Value} {l : List Int} (h : Zu w2 W b M v P u l) : RowI W u l := by
  obtain ⟨tB, tL, m, h1, h2, h3, h4, _⟩ := h
  exact h4
theorem stepLoan (hZ : Zs w2 W b M v P) (hM : M ≤ 90000) (lv : Value) (l : List Int) (hr : RowI W lv l) (hl : l.length ≤ 1000) :
    Calls Try.prog 6 #[.pointer (some ⟨b + 1, 0, none⟩), lv] W fun e w' => ∃ g cap, e = .returned (.slice (some ⟨g, 0, none⟩) l.length cap) ∧ Hid (Zu w2 w' b (M + 1) v P (.slice (some ⟨g, 0, none⟩) l.length cap) l) := by
  obtain ⟨tB, tL, m, hO, hm, hL⟩ := hZ
  refine (K.loanInts (b + 1) tL m lv l W hO.ln hr hl (by omega)).mono ?_
  rintro e w' ⟨g, cap, tL', rfl, hk, hf, hrow, hg, ht⟩
  exact ⟨g, cap, rfl, tB, tL', m + 1, hO.loan hk hf, by omega, hL.loan hO hf, hrow, fun g' e => by
    have : g = g' := by simpa [Value.ownBlock] using e
    subst this; omega⟩
theorem stepBook (hZ : Zs w2 W b M v P) {W2 : World} (h2 : Below W.heap.size W W2) (x : Value) (k : Nat) (l : List Int) (hv : W2.ownsRow W.heap.size 3 1 x k (cellsI l)) (hl : l.length ≤ 1000000) :
    Calls Try.prog 7 #[.pointer (some ⟨b, 0, none⟩), x] W2 fun e w' => e = .returned (.tuple #[]) ∧ Hid (Zs w2 w' b M v P) := by
  obtain ⟨tB, tL, m, hO, hm, hL⟩ := hZ
  have hn : k = l.length := by have := hv.1; simp [cellsI] at this; omega
  subst hn
  have hlt := hO.lt
  have hfB := hO.bk.fresh
  have hfL := Loan.fresh hO.ln
  have hO2 := hO.below h2
  have hL2 := hL.below h2
  refine (K.bookInts b tB x l W2 hO2.bk (own_down hv (Nat.zero_le _)) hl (fun g hg => hfB g (hv.lt g hg).1)).mono ?_
  rintro e w' ⟨rfl, tB', hk', hf⟩
  have hx : ∀ g, x.ownBlock = some g → W.heap.size ≤ g := fun g hg => (hv.lt g hg).1
  exact ⟨rfl, tB', tL, m, hO2.book hk' hf (fun g e => ⟨hfL g (hx g e), by have := hx g e; omega⟩), hm, hL2.book hO2 hf (fun g e => ⟨hfL g (hx g e), fun e2 => by have := own_lt' hL.row e2; have := hx g e; omega⟩)⟩
/-- Rules laid behind the others. -/
theorem lent_push {tB tL : Nat → Nat} {m : Nat} {w' : World} {E : List (Rl × Value)} {ob : Obj} {g2 cap2 : Nat} (hO : OwR w2 W b tB tL m) (hm : m ≤ M) (hL : Lnt W b tB tL v P) (hE : ∀ q ∈ E, RowI W q.2 q.1.steps ∧ ∀ g, q.2.ownBlock = some g → 10 ≤ tL g)
    (hnew : w'.ownsRow (b + 3) 40 3 (.slice (some ⟨g2, 0, none⟩) (P.length + E.length) cap2) (P.length + E.length) (cellsR P ++ cellsR E))
    (hat : (v = .slice (some ⟨g2, 0, none⟩) P.length cap2 ∧ (W.alloc ob).grownBy w' (some g2)) ∨ (g2 = (W.alloc ob).heap.size ∧ (W.alloc ob).grownBy w' none)) :
    Zs w2 w' b M (.slice (some ⟨g2, 0, none⟩) (P.length + E.length) cap2) (P ++ E) := by
  have hA : Below W.heap.size W (W.alloc ob) := (Below.refl _ _).alloc (Nat.le_refl _) _
  have hO1 := hO.below hA
  have hL1 := hL.below hA
  have hs : K.Sm (fun g => v.ownBlock = some g) id (W.alloc ob) w' := by
    rcases hat with ⟨rfl, hg⟩ | ⟨_, hg⟩
    · exact K.Sm.grown hg fun g e => by cases e; rfl
    · exact K.Sm.grown hg fun g e => by cases e
  have key : ∀ q : Rl × Value, RowI W q.2 q.1.steps → (∀ g, q.2.ownBlock = some g → 10 ≤ tL g) → RowI w' q.2 q.1.steps := fun q h1 h2 => (h1.below hA (Nat.le_refl _)).keep fun g hg e => hs.block g hg fun e2 => by
    have h3 := h2 g e
    have h4 : tL g = 0 := (hL.un g e2).2
    omega
  refine ⟨tB, tL, m, hO1.mv hs (fun g e _ => ⟨(hL.un g e).1, (hL.un g e).2, own_ge' hL.row e⟩), hm, ?_, ?_, ?_⟩
  · rw [cellsR_app, List.length_append]; exact hnew
  · intro g e
    have e' : g2 = g := by simpa [Value.ownBlock] using e
    subst e'
    rcases hat with ⟨rfl, _⟩ | ⟨rfl, _⟩
    · exact hL.un g2 rfl
    · exact ⟨hO.bk.fresh _ (by simp), Loan.fresh hO.ln _ (by simp)⟩
  · intro q hq
    rcases List.mem_append.1 hq with hq | hq
    · exact ⟨key q (hL.inn q hq).1 (hL.inn q hq).2, (hL.inn q hq).2⟩
    · exact ⟨key q (hE q hq).1 (hE q hq).2, (hE q hq).2⟩
/-- A rule, its steps lent, laid behind the others. -/
theorem app_lent {o : Oper} {a : Act} {Kp : Act → World → Prop} {Q : Exit → Act → World → Prop} (s x : Operand) (r : Rl) (u : Value) (ho : o.op = .call { callee := .builtin .append, args := #[s, x], argTypes := #[22, 22] })
    (es : a.eval s = v) (ex : a.eval x = .slice (some ⟨W.heap.size, 0, none⟩) 1 1) (hZ : Zu w2 W b M v P u r.steps) (hu1 : u.oneCell' = true) (hn : P.length ≤ 1000000)
    (hK : ∀ g2 c2 w', Zs w2 w' b M (.slice (some ⟨g2, 0, none⟩) (P.length + 1) c2) (P ++ [(r, u)]) → Kp (a.put o.dst (.slice (some ⟨g2, 0, none⟩) (P.length + 1) c2)) w') : o.wp Try.prog a (W.alloc (.cells #[.int .i64 r.kind, .int .i64 r.k, u] 40)) Kp Q := by
  obtain ⟨tB, tL, m, hO, hm, hL, hR, h10⟩ := hZ
  obtain ⟨i0, hi, hz0, hz1, hz2⟩ := info_parts infoR
  have hlt := hO.lt
  have hA : Below W.heap.size W (W.alloc (.cells #[.int .i64 r.kind, .int .i64 r.k, u] 40)) := (Below.refl _ _).alloc (Nat.le_refl _) _
  refine K.wp_append_two _ s x 22 ho (b + 3) 40 i0 (.agg #[.int .i64 0, .int .i64 0, .slice none 0 0]) 3 40 Try.underlying22 hi hz0 hz1 hz2 rfl (by decide) v P.length (cellsR P) es (hL.below hA).row ⟨W.heap.size, 0, none⟩ 1 1 (rcells (r, u)) ex rfl (World.news_of_block (cs := #[.int .i64 r.kind, .int .i64 r.k, u]) (heap_new _ _)) (rcells_one (r, u) hu1) (by decide) (by unfold maxLen; omega) (by omega) (by simp; omega) ?_
  intro g2 cap2 w' hnew _ hat
  exact hK g2 cap2 w' (lent_push (E := [(r, u)]) hO hm hL (fun q hq => by rw [List.mem_singleton] at hq; subst hq; exact ⟨hR, h10⟩) (by simpa [cellsR] using hnew) hat)
end
end Go.Proofs.Ytdiplbkgglgnfaa

/- RuleOwn: what its calls answer, as the law needs it. -/
import Derived.Test.YtdiplbkgglgnfaaNOwn
import Derived.Test.YtdiplbkgglgnfaaRHold
namespace Go.Proofs.Ytdiplbkgglgnfaa
open Go.RowKit
theorem RowR.shapeO {w : World} {v : Value} {L : List Rl} (h : RowR w v L) : ∃ oa cap, v = .slice oa L.length cap := by
  obtain ⟨oa, cap, e, _⟩ := h
  exact ⟨oa, cap, e⟩
theorem RowI.shapeO {w : World} {v : Value} {L : List Int} (h : RowI w v L) : ∃ oa cap, v = .slice oa L.length cap := by
  obtain ⟨oa, cap, e, _⟩ := h
  exact ⟨oa, cap, e⟩
theorem twinW (L : List Rl) (v : Value) (w : World) (hr : RowR w v L) :
    Calls Try.prog 4 #[v] w fun e w' => ∃ ol cl, e = .returned (.slice ol (twin L).length cl) ∧ RowR w' (.slice ol (twin L).length cl) (twin L) ∧ Below w.heap.size w w' :=
  (twinF L v w hr).mono fun _ _ ⟨v', h1, ⟨P, h2, h3⟩, h4⟩ => by
    have h5 := h3.rowR
    rw [h2] at h5
    obtain ⟨oa, cap, e⟩ := h5.shapeO
    subst e
    exact ⟨oa, cap, h1, h5, h4⟩
theorem rowW (l : List Int) (v : Value) (w : World) (hr : RowI w v l) :
    Calls Try.prog 5 #[v] w fun e w' => ∃ ob cb, e = .returned (.slice ob (l.take 40).length cb) ∧ RowI w' (.slice ob (l.take 40).length cb) (l.take 40) ∧ Below w.heap.size w w' :=
  (rowF l v w hr).mono fun _ _ ⟨v', h1, h2, h3⟩ => by
    obtain ⟨oa, cap, e⟩ := h2.shapeO
    subst e
    exact ⟨oa, cap, h1, h2, h3⟩
theorem tiesU (n : Int) (R : List Rl) (v : Value) (w : World) (hr : RowR w v R) (hR : R.length ≤ 1000) (hm : ∀ r ∈ R, r.steps.length ≤ 1000) :
    Calls Try.prog 9 #[.int .i64 n, v] w fun e w' => ∃ o2 k c2 z, e = .returned (.tuple #[.slice o2 k c2, .int .i64 z]) ∧ Hid (∃ l, w'.ownsRow w.heap.size 3 1 (.slice o2 k c2) k (cellsI l) ∧ l.length ≤ 1000000) ∧ Below w.heap.size w w' := by
  cases hg : rgt n R with
  | false =>
    refine (tiesN n R v w hr hR hm hg).mono ?_
    rintro e w' ⟨rfl, hb⟩
    exact ⟨none, 0, 0, 1, rfl, ⟨[], World.ownsRow_nil _ _ _ _, by simp⟩, hb⟩
  | true =>
    obtain ⟨m, hnm, hm12, _⟩ := rgt_nat hg
    refine (tiesO n R v w hr hR hm m hnm hg).mono ?_
    rintro e w' ⟨o2, c2, rfl, h1, hb⟩
    exact ⟨o2, m, c2, 0, rfl, ⟨_, h1.out, by rw [ints_len, tie, tieC_len]; omega⟩, hb⟩
theorem foesU (n : Int) (R : List Rl) (v : Value) (w : World) (hr : RowR w v R) (hR : R.length ≤ 1000) (hm : ∀ r ∈ R, r.steps.length ≤ 1000) :
    Calls Try.prog 10 #[.int .i64 n, v] w fun e w' => ∃ o2 k c2 z, e = .returned (.tuple #[.slice o2 k c2, .int .i64 z]) ∧ k ≤ 12 ∧ Hid (∃ xs, w'.ownsRow w.heap.size 49 1 (.slice o2 k c2) k xs) ∧ Below w.heap.size w w' := by
  cases hg : rgt n R with
  | false =>
    refine (foesN n R v w hr hR hm hg).mono ?_
    rintro e w' ⟨rfl, hb⟩
    exact ⟨none, 0, 0, 1, rfl, by omega, ⟨[], World.ownsRow_nil _ _ _ _⟩, hb⟩
  | true =>
    obtain ⟨m, hnm, hm12, _⟩ := rgt_nat hg
    subst hnm
    refine (foesO R v w hr hR hm m hg).mono ?_
    rintro e w' ⟨g, rfl, _, h1, hb⟩
    obtain ⟨F, h1⟩ := h1.out
    exact ⟨_, m, m, 0, rfl, hm12, ⟨_, h1⟩, hb⟩
/-- The mark. -/
def mkR : Rl := ⟨99, 0, []⟩
def marks : List (Rl × Value) := [(mkR, .slice none 0 0), (mkR, .slice none 0 0)]
section
variable {w2 W W' : World} {b M : Nat} {v : Value} {P : List (Rl × Value)}
/-- The rules, and behind them the marks. -/
theorem Zs.full {gf capf q : Nat} (h : Zs w2 W b M (.slice (some ⟨gf, 0, none⟩) (q + 2) capf) (P ++ marks)) (hq : P.length = q) :
    RowR W (.slice (some ⟨gf, 0, none⟩) (P.map Prod.fst).length capf) (P.map Prod.fst) ∧ W.cell? ⟨gf, q * 3, none⟩ = some (.int .i64 99) ∧ W.cell? ⟨gf, (q + 1) * 3, none⟩ = some (.int .i64 99) ∧ b + 3 ≤ gf ∧ q + 2 ≤ capf := by
  obtain ⟨tB, tL, m, _, _, hL⟩ := h
  have hr := hL.row
  have hl : (P ++ marks).length = q + 2 := by simp [marks, hq]
  rw [hl] at hr
  have hcap : q + 2 ≤ capf := hr.capLe
  have hat : ∀ i j p, (P ++ marks)[i]? = some p → j < 3 → W.cell? ⟨gf, i * 3 + j, none⟩ = (rcells p)[j]? := fun i j p hp hj => by
    have hi := (List.getElem?_eq_some_iff.1 hp).1
    have := hr.cellAt (i * 3 + j) (by omega)
    rw [cellsR_at _ i j hj, hp] at this
    exact this
  have hm0 : (P ++ marks)[q]? = some (mkR, .slice none 0 0) := by rw [List.getElem?_append_right (by omega), hq, Nat.sub_self]; rfl
  have hm1 : (P ++ marks)[q + 1]? = some (mkR, .slice none 0 0) := by rw [List.getElem?_append_right (by omega), hq, Nat.add_sub_cancel_left]; rfl
  refine ⟨⟨_, capf, rfl, ⟨by rw [List.length_map]; omega, fun e => by cases e⟩, fun i r hi => ?_⟩, hat q 0 _ hm0 (by decide), hat (q + 1) 0 _ hm1 (by decide), own_ge' hr rfl, hcap⟩
  rw [List.getElem?_map] at hi
  cases hp : P[i]? with
  | none => rw [hp] at hi; cases hi
  | some p =>
    rw [hp] at hi
    cases hi
    have hi := (List.getElem?_eq_some_iff.1 hp).1
    have hp' : (P ++ marks)[i]? = some p := by rw [List.getElem?_append_left hi]; exact hp
    refine ⟨gf, 0, p.2, rfl, ?_, ?_, ?_, (hL.inn p (List.mem_of_getElem? hp')).1⟩
    · rw [Nat.zero_add]; exact hat i 0 p hp' (by decide)
    · rw [Nat.zero_add]; exact hat i 1 p hp' (by decide)
    · rw [Nat.zero_add]; exact hat i 2 p hp' (by decide)
theorem Zs.at {gf capf q i : Nat} {p : Rl × Value} (h : Zs w2 W b M (.slice (some ⟨gf, 0, none⟩) (q + 2) capf) (P ++ marks)) (hp : P[i]? = some p) :
    W.cell? ⟨gf, i * 3, none⟩ = some (.int .i64 p.1.kind) ∧ W.cell? ⟨gf, i * 3 + 1, none⟩ = some (.int .i64 p.1.k) ∧ W.cell? ⟨gf, i * 3 + 2, none⟩ = some p.2 ∧ RowI W p.2 p.1.steps := by
  obtain ⟨tB, tL, m, _, _, hL⟩ := h
  have hi := (List.getElem?_eq_some_iff.1 hp).1
  have hp' : (P ++ marks)[i]? = some p := by rw [List.getElem?_append_left hi]; exact hp
  have hat : ∀ j, j < 3 → W.cell? ⟨gf, i * 3 + j, none⟩ = (rcells p)[j]? := fun j hj => by
    have h1 := hL.row.1
    have hi' := (List.getElem?_eq_some_iff.1 hp').1
    have e : (P ++ marks).length = q + 2 := by
      obtain ⟨oa, cap, e⟩ := own_shp hL.row
      injection e with _ e2 _
      exact e2.symm
    have hr := hL.row
    rw [e] at hr
    have := hr.cellAt (i * 3 + j) (by omega)
    rw [cellsR_at _ i j hj, hp'] at this
    exact this
  exact ⟨hat 0 (by decide), hat 1 (by decide), hat 2 (by decide), (hL.inn p (List.mem_of_getElem? hp')).1⟩
theorem stepBack (hZ : Zs w2 W b M v P) (hM : M ≤ 90000) :
    Calls Try.prog 14 #[.pointer (some ⟨b + 1, 0, none⟩)] W fun e w' => e = .returned (.bool true) ∧ Hid (K.BookO w2 b w') := by
  obtain ⟨tB, tL, m, hO, hm, hL⟩ := hZ
  have hlt := hO.lt
  refine (K.loanBack (b + 1) tL m W hO.ln (by omega)).mono ?_
  rintro e w' ⟨rfl, hs⟩
  refine ⟨rfl, hO.old.trans ⟨hs.os, hs.tape, hs.output, hs.size, fun g hg => hs.block g (by omega) (fun h => h (hO.lowL g hg))⟩, tB, BookN.mv hO.bk ⟨hs.os, hs.tape, hs.output, hs.size, fun g hg hx => hs.block g hg fun h => h ((hO.dis g).resolve_left hx)⟩, hO.lowB⟩
theorem Zs.start (w2 : World) : Zs w2 (((w2.alloc (.cells #[.slice none 0 0, .slice none 0 0, .slice none 0 0, .slice none 0 0, .slice none 0 0, .slice none 0 0, .slice none 0 0, .slice none 0 0, .slice none 0 0, .slice none 0 0, .slice none 0 0, .slice none 0 0, .int .i64 0] 34)).alloc (.cells #[.slice none 0 0, .slice none 0 0, .slice none 0 0, .slice none 0 0] 38)).alloc (.cells #[.int .i64 99, .int .i64 0, .slice none 0 0] 40)) w2.heap.size 0 (.slice none 0 0) [] := by
  have hb := K.Book.start w2
  generalize hA : w2.alloc (.cells #[.slice none 0 0, .slice none 0 0, .slice none 0 0, .slice none 0 0, .slice none 0 0, .slice none 0 0, .slice none 0 0, .slice none 0 0, .slice none 0 0, .slice none 0 0, .slice none 0 0, .slice none 0 0, .int .i64 0] 34) = A at *
  have zA : A.heap.size = w2.heap.size + 1 := by rw [← hA]; simp
  have BA : Below w2.heap.size w2 A := by rw [← hA]; exact (Below.refl _ _).alloc (Nat.le_refl _) _
  have hn : A.heap.size = w2.heap.size + 1 := zA
  have hL : K.Loan (A.alloc (.cells #[.slice none 0 0, .slice none 0 0, .slice none 0 0, .slice none 0 0] 38)) (w2.heap.size + 1) (fun g => if g = w2.heap.size + 1 then 1 else 0) 0 := by
    refine ⟨.slice none 0 0, .slice none 0 0, [], [], fun _ => [], ?_, if_pos rfl, K.famNil _ _ _ _ _, K.famNil _ _ _ _ _, fun g hg => if_neg (by simp at hg; omega), fun j hj => by omega⟩
    have := heap_new A (.cells #[.slice none 0 0, .slice none 0 0, .slice none 0 0, .slice none 0 0] 38)
    rw [zA] at this
    exact this
  have B1 : Below A.heap.size A (A.alloc (.cells #[.slice none 0 0, .slice none 0 0, .slice none 0 0, .slice none 0 0] 38)) := (Below.refl _ _).alloc (Nat.le_refl _) _
  generalize hC : A.alloc (.cells #[.slice none 0 0, .slice none 0 0, .slice none 0 0, .slice none 0 0] 38) = C at *
  have zC : C.heap.size = w2.heap.size + 2 := by rw [← hC]; simp; omega
  have B2 : Below C.heap.size C (C.alloc (.cells #[.int .i64 99, .int .i64 0, .slice none 0 0] 40)) := (Below.refl _ _).alloc (Nat.le_refl _) _
  have hm := heap_new C (.cells #[.int .i64 99, .int .i64 0, .slice none 0 0] 40)
  rw [zC] at hm
  obtain ⟨ov, ow, vs, us, rows, hLN⟩ := hL
  refine ⟨fun g => if g = w2.heap.size then 1 else 0, fun g => if g = w2.heap.size + 1 then 1 else 0, 0, ⟨(hb.below B1).below B2, ⟨ov, ow, vs, us, rows, hLN.below B2⟩, fun g => ?_, fun g hg => if_neg (by omega), fun g hg => if_neg (by omega), hm, if_neg (by omega), if_neg (by omega), (BA.trans (B1.mono (by omega))).trans (B2.mono (by omega))⟩, Nat.le_refl _, Lnt.nil _ _ _ _⟩
  by_cases e : g = w2.heap.size
  · exact .inr (if_neg (by omega))
  · exact .inl (if_neg e)
end
end Go.Proofs.Ytdiplbkgglgnfaa

/- image.Write. -/
import Derived.Test.YtgfnfbbiojnhaaaDoorImG
import Derived.Deep.RegionHeld3
namespace Go.Proofs.YtgfnfbbiojnhaaaDoor
open Go.RowKit
theorem idxS (c : Array Value) (k : Nat) (v : Value) (hk : k < 4) (hc : c[k]? = some v) (w : World) : (Instr.index 51 (.agg c) (.int .i64 (k : Int))).run Tryd.prog w = .ok v w := by
  simp [Instr.index, run_underlying Tryd.underlying51, asIntOf, hk, hc, go_sem]
/-- A text's bytes laid behind a row of bytes. -/
theorem app_strL {ops : Array Oper} {rest : List Oper} {o : Oper} {a : Act} {Q : Exit → Act → World → Prop} (hgd : o.guard = none) (s x : Operand) (B : Nat) (W : World) (v : Value) (L : List Nat) (t : ByteArray) (ho : o.op = .call { callee := .builtin .append, args := #[s, x], argTypes := #[24, 9] })
    (es : a.eval s = v) (ex : a.eval x = .string t) (hT : W.ownsRow B 5 1 v L.length (cellsB L)) (hB : B ≤ W.heap.size) (hn : L.length ≤ 1000000) (ht : t.size ≤ 1000000)
    (h : ∀ v2 w2, w2.ownsRow B 5 1 v2 (L ++ sB t).length (cellsB (L ++ sB t)) → Below B W w2 → wpList Tryd.prog ops Q rest (a.put o.dst v2) w2) : wpList Tryd.prog ops Q (o :: rest) a W := by
  obtain ⟨i0, hi, hz0, hz1, hz2⟩ := info_parts infoU8
  refine Lib.wpList_append_own_string _ hgd s x 24 9 ho B 5 i0 Tryd.underlying24 Tryd.underlying9 hi hz0 hz1 hz2 v L.length (cellsB L) es hT t ex (by unfold maxLen; omega) (by omega) hB ?_
  intro v2 w2 hown hgrow _
  refine h v2 w2 ?_ ((Below.refl B W).grown hgrow hB (fun j ej => own_ge' hT ej))
  rw [cellsB_app, List.length_append, sB_len, ← sB_cells]
  exact hown
theorem cells6 {W : World} {g : Nat} {T : TypeId} {u v x y z t : Value} (h : W.heap[g]? = some (.cells #[u, v, x, y, z, t] T (0, 0))) : W.cell? ⟨g, 0, none⟩ = some u ∧ W.cell? ⟨g, 1, none⟩ = some v ∧ W.cell? ⟨g, 2, none⟩ = some x ∧ W.cell? ⟨g, 3, none⟩ = some y ∧ W.cell? ⟨g, 4, none⟩ = some z ∧ W.cell? ⟨g, 5, none⟩ = some t := by
  refine ⟨?_, ?_, ?_, ?_, ?_, ?_⟩ <;> simp [World.cell?, h]
theorem cells4 {W : World} {g : Nat} {T : TypeId} {u v x y : Value} (h : W.heap[g]? = some (.cells #[u, v, x, y] T (0, 0))) : W.cell? ⟨g, 0, none⟩ = some u ∧ W.cell? ⟨g, 1, none⟩ = some v ∧ W.cell? ⟨g, 2, none⟩ = some x ∧ W.cell? ⟨g, 3, none⟩ = some y := by
  refine ⟨?_, ?_, ?_, ?_⟩ <;> simp [World.cell?, h]
theorem cells_free {W : World} {g : Nat} {T : TypeId} {cs : Array Value} (h : W.heap[g]? = some (.cells cs T (0, 0))) (i : Nat) : W.frozen? ⟨g, i, none⟩ = false := by
  simp [World.frozen?, h]
/-- What Write answers. -/
def WrP (W : World) (C : Cl) (e : Ending) (w' : World) : Prop :=
  ∃ oa n cap, e = .returned (.tuple #[.slice oa n cap, .int .i64 (wrE C)]) ∧ Hid (n = (if wrE C = 0 then wrL C else []).length) ∧ Hid (w'.ownsRow W.heap.size 5 1 (.slice oa n cap) (if wrE C = 0 then wrL C else []).length (cellsB (if wrE C = 0 then wrL C else []))) ∧ Hid (Below W.heap.size W w')
theorem WrP.bad {W w' : World} {C : Cl} {x : Int} (h : wrE C = x) (hx : x ≠ 0) (hb : Hid (Below W.heap.size W w')) : WrP W C (.returned (.tuple #[.slice none 0 0, .int .i64 x])) w' := by
  refine ⟨none, 0, 0, by rw [h], ?_, ?_, hb⟩
  · rw [h, if_neg hx]; rfl
  · rw [h, if_neg hx]; exact World.ownsRow_nil _ _ _ _
theorem WrP.good {W w' : World} {C : Cl} {oa : Option Addr} {n cap B : Nat} (h : wrE C = 0) (ho : w'.ownsRow B 5 1 (.slice oa n cap) (wrL C).length (cellsB (wrL C))) (hB : W.heap.size ≤ B) (hb : Hid (Below W.heap.size W w')) : WrP W C (.returned (.tuple #[.slice oa n cap, .int .i64 0])) w' := by
  have e : (if wrE C = 0 then wrL C else []) = wrL C := by rw [if_pos h]
  obtain ⟨a', c', e2⟩ := own_shp ho
  injection e2 with _ e3 _
  refine ⟨oa, n, cap, by rw [h], ?_, ?_, hb⟩
  · rw [e]; exact e3
  · rw [e]
    obtain ⟨h1, h2⟩ := ho
    refine ⟨h1, ?_⟩
    rcases h2 with h2 | ⟨g, cap', cur, hv, hb', c⟩
    · exact .inl h2
    · exact .inr ⟨g, cap', cur, hv, Nat.le_trans hB hb', c⟩
set_option maxRecDepth 100000 in
set_option maxHeartbeats 4000000 in
theorem writeF (C : Cl) (W : World) (hT : Tb W) : Calls Tryd.prog 7 #[.agg (clC C)] W (WrP W C) := by
  have hB1 : Hid (Below W.heap.size W (W.alloc (.cells (clC C) 23))) := (Below.refl _ _).alloc (Nat.le_refl _) _
  have hE : Hid (∀ x, (C.op < 1 ∨ 255 < C.op) → x = 1 → wrE C = x) := fun x h e => by unfold wrE; rw [if_pos h, e]
  have hE2 : Hid (∀ x, 1 ≤ C.op → C.op ≤ 255 → fitN C = false → x = 2 → wrE C = x) := fun x h1 h2 h e => by unfold wrE; rw [if_neg (by omega), h, e]; rfl
  have hE0 : Hid (1 ≤ C.op → C.op ≤ 255 → fitN C = true → wrE C = 0) := fun h1 h2 h => by unfold wrE; rw [if_neg (by omega), h]; rfl
  have hgood : Hid (∀ w' oa n cap B, wrE C = 0 → w'.ownsRow B 5 1 (.slice oa n cap) (wrL C).length (cellsB (wrL C)) → W.heap.size ≤ B → Hid (Below W.heap.size W w') → WrP W C (.returned (.tuple #[.slice oa n cap, .int .i64 0])) w') := fun w' oa n cap B h1 h2 h3 h4 => WrP.good h1 h2 h3 h4
  have hbad : Hid (∀ w' x, wrE C = x → x ≠ 0 → Hid (Below W.heap.size W w') → WrP W C (.returned (.tuple #[.slice none 0 0, .int .i64 x])) w') := fun w' x h1 h2 h3 => WrP.bad h1 h2 h3
  have hlJ : Hid (fitN C = true → ∀ j, j < 4 → (wrJ C j).length ≤ 1000) := fun h j hj => wrJ_len h j hj
  have hsJ : Hid (∀ j, j < 4 → wrJ C (j + 1) = wrJ C j ++ be (ptW j) (ptS C j).size ++ sB (ptS C j)) := fun j hj => wrJ_succ C j hj
  have hpl : Hid (fitN C = true → ∀ j, (ptS C j).size ≤ 65536) := fun h j => ptS_len h j
  have hp4 : Hid (ptS C 0 = C.a ∧ ptS C 1 = C.b ∧ ptS C 2 = C.c ∧ ptS C 3 = C.t) := ⟨rfl, rfl, rfl, rfl⟩
  have hJ0 : Hid (wrJ C 0 = [] ++ be 1 C.op.toNat ++ be 8 (uN C.n)) := rfl
  have hJ4 : Hid (wrL C = wrJ C 4) := rfl
  have hfq : Hid (fitN C = fitQ C.a.size C.b.size C.c.size C.t.size) := rfl
  generalize wrE C = E at *
  generalize wrL C = LL at *
  generalize fitN C = fN at *
  generalize WrP W C = Post at *
  generalize wrJ C = J at *
  generalize ptS C = pS at *
  obtain ⟨op, a, b, c, n, t⟩ := C
  unfold clC at hB1 ⊢
  dsimp only at hB1 hE hE2 hE0 hp4 hJ0 hfq ⊢
  have hop : Hid (uN op = op.toNat ∨ op < 1 ∨ 255 < op) := by
    unfold Hid uN
    by_cases h1 : op < 1
    · exact .inr (.inl h1)
    · by_cases h2 : 255 < op
      · exact .inr (.inr h2)
      · exact .inl (by omega)
  go_enter Tryd.func7, Tryd.ntmps7
  by_cases h1 : op < 1
  · have d1 : decide (op < 1) = true := by simpa using h1
    go_wp2
    exact hbad.out _ 1 (hE.out 1 (.inl h1) rfl) (by decide) hB1
  have d1 : decide (op < 1) = false := by simpa using h1
  by_cases h2 : 255 < op
  · have d2 : decide (255 < op) = true := by simpa using h2
    go_wp2
    exact hbad.out _ 1 (hE.out 1 (.inr h2) rfl) (by decide) hB1
  have d2 : decide (255 < op) = false := by simpa using h2
  have hB2 : Hid (Below W.heap.size W ((W.alloc (.cells #[.int .i64 op, .string a, .string b, .string c, .int .i64 n, .string t] 23)).alloc (.cells #[.int .i64 a.size, .int .i64 b.size, .int .i64 c.size, .int .i64 t.size] 46))) := hB1.out.alloc (by rw [size_alloc]; omega) _
  have hT2 := hT.up hB2.out (Nat.le_refl _)
  have hs2 : Hid (((W.alloc (.cells #[.int .i64 op, .string a, .string b, .string c, .int .i64 n, .string t] 23)).alloc (.cells #[.int .i64 a.size, .int .i64 b.size, .int .i64 c.size, .int .i64 t.size] 46)).heap.size = W.heap.size + 2) := by unfold Hid; rw [size_alloc, size_alloc]
  have K := hide' (fitF a.size b.size c.size t.size _ hT2)
  unfold quad at K
  go_wp2_with fail
  refine K.out.mono ?_
  rintro e w3 ⟨rfl, hb3⟩
  rw [← hfq.out]
  have hg3 : w3.heap[W.heap.size]? = some (.cells #[.int .i64 op, .string a, .string b, .string c, .int .i64 n, .string t] 23 (0, 0)) := by
    refine (hb3.out.block _ (by rw [hs2.out]; omega)).trans ?_
    exact (((Below.refl _ _).alloc (Nat.le_refl _) _).block _ (by rw [size_alloc]; omega)).trans (heap_new _ _)
  have hg3' : w3.heap[W.heap.size + 1]? = some (.cells #[.int .i64 a.size, .int .i64 b.size, .int .i64 c.size, .int .i64 t.size] 46 (0, 0)) := by
    refine (hb3.out.block _ (by rw [hs2.out]; omega)).trans ?_
    have := heap_new (W.alloc (.cells #[.int .i64 op, .string a, .string b, .string c, .int .i64 n, .string t] 23)) (.cells #[.int .i64 a.size, .int .i64 b.size, .int .i64 c.size, .int .i64 t.size] 46)
    rw [size_alloc] at this
    exact this
  have hB3 : Hid (Below W.heap.size W w3) := hB2.out.trans (hb3.out.mono (by rw [hs2.out]; omega))
  have hs3 : W.heap.size + 2 ≤ w3.heap.size := by have := hb3.out.size; rw [hs2.out] at this; exact this
  clear K hb3 hs2 hT2 hB2 hB1
  obtain ⟨q0, q1, q2, q3⟩ := cells4 hg3'
  cases fN with
  | false =>
    go_wp2
    exact hbad.out _ 2 (hE2.out 2 (by omega) (by omega) trivial rfl) (by decide) hB3
  | true =>
  have hE0' : E = 0 := hE0.out (by omega) (by omega) rfl
  have hfq' : a.size ≤ 255 ∧ b.size ≤ 255 ∧ c.size ≤ 255 ∧ t.size ≤ 65536 := by have := hfq.out.symm; simpa [fitQ, and_assoc] using this
  have hT3 := hT.up hB3.out (Nat.le_refl _)
  have KS := hide' (sizeF a.size b.size c.size t.size w3 hT3 hfq'.1 hfq'.2.1 hfq'.2.2.1 hfq'.2.2.2)
  have hg3h := hide' hg3
  have hg3h' := hide' hg3'
  clear hg3 hg3' hT3 hE hE2 hbad hfq
  unfold quad at KS
  go_wp2_with fail
  refine KS.out.mono ?_
  rintro e w4 ⟨rfl, hb4⟩
  have hg4 := hide' ((hb4.out.block _ (blk_lt hg3h.out)).trans hg3h.out)
  have hg4' := hide' ((hb4.out.block _ (blk_lt hg3h'.out)).trans hg3h'.out)
  have hB4 : Hid (Below W.heap.size W w4) := hB3.out.trans (hb4.out.mono hB3.out.size)
  have hs4 : W.heap.size + 2 ≤ w4.heap.size := Nat.le_trans hs3 hb4.out.size
  clear hg3h hg3h' hb4 hB3 KS hs3 q0 q1 q2 q3
  have hszb : 16 + a.size + b.size + c.size + t.size ≤ 1000000 := by omega
  generalize 16 + a.size + b.size + c.size + t.size = sz at *
  obtain ⟨c0, _, _, _, _, _⟩ := cells6 hg4.out
  obtain ⟨i0, hi, hz0, hz1, hz2⟩ := info_parts infoU8
  have hwo := uN_wrap op
  have hwn := uN_wrap n
  have hop' : Hid (uN op = op.toNat) := by
    rcases hop.out with h | h | h
    · exact h
    · omega
    · omega
  have hul := hide' (uN_lt op)
  have hun := hide' (uN_lt n)
  generalize uN op = uo at *
  generalize uN n = un at *
  go_wp2_with (at_make; refine wpList_make_own w4 rfl _ _ 24 rfl (W.heap.size + 2) 5 i0 (.int .u8 0) 1 Tryd.underlying24 hi hz0 hz1 .i64 .i64 _ sz rfl rfl rfl (by rw [hz2]; omega) (by unfold maxLen; omega) hs4 ?_; intro w5 hO5 hg5; have hO5' : Hid (w5.ownsRow (W.heap.size + 2) 5 1 (.slice (some ⟨w4.heap.size, 0, none⟩) 0 sz) 0 (cellsB [])) := hO5; have hb5 : Hid (Below (W.heap.size + 2) w4 w5) := (Below.refl _ w4).grown hg5 hs4 (fun j ej => by cases ej); clear hO5 hg5; have hg5a := hide' ((hb5.out.block _ (by omega)).trans hg4.out); have hg5b := hide' ((hb5.out.block _ (by omega)).trans hg4'.out); obtain ⟨c0, _, _, _, _, _⟩ := cells6 hg5a.out)
  have hs5 : W.heap.size + 2 ≤ w5.heap.size := Nat.le_trans hs4 hb5.out.size
  have hB5 : Hid (Below W.heap.size W w5) := hB4.out.trans (hb5.out.mono (by omega))
  have hJ0' := hide' hJ0.out
  clear hb5 hg4 hg4' hB4 hs4
  refine (putF (W.heap.size + 2) _ [] 1 uo w5 hO5'.out hs5 (by decide) (by decide) hul.out).mono ?_
  rintro e w6 ⟨v6, rfl, hO6, hb6⟩
  have hg6a := hide' ((hb6.out.block _ (by omega)).trans hg5a.out)
  have hg6b := hide' ((hb6.out.block _ (by omega)).trans hg5b.out)
  have hs6 : W.heap.size + 2 ≤ w6.heap.size := Nat.le_trans hs5 hb6.out.size
  have hB6 : Hid (Below W.heap.size W w6) := hB5.out.trans (hb6.out.mono (by omega))
  obtain ⟨_, _, _, _, c4, _⟩ := cells6 hg6a.out
  obtain ⟨o6, k6, rfl⟩ := own_shp hO6.out
  clear hb6 hg5a hg5b hB5 hs5 hO5' c0
  go_wp2_with fail
  refine (putF (W.heap.size + 2) _ _ 8 un w6 hO6.out hs6 (by decide) (by simp [be_len]) hun.out).mono ?_
  rintro e w7 ⟨v7, rfl, hO7, hb7⟩
  have hg7a := hide' ((hb7.out.block _ (by omega)).trans hg6a.out)
  have hg7b := hide' ((hb7.out.block _ (by omega)).trans hg6b.out)
  have hs7 : W.heap.size + 2 ≤ w7.heap.size := Nat.le_trans hs6 hb7.out.size
  have hB7 : Hid (Below W.heap.size W w7) := hB6.out.trans (hb7.out.mono (by omega))
  obtain ⟨_, c1, c2, c3, _, c5⟩ := cells6 hg7a.out
  rw [hop'.out, ← hJ0'.out] at hO7
  obtain ⟨o7, k7, rfl⟩ := own_shp hO7.out
  clear hb7 hg6a hg6b hB6 hs6 hO6 c4 hJ0 hJ0' hop hop' hul hun hwo hwn
  have hl7 : ∃ k, (J 0).length = k := ⟨_, rfl⟩
  have hO7' : Hid (w7.ownsRow (W.heap.size + 2) 5 1 (.slice o7 (J 0).length k7) (J 0).length (cellsB (J 0))) := hO7
  clear hO7
  generalize (Value.slice o7 (J 0).length k7) = v7 at *
  go_wp2
  go_loopw [5, 6, 7, 54] (fun v _ _ p wr => ∃ j : Nat, j ≤ 4 ∧ p = .int .i64 (j : Int) ∧ Hid (wr.ownsRow (W.heap.size + 2) 5 1 v (J j).length (cellsB (J j))) ∧ Hid (wr.heap[W.heap.size + 1]? = some (.cells #[.int .i64 a.size, .int .i64 b.size, .int .i64 c.size, .int .i64 t.size] 46 (0, 0))) ∧ Hid (Below W.heap.size W wr)) (fun _ _ _ p _ => (4 - intOf p).toNat)
  case atStart => exact ⟨0, by omega, rfl, hO7', hg7b, hB7⟩
  case round =>
    clear hO7' hg7b hB7 hs7 hg7a
    obtain ⟨j, hj, rfl, hO, hg, hB⟩ := hrel
    obtain ⟨o8, k8, rfl⟩ := own_shp hO.out
    by_cases hj4 : j < 4
    · have hj4' : (j : Int) < 4 := by omega
      have hs8 : W.heap.size + 2 ≤ wr.heap.size := blk_lt hg.out
      have hlen := hlJ.out trivial j hj4
      have hpz := hide' (hpl.out trivial j)
      have hTr := hT.up hB.out (Nat.le_refl _)
      have cw := hTr.wd j hj4
      have hwd : Hid (ptW j ≤ 8) := by unfold Hid ptW; split <;> omega
      have cl : wr.cell? ⟨W.heap.size + 1, j, none⟩ = some (.int .i64 ((pS j).size : Int)) := by
        obtain ⟨e0, e1, e2, e3⟩ := cells4 hg.out
        obtain ⟨p0, p1, p2, p3⟩ := hp4.out
        obtain rfl | rfl | rfl | rfl : j = 0 ∨ j = 1 ∨ j = 2 ∨ j = 3 := by omega
        · rw [e0, p0]
        · rw [e1, p1]
        · rw [e2, p2]
        · rw [e3, p3]
      have xs : (Instr.index 51 (.agg #[.string a, .string b, .string c, .string t]) (.int .i64 (j : Int))).run Tryd.prog wr = .ok (.string (pS j)) wr := by
        refine idxS _ j _ hj4 ?_ wr
        obtain ⟨p0, p1, p2, p3⟩ := hp4.out
        obtain rfl | rfl | rfl | rfl : j = 0 ∨ j = 1 ∨ j = 2 ∨ j = 3 := by omega
        · rw [p0]; rfl
        · rw [p1]; rfl
        · rw [p2]; rfl
        · rw [p3]; rfl
      have hnx := hide' (hsJ.out j hj4)
      have hO' := hide' hO.out
      clear hTr
      have KP := hide' (fun (_ : True) => putF (W.heap.size + 2) _ (J j) (ptW j) (pS j).size wr.drew (by exact hO.out) hs8 hwd.out (by omega) (by have := hpz.out; omega))
      have hwz : IntKind.u64.wrap ((pS j).size : Int) = ((pS j).size : Int) := by rw [uN_wrap]; unfold uN; have := hpz.out; omega
      have hcw : Hid (wr.cell? ⟨0, j, none⟩ = some (.int .i64 (ptW j : Int)) ∧ wr.cell? ⟨W.heap.size + 1, j, none⟩ = some (.int .i64 ((pS j).size : Int))) := ⟨cw, cl⟩
      have hup : Hid (∀ w9, Hid (Below (W.heap.size + 2) wr.drew w9) → Hid (w9.cell? ⟨0, j, none⟩ = some (.int .i64 (ptW j : Int)) ∧ w9.cell? ⟨W.heap.size + 1, j, none⟩ = some (.int .i64 ((pS j).size : Int))) ∧ Hid (w9.heap[W.heap.size + 1]? = some (.cells #[.int .i64 a.size, .int .i64 b.size, .int .i64 c.size, .int .i64 t.size] 46 (0, 0))) ∧ Hid (Below W.heap.size W w9) ∧ W.heap.size + 2 ≤ w9.heap.size) := by
        intro w9 hb9
        refine ⟨⟨?_, ?_⟩, ?_, ?_, ?_⟩
        · exact (hb9.out.cell (p := ⟨0, j, none⟩) (by show 0 < _; omega)).trans hcw.out.1
        · exact (hb9.out.cell (p := ⟨W.heap.size + 1, j, none⟩) (by show W.heap.size + 1 < _; omega)).trans hcw.out.2
        · exact (hb9.out.block _ (by omega)).trans hg.out
        · exact hB.out.drew.trans (hb9.out.mono (by omega))
        · exact Nat.le_trans hs8 hb9.out.size
      clear hO
      go_wp2
      go_region_held3 (fun V => V.cell? ⟨0, j, none⟩ = some (.int .i64 (ptW j : Int)) ∧ V.cell? ⟨W.heap.size + 1, j, none⟩ = some (.int .i64 ((pS j).size : Int))) (first | (exact hcw.out) | (exact hcv.out)) (first | (go_at_call 16; refine (KP.out trivial).mono ?_; rintro e w9 ⟨v9, rfl, hO9, hb9⟩; obtain ⟨hcv, hg9, hB9, hs9⟩ := hup.out w9 hb9))
      obtain ⟨o9, k9, rfl⟩ := own_shp hO9.out
      have hl9 : (J j ++ be (ptW j) (pS j).size).length ≤ 1000000 := by rw [List.length_append, be_len]; have := hwd.out; omega
      have hpz2 : (pS j).size ≤ 1000000 := by have := hpz.out; omega
      clear hcw hcv KP hO' hpz hwz xs cw cl
      go_wp2_with (at_builtin; refine app_strL rfl (.tmp 67) (.tmp 68) (W.heap.size + 2) w9 _ (J j ++ be (ptW j) (pS j).size) (pS j) rfl rfl rfl hO9.out hs9 hl9 hpz2 ?_; intro v2 w2 hO2 hb2; have hO3 := hide' hO2; have hg3 := hide' ((hb2.block (W.heap.size + 1) (by omega)).trans hg9.out); have hB3 : Hid (Below W.heap.size W w2) := hB9.out.trans (hb2.mono (by omega)); clear hO2 hb2)
      rw [← hnx.out] at hO3
      exact ⟨⟨j + 1, by omega, by go_num, hO3, hg3, hB3⟩, by simp [intOf]; omega⟩
    · obtain rfl : j = 4 := by omega
      rw [hJ4.out] at hgood
      go_wp2
      exact hgood.out _ _ _ _ (W.heap.size + 2) hE0' hO.out (by omega) hB
end Go.Proofs.YtgfnfbbiojnhaaaDoor

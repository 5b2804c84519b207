/- The document's Write. -/
import Derived.Test.YtgfnfbbiojnhaaaDoorImW
import Derived.Lib.ConvBytes
namespace Go.Proofs.YtgfnfbbiojnhaaaDoor
open Go.RowKit
theorem conv_str (w : World) (s : ByteArray) : ∃ c w2, (convert 9 24 (.string s)).run Tryd.prog w = .ok (.slice (some ⟨w.heap.size, 0, none⟩) s.size c) w2 ∧ Hid (∀ j u, (cellsB (sB s))[j]? = some u → w2.cell? ((⟨w.heap.size, 0, none⟩ : Addr).add j) = some u) ∧ Hid (Below w.heap.size w w2) := by
  refine ⟨_, _, Lib.run_convert_string_bytes w 9 24 5 s Tryd.underlying9 Tryd.underlying24 Tryd.underlying5, ?_, ?_⟩
  · intro j u hu
    obtain ⟨z, hz, rfl⟩ := cellsB_at hu
    obtain ⟨hj, he⟩ := List.getElem?_eq_some_iff.1 hz
    rw [sB_len] at hj
    rw [Addr.add_lit, Nat.zero_add, Lib.bytesWorld_cell w _ s j hj]
    congr 2
    unfold sB at hz
    rw [List.getElem?_map] at hz
    cases hq : s.data.toList[j]? with
    | none => rw [hq] at hz; cases hz
    | some x =>
      rw [hq] at hz
      cases hz
      rw [List.getD_eq_getElem?_getD, hq]
      rfl
  · refine ⟨?_, ?_, ?_, ?_, fun k hk => Lib.bytesWorld_at_old w _ s k hk⟩
    · simp [Lib.bytesWorld, World.freeze] <;> rfl
    · simp [Lib.bytesWorld, World.freeze] <;> rfl
    · simp [Lib.bytesWorld, World.freeze] <;> rfl
    · rw [Lib.bytesWorld_size]; omega
/-- What stands while the document writes. -/
structure Dw (W : World) (cs : Array Value) (V : World) (v : Value) (L : List Nat) : Prop where
  row : V.ownsRow (W.heap.size + 1) 5 1 v L.length (cellsB L)
  box : V.heap[W.heap.size]? = some (.cells cs 23 (0, 0))
  be : Below W.heap.size W V
section
variable {W V : World} {cs : Array Value} {v : Value} {L : List Nat}
theorem Dw.sz (h : Dw W cs V v L) : W.heap.size + 1 ≤ V.heap.size := blk_lt h.box
theorem Dw.grow (h : Dw W cs V v L) {V' w2 : World} {v2 : Value} {M : List Nat} (hb : Below V.heap.size V V') (hown : w2.ownsRow (W.heap.size + 1) 5 1 v2 M.length (cellsB M)) (hg : Below (W.heap.size + 1) V' w2) : Dw W cs w2 v2 M := by
  have hs := h.sz
  refine ⟨hown, ?_, ?_⟩
  · exact (hg.block _ (by omega)).trans ((hb.block _ (by omega)).trans h.box)
  · exact h.be.trans ((hb.mono h.be.size).trans (hg.mono (by omega)))
variable {ops : Array Oper} {rest : List Oper} {o : Oper} {a : Act} {Q : Exit → Act → World → Prop}
theorem Dw.byte (h : Dw W cs V v L) (hgd : o.guard = none) (s x : Operand) (z : Nat) (ho : o.op = .call { callee := .builtin .append, args := #[s, x], argTypes := #[24, 24] })
    (es : a.eval s = v) (ex : a.eval x = .slice (some ⟨V.heap.size, 0, none⟩) 1 1) (hn : L.length ≤ 1000000)
    (hK : ∀ oa n c w2, Hid (Dw W cs w2 (.slice oa n c) (L ++ [z])) → wpList Tryd.prog ops Q rest (a.put o.dst (.slice oa n c)) w2) : wpList Tryd.prog ops Q (o :: rest) a (V.alloc (.cells #[.int .u8 (z : Int)] 5)) := by
  refine app_byteL hgd s x (W.heap.size + 1) V v L z ho es ex h.row h.sz hn ?_
  intro v2 w2 hown hb
  obtain ⟨oa, c, rfl⟩ := own_shp hown
  exact hK _ _ _ _ (h.grow (Below.refl _ _) hown hb)
theorem Dw.rows (h : Dw W cs V v L) {V' : World} (hb : Below V.heap.size V V') (hgd : o.guard = none) (s x : Operand) (m c : Nat) (M : List Nat) (ho : o.op = .call { callee := .builtin .append, args := #[s, x], argTypes := #[24, 24] })
    (es : a.eval s = v) (ex : a.eval x = .slice (some ⟨V.heap.size, 0, none⟩) m c) (hm : m = M.length) (hM : ∀ j u, (cellsB M)[j]? = some u → V'.cell? ((⟨V.heap.size, 0, none⟩ : Addr).add j) = some u) (hn : L.length + M.length ≤ 1000000)
    (hK : ∀ oa n c w2, Hid (Dw W cs w2 (.slice oa n c) (L ++ M)) → wpList Tryd.prog ops Q rest (a.put o.dst (.slice oa n c)) w2) : wpList Tryd.prog ops Q (o :: rest) a V' := by
  obtain ⟨i0, hi, hz0, hz1, hz2⟩ := info_parts infoU8
  subst hm
  have hs := h.sz
  have hT := own_up h.row hb
  refine wpList_append_own _ hgd s x 24 ho (W.heap.size + 1) 5 i0 (.int .u8 0) 1 1 Tryd.underlying24 hi hz0 hz1 hz2 rfl (by decide) v L.length (cellsB L) es hT ⟨V.heap.size, 0, none⟩ M.length c (cellsB M) ex (by rw [cellsB_len, Nat.mul_one]) hM (oneB _) (by unfold maxLen; omega) (by omega) (Nat.le_trans hs hb.size) ?_
  intro v2 w2 hown hgrow _
  have hown' : w2.ownsRow (W.heap.size + 1) 5 1 v2 (L ++ M).length (cellsB (L ++ M)) := by rw [cellsB_app, List.length_append]; exact hown
  obtain ⟨oa, c2, rfl⟩ := own_shp hown'
  exact hK _ _ _ _ (h.grow hb hown' ((Below.refl _ V').grown hgrow (Nat.le_trans hs hb.size) (fun j ej => own_ge' hT ej)))
end
theorem news_blk {W : World} {g : Nat} {L : List Nat} (h : BkB W g L) : ∀ j u, (cellsB L)[j]? = some u → W.cell? ((⟨g, 0, none⟩ : Addr).add j) = some u := fun j u hu => by
  obtain ⟨z, hz, rfl⟩ := cellsB_at hu
  rw [Addr.add_lit, Nat.zero_add]
  exact h.cell hz
set_option maxRecDepth 100000 in
set_option maxHeartbeats 4000000 in
theorem writeD (C : Cl) (W : World) : Calls Tryd.prog 8 #[.agg (clC C)] W (WrP W C) := by
  have hB1 : Hid (Below W.heap.size W (W.alloc (.cells (clC C) 23))) := (Below.refl _ _).alloc (Nat.le_refl _) _
  have hE : Hid (∀ x, (C.op < 1 ∨ 255 < C.op) → x = 1 → wrE C = x) := fun x h e => by unfold wrE; rw [if_pos h, e]
  have hE2 : Hid (∀ x, 1 ≤ C.op → C.op ≤ 255 → fitN C = false → x = 2 → wrE C = x) := fun x h1 h2 h e => by unfold wrE; rw [if_neg (by omega), h, e]; rfl
  have hE0 : Hid (1 ≤ C.op → C.op ≤ 255 → fitN C = true → wrE C = 0) := fun h1 h2 h => by unfold wrE; rw [if_neg (by omega), h]; rfl
  have hgood : Hid (∀ w' oa n cap, wrE C = 0 → Dw W (clC C) w' (.slice oa n cap) (wrL C) → WrP W C (.returned (.tuple #[.slice oa n cap, .int .i64 0])) w') := fun w' oa n cap h1 h2 => WrP.good h1 h2.row (by omega) h2.be
  have hbad : Hid (∀ w' x, wrE C = x → x ≠ 0 → Hid (Below W.heap.size W w') → WrP W C (.returned (.tuple #[.slice none 0 0, .int .i64 x])) w') := fun w' x h1 h2 h3 => WrP.bad h1 h2 h3
  have hfq : Hid (fitN C = fitQ C.a.size C.b.size C.c.size C.t.size) := rfl
  have hop : Hid (uN C.op = C.op.toNat ∨ C.op < 1 ∨ 255 < C.op) := by
    unfold Hid uN
    by_cases h1 : C.op < 1
    · exact .inr (.inl h1)
    · by_cases h2 : 255 < C.op
      · exact .inr (.inr h2)
      · exact .inl (by omega)
  have hLL : Hid (∀ o x y z, C.op.toNat = o → C.a.size = x → C.b.size = y → C.c.size = z → o < 256 → x < 256 → y < 256 → z < 256 → wrL C = [o] ++ be 8 (uN C.n) ++ [x] ++ sB C.a ++ [y] ++ sB C.b ++ [z] ++ sB C.c ++ be 4 C.t.size ++ sB C.t) := by
    rintro o x y z rfl rfl rfl rfl h1 h2 h3 h4
    unfold wrL wrJ wr4 wr3 wr2 wr1 wr0
    rw [be_one h1, be_one h2, be_one h3, be_one h4]
    rfl
  generalize wrE C = E at *
  generalize wrL C = LL at *
  generalize fitN C = fN at *
  generalize WrP W C = Post at *
  obtain ⟨op, a, b, c, n, t⟩ := C
  unfold clC at hB1 hgood ⊢
  dsimp only at hB1 hE hE2 hE0 hgood hfq hop hLL ⊢
  have hbox : Hid ((W.alloc (.cells #[.int .i64 op, .string a, .string b, .string c, .int .i64 n, .string t] 23)).heap[W.heap.size]? = some (.cells #[.int .i64 op, .string a, .string b, .string c, .int .i64 n, .string t] 23 (0, 0))) := heap_new _ _
  go_enter Tryd.func8, Tryd.ntmps8
  by_cases h1 : op < 1
  · have d1 : decide (op < 1) = true := by simpa using h1
    go_wp2
    exact hbad.out _ 1 (hE.out 1 (.inl h1) rfl) (by decide) hB1
  have d1 : decide (op < 1) = false := by simpa using h1
  by_cases h2 : 255 < op
  · have d2 : decide (255 < op) = true := by simpa using h2
    go_wp2
    exact hbad.out _ 1 (hE.out 1 (.inr h2) rfl) (by decide) hB1
  have d2 : decide (255 < op) = false := by simpa using h2
  have hop' : Hid (uN op = op.toNat) := by
    rcases hop.out with h | h | h
    · exact h
    · omega
    · omega
  clear hop hE
  by_cases ha : 255 < a.size
  · have da : decide (255 < (a.size : Int)) = true := by simp; omega
    have hfN : fN = false := by rw [hfq.out]; simp [fitQ]; omega
    have hfN' := hide' hfN
    clear hfN
    go_wp2
    exact hbad.out _ 2 (hE2.out 2 (by omega) (by omega) hfN'.out rfl) (by decide) hB1
  have da : decide (255 < (a.size : Int)) = false := by simp; omega
  by_cases hb : 255 < b.size
  · have db : decide (255 < (b.size : Int)) = true := by simp; omega
    have hfN : fN = false := by rw [hfq.out]; simp [fitQ]; omega
    have hfN' := hide' hfN
    clear hfN
    go_wp2
    exact hbad.out _ 2 (hE2.out 2 (by omega) (by omega) hfN'.out rfl) (by decide) hB1
  have db : decide (255 < (b.size : Int)) = false := by simp; omega
  by_cases hc : 255 < c.size
  · have dc : decide (255 < (c.size : Int)) = true := by simp; omega
    have hfN : fN = false := by rw [hfq.out]; simp [fitQ]; omega
    have hfN' := hide' hfN
    clear hfN
    go_wp2
    exact hbad.out _ 2 (hE2.out 2 (by omega) (by omega) hfN'.out rfl) (by decide) hB1
  have dc : decide (255 < (c.size : Int)) = false := by simp; omega
  by_cases ht : 65536 < t.size
  · have dt : decide (65536 < (t.size : Int)) = true := by simp; omega
    have hfN : fN = false := by rw [hfq.out]; simp [fitQ]; omega
    have hfN' := hide' hfN
    clear hfN
    go_wp2
    exact hbad.out _ 2 (hE2.out 2 (by omega) (by omega) hfN'.out rfl) (by decide) hB1
  have dt : decide (65536 < (t.size : Int)) = false := by simp; omega
  have hfN : fN = true := by rw [hfq.out]; simp [fitQ]; omega
  have hfN' := hide' hfN
  have hE0' := hide' (hE0.out (by omega) (by omega) hfN)
  clear hfN hE0 hE2 hfq hbad
  have hwn := uN_wrap n
  have hun := hide' (uN_lt n)
  have hopN : Hid (Value.int .u8 op = .int .u8 ((op.toNat : Nat) : Int)) := by unfold Hid; congr 1; omega
  have hopl : Hid (op.toNat < 256) := by unfold Hid; omega
  have hB2 : Hid (Below W.heap.size W ((W.alloc (.cells #[.int .i64 op, .string a, .string b, .string c, .int .i64 n, .string t] 23)).alloc (.cells #[.int .u8 op] 5))) := hB1.out.alloc (by rw [size_alloc]; omega) _
  have hD2 : Hid (Dw W #[.int .i64 op, .string a, .string b, .string c, .int .i64 n, .string t] ((W.alloc (.cells #[.int .i64 op, .string a, .string b, .string c, .int .i64 n, .string t] 23)).alloc (.cells #[.int .u8 op] 5)) (.slice (some ⟨W.heap.size + 1, 0, none⟩) 1 1) [op.toNat]) := by
    refine ⟨⟨rfl, .inr ⟨W.heap.size + 1, 1, #[.int .u8 op], rfl, Nat.le_refl _, ?_, Nat.le_refl _, by unfold maxLen; omega, rfl, ?_⟩⟩, ?_, hB2.out⟩
    · have := heap_new (W.alloc (.cells #[.int .i64 op, .string a, .string b, .string c, .int .i64 n, .string t] 23)) (.cells #[.int .u8 op] 5)
      rw [size_alloc] at this
      exact this
    · rw [hopN.out]; rfl
    · exact (((Below.refl _ _).alloc (Nat.le_refl _) _).block _ (by rw [size_alloc]; omega)).trans hbox.out
  generalize op.toNat = oN at *
  generalize uN n = un at *
  go_wp2_with fail
  generalize (W.alloc (.cells #[.int .i64 op, .string a, .string b, .string c, .int .i64 n, .string t] 23)).alloc (.cells #[.int .u8 op] 5) = V2 at *
  refine (numberD un 8 V2 (by decide) (by decide) hun.out).mono ?_
  rintro e w3 ⟨rfl, hb3, hw3⟩
  rw [put_be8] at hb3
  have hb3' := hide' hb3.out
  clear hb3
  go_wp2_with (first | (at_builtin; refine Dw.rows hD2.out hw3.out rfl (.tmp 39) (.tmp 43) 8 8 (be 8 un) rfl rfl rfl rfl (news_blk hb3'.out) (by simp [be_len]) ?_; intro oa4 n4 c4 w4 hD4; obtain ⟨_, k1a, k2a, k3a, k4a, k5a⟩ := cells6 hD4.out.box) | (at_builtin; refine Dw.byte hD4.out rfl (.tmp 45) (.tmp 50) a.size rfl rfl rfl (by simp [be_len]) ?_; intro op0 np0 cp0 wp0 hD0p; obtain ⟨_, k1p0, k2p0, k3p0, k4p0, k5p0⟩ := cells6 hD0p.out.box; obtain ⟨cc0, wc0, hr0, hn0, hb0⟩ := conv_str wp0 a) | (at_builtin; refine Dw.rows hD0p.out hb0.out rfl (.tmp 52) (.tmp 55) a.size cc0 (sB a) rfl rfl rfl (sB_len a).symm hn0.out (by simp [be_len, sB_len] <;> omega) ?_; intro oq0 nq0 cq0 wq0 hD0q; obtain ⟨_, k1q0, k2q0, k3q0, k4q0, k5q0⟩ := cells6 hD0q.out.box) | (at_builtin; refine Dw.byte hD0q.out rfl (.tmp 57) (.tmp 62) b.size rfl rfl rfl (by simp [be_len, sB_len] <;> omega) ?_; intro op1 np1 cp1 wp1 hD1p; obtain ⟨_, k1p1, k2p1, k3p1, k4p1, k5p1⟩ := cells6 hD1p.out.box; obtain ⟨cc1, wc1, hr1, hn1, hb1⟩ := conv_str wp1 b) | (at_builtin; refine Dw.rows hD1p.out hb1.out rfl (.tmp 64) (.tmp 67) b.size cc1 (sB b) rfl rfl rfl (sB_len b).symm hn1.out (by simp [be_len, sB_len] <;> omega) ?_; intro oq1 nq1 cq1 wq1 hD1q; obtain ⟨_, k1q1, k2q1, k3q1, k4q1, k5q1⟩ := cells6 hD1q.out.box) | (at_builtin; refine Dw.byte hD1q.out rfl (.tmp 69) (.tmp 74) c.size rfl rfl rfl (by simp [be_len, sB_len] <;> omega) ?_; intro op2 np2 cp2 wp2 hD2p; obtain ⟨_, k1p2, k2p2, k3p2, k4p2, k5p2⟩ := cells6 hD2p.out.box; obtain ⟨cc2, wc2, hr2, hn2, hb2⟩ := conv_str wp2 c) | (at_builtin; refine Dw.rows hD2p.out hb2.out rfl (.tmp 76) (.tmp 79) c.size cc2 (sB c) rfl rfl rfl (sB_len c).symm hn2.out (by simp [be_len, sB_len] <;> omega) ?_; intro oq2 nq2 cq2 wq2 hD2q; obtain ⟨_, k1q2, k2q2, k3q2, k4q2, k5q2⟩ := cells6 hD2q.out.box))
  refine (numberD t.size 4 wq2 (by decide) (by decide) (by omega)).mono ?_
  rintro e w8 ⟨rfl, hb8, hw8⟩
  rw [put_be4] at hb8
  have hb8' := hide' hb8.out
  clear hb8
  go_wp2_with (first | (at_builtin; refine Dw.rows hD2q.out hw8.out rfl (.tmp 81) (.tmp 86) 4 4 (be 4 t.size) rfl rfl rfl rfl (news_blk hb8'.out) (by simp [be_len, sB_len] <;> omega) ?_; intro ox nx cx wx hDx; obtain ⟨_, k1x, k2x, k3x, k4x, k5x⟩ := cells6 hDx.out.box; obtain ⟨ccx, wcx, hrx, hnx, hbx⟩ := conv_str wx t) | (at_builtin; refine Dw.rows hDx.out hbx.out rfl (.tmp 88) (.tmp 91) t.size ccx (sB t) rfl rfl rfl (sB_len t).symm hnx.out (by simp [be_len, sB_len] <;> omega) ?_; intro oy ny cy wy hDy))
  rw [← hLL.out oN a.size b.size c.size rfl rfl rfl rfl hopl.out (by omega) (by omega) (by omega)] at hDy
  exact hgood.out _ _ _ _ hE0'.out hDy.out
end Go.Proofs.YtgfnfbbiojnhaaaDoor

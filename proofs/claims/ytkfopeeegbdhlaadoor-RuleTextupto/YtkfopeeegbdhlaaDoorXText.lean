/- rule.Text: a rule's line. -/
import Derived.Test.YtkfopeeegbdhlaaDoorXHd
import Derived.Laws.MakeOwn
import Derived.Laws.OwnMore
import Derived.Deep.OwnRows
namespace Go.Proofs.YtkfopeeegbdhlaaDoor
open Go.RowKit Go.Shelf
/-- A row of strings, wherever it lies. -/
def RowN (w : World) (v : Value) (N : List ByteArray) : Prop := ∃ oa cap, v = .slice oa N.length cap ∧ (N.length ≤ cap ∧ (oa = none → cap = 0)) ∧ ∀ i z, N[i]? = some z → ∃ g o, oa = some ⟨g, o, none⟩ ∧ w.cell? ⟨g, o + i, none⟩ = some (.string z)
theorem RowN.below {w w' : World} {v : Value} {l : List ByteArray} {n : Nat} (h : RowN w v l) (hb : Below n w w') (hn : w.heap.size ≤ n) : RowN w' v l := by
  obtain ⟨oa, cap, e, e0, h⟩ := h
  refine ⟨oa, cap, e, e0, fun i z hz => ?_⟩
  obtain ⟨g, o, e1, e2⟩ := h i z hz
  exact ⟨g, o, e1, (hb.cell (p := ⟨g, o + i, none⟩) (Nat.lt_of_lt_of_le (cell_lt e2) hn)).trans e2⟩
def cellsS (l : List ByteArray) : List Value := l.map .string
theorem chk_parts {n : Int} {r : Rl} (h : chk n r = true) : ((r.kind = 1 ∨ r.kind = 2) ∧ r.k = 0 ∨ (r.kind = 3 ∨ r.kind = 4 ∨ r.kind = 5) ∧ 1 ≤ r.k ∧ r.k ≤ 999999999) ∧ 1 ≤ r.steps.length ∧ r.steps.length ≤ 12 ∧ n ≤ 12 ∧ ∀ s ∈ r.steps, 0 ≤ s ∧ s < n := by
  unfold chk at h
  simp only [Bool.and_eq_true, decide_eq_true_eq] at h
  obtain ⟨⟨⟨h0, h12⟩, hr⟩, hf⟩ := h
  have hl := ris_len hr h0
  refine ⟨?_, ?_, by omega, h12, ris_mem hr⟩
  · unfold numF at hf
    split at hf
    · rename_i hk
      simp at hf
      exact .inl ⟨hk, hf.1⟩
    · split at hf
      · rename_i hk
        simp at hf
        exact .inr ⟨by omega, by omega, by omega⟩
      · split at hf
        · simp at hf
          exact .inr ⟨by omega, by omega, by omega⟩
        · cases hf
  · unfold numF at hf
    split at hf
    · simp at hf; omega
    · split at hf
      · simp at hf; omega
      · split at hf
        · simp at hf; omega
        · cases hf
theorem infoS : (Tryd.prog.info? 9).map (fun i => (i.zero, i.size, i.bytes)) = some (some (.string ⟨#[]⟩), 1, 16) := by kernel_rfl
theorem makeS (m : Nat) (hm : m ≤ 200) (W : World) : (Instr.makeSlice 24 (.int .i64 (m : Int)) (.int .i64 (m : Int))).run Tryd.prog W = .ok (.slice (some ⟨W.heap.size, 0, none⟩) m m) (W.alloc (.cells (madeCells #[.string ⟨#[]⟩] m) 9)) := by
  obtain ⟨i, hi, hz, hs, hb⟩ := info_parts infoS
  have hr := run_make (P := Tryd.prog) W 24 9 i _ Tryd.underlying24 hi hz .i64 .i64 m m (by omega) (Int.le_refl _) (by rw [hb]; omega) (by omega)
  simp only [Int.toNat_natCast, hs, Nat.mul_one] at hr
  exact hr
theorem made_strs (W : World) (m : Nat) (hm : m ≤ 200) : (W.alloc (.cells (madeCells #[.string ⟨#[]⟩] m) 9)).ownsRow 0 9 1 (.slice (some ⟨W.heap.size, 0, none⟩) m m) m (cellsS (List.replicate m ⟨#[]⟩)) :=
  ⟨by simp [cellsS], .inr ⟨W.heap.size, m, _, rfl, Nat.zero_le _, heap_new _ _, Nat.le_refl _, by unfold maxLen; omega, by rw [size_madeCells, Nat.mul_one], by rw [toList_madeCells_one, Nat.mul_one, cellsS, List.map_replicate, List.take_of_length_le (by simp)]⟩⟩
/-- strconv.Itoa behind a world. -/
def ItoaOk (w : World) : Prop := ∀ (W : World) (k : Int), Below w.heap.size w W → 1 ≤ k → k ≤ 999999999 → Calls Tryd.prog 17 #[.int .i64 k] W fun e w' => e = .returned (.string ⟨(Lib.decDigits k.toNat).toArray⟩) ∧ Below W.heap.size W w'
def JoinOk : Prop := ∀ (bk : Nat) (xs : List ByteArray) (W : World), (∀ (j : Nat) x, xs[j]? = some x → W.cell? ⟨bk, j, none⟩ = some (.string x)) → bk < W.heap.size → xs.length ≤ 100 → (∀ x ∈ xs, x.size ≤ 1048576) → Calls Tryd.prog 11 #[.slice (some ⟨bk, 0, none⟩) xs.length xs.length, .string ⟨#[44, 32]⟩] W fun e w' => e = .returned (.string ⟨(Lib.join (xs.map (·.data.toList)) [44, 32]).toArray⟩) ∧ Below W.heap.size W w'
/-- The row of names, c of them written. -/
def fill (N : List ByteArray) (S : List Int) (c : Nat) : List ByteArray := (S.take c).map (nm N) ++ List.replicate (S.length - c) ⟨#[]⟩
theorem fill_zero (N : List ByteArray) (S : List Int) : fill N S 0 = List.replicate S.length ⟨#[]⟩ := by simp [fill]
theorem fill_all (N : List ByteArray) (S : List Int) : fill N S S.length = S.map (nm N) := by simp [fill]
theorem fill_set (N : List ByteArray) (S : List Int) {c : Nat} {x : Int} (hx : S[c]? = some x) : (cellsS (fill N S c)).set c (.string (nm N x)) = cellsS (fill N S (c + 1)) := by
  obtain ⟨hc, rfl⟩ := List.getElem?_eq_some_iff.1 hx
  have hl : ((S.take c).map (nm N)).length = c := by simp; omega
  unfold cellsS fill
  rw [List.map_append, List.map_append, List.set_append_right _ _ (by simp; omega)]
  rw [show S.length - c = (S.length - (c + 1)) + 1 by omega, List.replicate_succ, List.take_add_one, List.getElem?_eq_getElem hc]
  simp [Nat.min_eq_left (Nat.le_of_lt hc)]
  rw [List.take_add_one, List.getElem?_map, List.getElem?_eq_getElem hc]
  simp
theorem fill_at (N : List ByteArray) (S : List Int) {c : Nat} (hc : c < S.length) : (cellsS (fill N S c))[c]? = some (.string ⟨#[]⟩) := by
  unfold cellsS fill
  rw [List.getElem?_map, List.getElem?_append_right (by simp; omega)]
  simp [List.getElem?_replicate, Nat.min_eq_left (Nat.le_of_lt hc)]
  omega
theorem nm_size {N : List ByteArray} (hz : ∀ x ∈ N, x.size ≤ 1048576) (s : Int) : (nm N s).size ≤ 1048576 := by
  unfold nm
  cases h : N[s.toNat]? with
  | none => exact Nat.zero_le _
  | some x => exact hz x (List.mem_of_getElem? h)
theorem cell_ov {w w' : World} {a : Addr} {v : Value} (h : w.cell? a = some v) (hb : Below w.heap.size w w') : w'.cell? a = some v := (hb.cell (World.block_lt_of_cell? w a h)).trans h
theorem ret_txt {a b : ByteArray} {i j : Int} (h : a = b) (e : i = j) : Ending.returned (.tuple #[.string a, .int .i64 i]) = .returned (.tuple #[.string b, .int .i64 j]) := by rw [h, e]
set_option maxRecDepth 100000 in
set_option maxHeartbeats 1000000 in
theorem textF (r : Rl) (sv nv : Value) (N : List ByteArray) (w : World) (hs : RowI w sv r.steps) (hn : RowN w nv N) (hm : r.steps.length ≤ 30) (hz : ∀ x ∈ N, x.size ≤ 1048576) (hI : ItoaOk w) (hJ : JoinOk) :
    Calls Tryd.prog 5 #[rv r sv, nv] w fun e w' => e = .returned (.tuple #[.string (if chk N.length r then ⟨(txtL N r).toArray⟩ else ⟨#[]⟩), .int .i64 (erC (chk N.length r))]) ∧ Below w.heap.size w w' := by
  have hB0 : Hid (Below w.heap.size w (w.alloc (.cells #[.int .i64 r.kind, .int .i64 r.k, sv] 32))) := (Below.refl _ w).alloc (Nat.le_refl _) _
  have KC : Hid (∀ W, Below w.heap.size w W → Calls Tryd.prog 9 #[.int .i64 (N.length : Int), rv r sv] W fun e w' => e = .returned (.int .i64 (erC (chk N.length r))) ∧ Below W.heap.size W w') := fun W hW => checkF N.length r sv W (hs.below hW (Nat.le_refl _)) (by omega)
  obtain ⟨oa, cap, rfl, _, hc⟩ := hs
  obtain ⟨on, cn, rfl, _, hcn⟩ := hn
  unfold rv at KC ⊢
  cases hk : chk N.length r with
  | false =>
    rw [hk] at KC
    have KC' : Hid (∀ W, Below w.heap.size w W → Calls Tryd.prog 9 #[.int .i64 (N.length : Int), .agg #[.int .i64 r.kind, .int .i64 r.k, .slice oa r.steps.length cap]] W fun e w' => e = .returned (.int .i64 1) ∧ Below W.heap.size W w') := KC
    clear KC hc hcn hI hJ hk
    go_enter Tryd.func5, Tryd.ntmps5
    go_wp2_with (first | (go_at_call 9; refine (KC'.out _ hB0.out).mono ?_; rintro e w1 ⟨rfl, hb1⟩))
    exact bodyPost_ret (v := .tuple #[.string ⟨#[]⟩, .int .i64 1]) (by simp [results, Tryd.results5, go_sem]) rfl ⟨rfl, hB0.out.trans (hb1.mono hB0.out.size)⟩
  | true =>
    rw [hk] at KC
    have KC' : Hid (∀ W, Below w.heap.size w W → Calls Tryd.prog 9 #[.int .i64 (N.length : Int), .agg #[.int .i64 r.kind, .int .i64 r.k, .slice oa r.steps.length cap]] W fun e w' => e = .returned (.int .i64 0) ∧ Below W.heap.size W w') := KC
    obtain ⟨hp, hl1, hl12, hn12, hmem⟩ := chk_parts hk
    have hmk := makeS r.steps.length (by omega)
    have hat : Hid (∀ c, c < r.steps.length → ∃ (x g o : Nat), r.steps[c]? = some (x : Int) ∧ x < N.length ∧ on = some ⟨g, o, none⟩ ∧ w.cell? ⟨g, o + x, none⟩ = some (.string (nm N (x : Int)))) := fun c hc => by
      have hx : r.steps[c]? = some r.steps[c] := List.getElem?_eq_getElem hc
      obtain ⟨h1, h2⟩ := hmem _ (List.mem_of_getElem? hx)
      obtain ⟨x, hxe⟩ : ∃ x : Nat, r.steps[c] = (x : Int) := ⟨r.steps[c].toNat, by omega⟩
      rw [hxe] at hx h1 h2
      have hxl : x < N.length := by omega
      obtain ⟨g, o, e1, e2⟩ := hcn x N[x] (List.getElem?_eq_getElem hxl)
      refine ⟨x, g, o, hx, hxl, e1, ?_⟩
      rw [e2]
      unfold nm
      rw [Int.toNat_natCast, List.getElem?_eq_getElem hxl]; rfl
    have hst : Hid (∀ (c x : Nat), r.steps[c]? = some (x : Int) → ∃ g o, oa = some ⟨g, o, none⟩ ∧ w.cell? ⟨g, o + c, none⟩ = some (.int .i64 (x : Int))) := fun c x hx => hc c x hx
    have KH : Hid (∀ W, Below w.heap.size w W → Calls Tryd.prog 10 #[.agg #[.int .i64 r.kind, .int .i64 r.k, .slice oa r.steps.length cap]] W fun e w' => e = .returned (.string ⟨(hdL r.kind r.k).toArray⟩) ∧ Below W.heap.size W w') := fun W hW => headF _ _ _ W hp fun h1 h2 W' hW' => hI W' r.k (hW.trans (hW'.mono hW.size)) h1 h2
    have KJ : Hid (∀ W bk, (∀ (j : Nat) x, (r.steps.map (nm N))[j]? = some x → W.cell? ⟨bk, j, none⟩ = some (.string x)) → bk < W.heap.size → Calls Tryd.prog 11 #[.slice (some ⟨bk, 0, none⟩) r.steps.length r.steps.length, .string ⟨#[44, 32]⟩] W fun e w' => e = .returned (.string ⟨(Lib.join (r.steps.map (nmL N)) [44, 32]).toArray⟩) ∧ Below W.heap.size W w') := fun W bk h1 h2 => by
      have h := hJ bk (r.steps.map (nm N)) W h1 h2 (by rw [List.length_map]; omega) (fun x hx => by
        obtain ⟨s, _, rfl⟩ := List.mem_map.1 hx
        exact nm_size hz s)
      rw [List.length_map, List.map_map] at h
      exact h
    have C0 : Hid ((w.alloc (.cells #[.int .i64 r.kind, .int .i64 r.k, .slice oa r.steps.length cap] 32)).cell? ⟨w.heap.size, 0, none⟩ = some (.int .i64 r.kind)) := by show _ = _; simp
    have C1 : Hid ((w.alloc (.cells #[.int .i64 r.kind, .int .i64 r.k, .slice oa r.steps.length cap] 32)).cell? ⟨w.heap.size, 1, none⟩ = some (.int .i64 r.k)) := by show _ = _; simp
    have C2 : Hid ((w.alloc (.cells #[.int .i64 r.kind, .int .i64 r.k, .slice oa r.steps.length cap] 32)).cell? ⟨w.heap.size, 2, none⟩ = some (.slice oa r.steps.length cap)) := by show _ = _; simp
    clear KC hc hcn hI hJ hmem
    go_enter Tryd.func5, Tryd.ntmps5
    go_wp2_with (first | (go_at_call 9; refine (KC'.out _ hB0.out).mono ?_; rintro e w1 ⟨rfl, hb1⟩; have b2 := cell_ov C2.out hb1; have b3 : (w1.alloc (.cells (madeCells #[.string ⟨#[]⟩] r.steps.length) 9)).cell? ⟨w.heap.size, 2, none⟩ = some (.slice oa r.steps.length cap) := cell_new b2))
    have B1 := hB0.out.trans (hb1.mono hB0.out.size)
    go_loopw [21] (fun k wr => ∃ c : Nat, c ≤ r.steps.length ∧ k = .int .i64 c ∧ wr.ownsRow 0 9 1 (.slice (some ⟨w1.heap.size, 0, none⟩) r.steps.length r.steps.length) r.steps.length (cellsS (fill N r.steps c)) ∧ Below w1.heap.size w1 wr) (fun k _ => ((r.steps.length : Int) - intOf k).toNat)
    case atStart => exact ⟨0, Nat.zero_le _, rfl, by rw [fill_zero]; exact made_strs w1 _ (by omega), (Below.refl _ _).alloc (Nat.le_refl _) _⟩
    case round =>
      obtain ⟨c, hcl, rfl, hrow, hB⟩ := hrel
      have BR := B1.trans (hB.mono B1.size)
      by_cases hlt : c < r.steps.length
      · obtain ⟨x, gn, o, hx, hxl, rfl, cy⟩ := hat.out c hlt
        obtain ⟨g, os, rfl, cx⟩ := hst.out c x hx
        have cy' := cell_ov cy BR
        have cx' := cell_ov cx BR
        have hs := (hrow.stored c (.string (nm N (x : Int)))).1
        rw [fill_set N r.steps hx] at hs
        have hs' := hide' hs
        have c0 : wr.cell? ⟨w1.heap.size, c, none⟩ = some (.string ⟨#[]⟩) := by
          have := hrow.cellAt c (by omega)
          rw [fill_at N r.steps hlt] at this
          exact this
        have f0 := hrow.frozenAt c
        have hxi : (x : Int) < (N.length : Int) := by omega
        clear hs hx cy cx
        go_wp2
        exact ⟨⟨c + 1, by omega, by go_num, hs'.out, hB.setCell (Nat.le_refl _) _⟩, by simp [intOf]; omega⟩
      · obtain rfl : c = r.steps.length := by omega
        rw [fill_all] at hrow
        have d0 := cell_ov (cell_ov C0.out hb1) hB
        have d1 := cell_ov (cell_ov C1.out hb1) hB
        have d2 := cell_ov (cell_ov C2.out hb1) hB
        have hpl : w1.heap.size < wr.heap.size := by
          have := hrow.cellAt 0 (by omega)
          rw [cellsS, List.getElem?_map, List.getElem?_map, List.getElem?_eq_getElem (by omega : 0 < r.steps.length)] at this
          exact cell_lt this
        have KJ' : Hid (∀ W, Below wr.heap.size wr W → Calls Tryd.prog 11 #[.slice (some ⟨w1.heap.size, 0, none⟩) r.steps.length r.steps.length, .string ⟨#[44, 32]⟩] W fun e w' => e = .returned (.string ⟨(Lib.join (r.steps.map (nmL N)) [44, 32]).toArray⟩) ∧ Below W.heap.size W w') := fun W hW => KJ.out W _ (fun j x hj => by
          have hj1 : j < r.steps.length := by have := (List.getElem?_eq_some_iff.1 hj).1; simpa using this
          have := hrow.cellAt j (by omega)
          rw [cellsS, List.getElem?_map, hj] at this
          exact cell_ov this hW) (Nat.lt_of_lt_of_le hpl hW.size)
        have KH' := hide' (KH.out wr BR)
        have zH : ¬ 9223372036854775807 < (⟨(hdL r.kind r.k).toArray⟩ : ByteArray).size + 1 := by
          have e : (⟨(hdL r.kind r.k).toArray⟩ : ByteArray).size = (hdL r.kind r.k).length := by simp [ByteArray.size]
          have := hdL_len r.kind r.k (by omega)
          omega
        have zJ : ¬ 9223372036854775807 < (⟨(hdL r.kind r.k).toArray⟩ : ByteArray).size + 1 + (⟨(Lib.join (r.steps.map (nmL N)) [44, 32]).toArray⟩ : ByteArray).size := by
          have e : (⟨(hdL r.kind r.k).toArray⟩ : ByteArray).size = (hdL r.kind r.k).length := by simp [ByteArray.size]
          have e2 : (⟨(Lib.join (r.steps.map (nmL N)) [44, 32]).toArray⟩ : ByteArray).size = (Lib.join (r.steps.map (nmL N)) [44, 32]).length := by simp [ByteArray.size]
          have h1 := hdL_len r.kind r.k (by omega)
          have h2 := join_len (r.steps.map (nmL N)) (fun x hx => by
            obtain ⟨s, _, rfl⟩ := List.mem_map.1 hx
            have := nm_size hz s
            have e3 : (nmL N s).length = (nm N s).size := Array.length_toList
            omega)
          rw [List.length_map] at h2
          omega
        have hR : Hid ((⟨(hdL r.kind r.k).toArray⟩ : ByteArray) ++ ⟨#[32]⟩ ++ ⟨(Lib.join (r.steps.map (nmL N)) [44, 32]).toArray⟩ = ⟨(txtL N r).toArray⟩) := by
          show _ = _
          apply ByteArray.ext
          simp [txtL]
        generalize (⟨(hdL r.kind r.k).toArray⟩ : ByteArray) = hd at *
        generalize (⟨(Lib.join (r.steps.map (nmL N)) [44, 32]).toArray⟩ : ByteArray) = jn at *
        clear KJ KH hat hst hmk hrow b2 b3 C0 C1 C2 KC'
        go_wp2_with (first | (go_at_call 10; refine KH'.out.mono ?_; rintro e w3 ⟨rfl, hb3⟩) | (go_at_call 11; refine (KJ'.out _ hb3).mono ?_; rintro e w4 ⟨rfl, hb4⟩))
        have B3 := BR.trans (hb3.mono BR.size)
        exact bodyPost_ret (v := .tuple #[.string (hd ++ ⟨#[32]⟩ ++ jn), .int .i64 0]) (by simp [results, Tryd.results5, go_sem]) rfl ⟨ret_txt (by rw [hR.out]) rfl, B3.trans (hb4.mono B3.size)⟩
end Go.Proofs.YtkfopeeegbdhlaaDoor

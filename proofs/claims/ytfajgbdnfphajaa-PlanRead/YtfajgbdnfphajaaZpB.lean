/- Bytes: rows of them; put. -/
import Derived.Test.YtfajgbdnfphajaaZpG
import Derived.Laws.BytesArg
namespace Go.Proofs.Ytfajgbdnfphajaa.S
open Go.RowKit Go.Shelf
def cellsB (l : List Nat) : List Value := l.map fun z : Nat => Value.int .u8 (z : Int)
/-- A number in so many bytes, the highest first. -/
def be (wd n : Nat) : List Nat := (List.range wd).map fun i => n / 256 ^ (wd - 1 - i) % 256
theorem be_len (wd n : Nat) : (be wd n).length = wd := by simp [be]
theorem be_at {wd n j : Nat} (h : j < wd) : (be wd n)[j]? = some (n / 256 ^ (wd - 1 - j) % 256) := by
  unfold be
  rw [List.getElem?_map, List.getElem?_range h]
  rfl
/-- Blocks of other kinds are as they were. -/
structure FzB (W W' : World) : Prop where
  size : W.heap.size ≤ W'.heap.size
  block : ∀ (g : Nat) (cs : Array Value) (T : TypeId) (fz : Nat × Nat), T ≠ 5 → W.heap[g]? = some (Obj.cells cs T fz) → W'.heap[g]? = some (Obj.cells cs T fz)
theorem FzB.refl (W : World) : FzB W W := ⟨Nat.le_refl _, fun _ _ _ _ _ h => h⟩
theorem FzB.trans {W W' W2 : World} (h : FzB W W') (k : FzB W' W2) : FzB W W2 := ⟨Nat.le_trans h.size k.size, fun g cs T fz hT hg => k.block g cs T fz hT (h.block g cs T fz hT hg)⟩
theorem FzB.below {W W' : World} (h : Below W.heap.size W W') : FzB W W' := ⟨h.size, fun g _ _ _ _ hg => (h.block g (Array.getElem?_eq_some_iff.1 hg).1).trans hg⟩
theorem FzB.grown {W W' : World} {B : Nat} {v : Value} {n : Nat} {xs : List Value} (h : W.ownsRow B 5 1 v n xs) (hg : W.grownBy W' v.ownBlock) : FzB W W' := by
  refine ⟨hg.size, fun g cs T fz hT hb => ?_⟩
  refine (hg.block g (Array.getElem?_eq_some_iff.1 hb).1 fun e => ?_).trans hb
  obtain ⟨c2, f2, h2⟩ := Go.Lib.ownsRow_kind h g e.symm
  rw [hb] at h2
  injection h2 with h2
  injection h2 with _ h2
  exact hT h2
theorem FzB.pb {W W' : World} {g : Nat} {P : Pb} {wv fv rv : Value} (h : FzB W W') (hb : PbB W g P wv fv rv) : PbB W' g P wv fv rv := h.block g _ _ _ (by decide) hb
theorem infoU8 : (Try.prog.info? 5).map (fun i => (i.zero, i.size, i.bytes)) = some (some (.int .u8 0), 1, 1) := by kernel_rfl
/-- A byte laid behind a row of bytes. -/
theorem app_byteL {ops : Array Oper} {rest : List Oper} {o : Oper} {a : Act} {Q : Exit → Act → World → Prop} (hgd : o.guard = none) (s x : Operand) (B : Nat) (W : World) (v : Value) (L : List Nat) (z : Nat) (ho : o.op = .call { callee := .builtin .append, args := #[s, x], argTypes := #[22, 22] })
    (es : a.eval s = v) (ex : a.eval x = .slice (some ⟨W.heap.size, 0, none⟩) 1 1) (hT : W.ownsRow B 5 1 v L.length (cellsB L)) (hB : B ≤ W.heap.size) (hn : L.length ≤ 1000000)
    (h : ∀ v2 w2, w2.ownsRow B 5 1 v2 (L ++ [z]).length (cellsB (L ++ [z])) → Below B W w2 → FzB W w2 → wpList Try.prog ops Q rest (a.put o.dst v2) w2) : wpList Try.prog ops Q (o :: rest) a (W.alloc (.cells #[.int .u8 (z : Int)] 5)) := by
  obtain ⟨i0, hi, hz0, hz1, hz2⟩ := info_parts infoU8
  refine wpList_append_own _ hgd s x 22 ho B 5 i0 (.int .u8 0) 1 1 Try.underlying22 hi hz0 hz1 hz2 rfl (by decide) v L.length (cellsB L) es (hT.alloc _) ⟨W.heap.size, 0, none⟩ 1 1 [.int .u8 (z : Int)] ex rfl (World.news_of_block (cs := #[.int .u8 (z : Int)]) (heap_new _ _)) (by simp [Value.oneCell']) (by unfold maxLen; omega) (by omega) (by simp; omega) ?_
  intro v2 w2 hown hgrow _
  refine h v2 w2 ?_ (((Below.refl B W).alloc hB _).grown hgrow (by simp; omega) (fun j ej => own_ge' hT ej)) ((FzB.below ((Below.refl _ W).alloc (Nat.le_refl _) _)).trans (FzB.grown (hT.alloc _) hgrow))
  have e : cellsB (L ++ [z]) = cellsB L ++ [.int .u8 (z : Int)] := by simp [cellsB]
  rw [e, List.length_append]
  exact hown
/-- What a call answers that lays bytes behind a row. -/
def PuP (w : World) (B : Nat) (L : List Nat) (e : Ending) (w' : World) : Prop :=
  ∃ v, e = .returned v ∧ Hid (w'.ownsRow B 5 1 v L.length (cellsB L)) ∧ Hid (Below B w w') ∧ Hid (FzB w w')
theorem byte_eq (n k : Nat) : ((n : Int) / 2 ^ (8 * k) % 256) = ((n / 256 ^ k % 256 : Nat) : Int) := by
  rw [show (256 : Nat) ^ k = 2 ^ (8 * k) by rw [Nat.pow_mul]]
  simp
theorem be_take {wd n j : Nat} (L : List Nat) (h : j < wd) : (L ++ (be wd n).take j) ++ [n / 256 ^ (wd - 1 - j) % 256] = L ++ (be wd n).take (j + 1) := by
  rw [List.take_add_one, be_at h, List.append_assoc]
  rfl
set_option maxRecDepth 100000 in
set_option maxHeartbeats 2000000 in
theorem putI (B : Nat) (v : Value) (L : List Nat) (wd n : Nat) (w : World) (hO : w.ownsRow B 5 1 v L.length (cellsB L)) (hB : B ≤ w.heap.size) (hw : wd ≤ 8) (hl : L.length ≤ 100000) (_ : n < 9223372036854775808) :
    Calls Try.prog 37 #[v, .int .i64 (wd : Int), .int .i64 (n : Int)] w (PuP w B (L ++ be wd n)) := by
  unfold PuP
  have hO' := hide' hO
  clear hO
  go_enter Try.func37, Try.ntmps37
  go_wp2
  go_loopw [0, 7, 9] (fun v _ p wr => ∃ j : Nat, j ≤ wd ∧ p = .int .i64 (j : Int) ∧ Hid (wr.ownsRow B 5 1 v (L ++ (be wd n).take j).length (cellsB (L ++ (be wd n).take j))) ∧ Hid (Below B w wr) ∧ Hid (FzB w wr)) (fun _ _ p _ => ((wd : Int) - intOf p).toNat)
  case atStart => exact ⟨0, Nat.zero_le _, rfl, by simpa using hO', Below.refl _ _, FzB.refl _⟩
  case round =>
    clear hO'
    obtain ⟨j, hj, rfl, hO, hb, hf⟩ := hrel
    by_cases hlt : j < wd
    · have hlt' : (j : Int) < (wd : Int) := by omega
      obtain ⟨ov, nv, cv, rfl⟩ : ∃ a b c, u0 = .slice a b c := by obtain ⟨a, c, e⟩ := own_shp hO.out; exact ⟨a, _, c, e⟩
      have hlen : (L ++ (be wd n).take j).length ≤ 1000000 := by simp [be_len]; omega
      have hE := hide' (be_take (n := n) L hlt)
      have hz := hide' (byte_eq n (wd - 1 - j))
      have hBr : B ≤ wr.heap.size := Nat.le_trans hB hb.out.size
      generalize L ++ (be wd n).take j = Lj at *
      go_wp2_with (at_builtin; rw [hz.out]; refine app_byteL rfl (.tmp 12) (.tmp 21) B wr (.slice ov nv cv) Lj (n / 256 ^ (wd - 1 - j) % 256) rfl rfl rfl hO.out hBr hlen ?_; intro v2 w2 hO2 hb2 hf2; have hO3 := hide' hO2; have hB3 : Hid (Below B w w2) := hb.out.trans hb2; have hf3 : Hid (FzB w w2) := hf.out.trans hf2; clear hO2 hb2 hf2)
      rw [hE.out] at hO3
      exact ⟨⟨j + 1, by omega, by go_num, hO3, hB3, hf3⟩, by simp [intOf]; omega⟩
    · obtain rfl : j = wd := by omega
      rw [List.take_of_length_le (by rw [be_len]; exact Nat.le_refl _)] at hO
      obtain ⟨ov, nv, cv, rfl⟩ : ∃ a b c, u0 = .slice a b c := by obtain ⟨a, c, e⟩ := own_shp hO.out; exact ⟨a, _, c, e⟩
      go_wp2
      go_ret
      exact ⟨_, rfl, hO, hb, hf⟩
set_option maxRecDepth 100000 in
set_option maxHeartbeats 2000000 in
theorem putU (B : Nat) (v : Value) (L : List Nat) (wd n : Nat) (w : World) (hO : w.ownsRow B 5 1 v L.length (cellsB L)) (hB : B ≤ w.heap.size) (hw : wd ≤ 8) (hl : L.length ≤ 100000) (_ : n < 18446744073709551616) :
    Calls Try.prog 36 #[v, .int .i64 (wd : Int), .int .u64 (n : Int)] w (PuP w B (L ++ be wd n)) := by
  unfold PuP
  have hO' := hide' hO
  clear hO
  go_enter Try.func36, Try.ntmps36
  go_wp2
  go_loopw [0, 7, 9] (fun v _ p wr => ∃ j : Nat, j ≤ wd ∧ p = .int .i64 (j : Int) ∧ Hid (wr.ownsRow B 5 1 v (L ++ (be wd n).take j).length (cellsB (L ++ (be wd n).take j))) ∧ Hid (Below B w wr) ∧ Hid (FzB w wr)) (fun _ _ p _ => ((wd : Int) - intOf p).toNat)
  case atStart => exact ⟨0, Nat.zero_le _, rfl, by simpa using hO', Below.refl _ _, FzB.refl _⟩
  case round =>
    clear hO'
    obtain ⟨j, hj, rfl, hO, hb, hf⟩ := hrel
    by_cases hlt : j < wd
    · have hlt' : (j : Int) < (wd : Int) := by omega
      obtain ⟨ov, nv, cv, rfl⟩ : ∃ a b c, u0 = .slice a b c := by obtain ⟨a, c, e⟩ := own_shp hO.out; exact ⟨a, _, c, e⟩
      have hlen : (L ++ (be wd n).take j).length ≤ 1000000 := by simp [be_len]; omega
      have hE := hide' (be_take (n := n) L hlt)
      have hz := hide' (byte_eq n (wd - 1 - j))
      have hBr : B ≤ wr.heap.size := Nat.le_trans hB hb.out.size
      generalize L ++ (be wd n).take j = Lj at *
      go_wp2_with (at_builtin; rw [hz.out]; refine app_byteL rfl (.tmp 12) (.tmp 21) B wr (.slice ov nv cv) Lj (n / 256 ^ (wd - 1 - j) % 256) rfl rfl rfl hO.out hBr hlen ?_; intro v2 w2 hO2 hb2 hf2; have hO3 := hide' hO2; have hB3 : Hid (Below B w w2) := hb.out.trans hb2; have hf3 : Hid (FzB w w2) := hf.out.trans hf2; clear hO2 hb2 hf2)
      rw [hE.out] at hO3
      exact ⟨⟨j + 1, by omega, by go_num, hO3, hB3, hf3⟩, by simp [intOf]; omega⟩
    · obtain rfl : j = wd := by omega
      rw [List.take_of_length_le (by rw [be_len]; exact Nat.le_refl _)] at hO
      obtain ⟨ov, nv, cv, rfl⟩ : ∃ a b c, u0 = .slice a b c := by obtain ⟨a, c, e⟩ := own_shp hO.out; exact ⟨a, _, c, e⟩
      go_wp2
      go_ret
      exact ⟨_, rfl, hO, hb, hf⟩
/-- A row of bytes, wherever it lies. -/
def RowB (w : World) (v : Value) (L : List Nat) : Prop := ∃ oa cap, v = .slice oa L.length cap ∧ ∀ (i : Nat) (z : Nat), L[i]? = some z → ∃ g o, oa = some ⟨g, o, none⟩ ∧ w.cell? ⟨g, o + i, none⟩ = some (.int .u8 (z : Int))
theorem RowB.below {w w' : World} {v : Value} {L : List Nat} {n : Nat} (h : RowB w v L) (hb : Below n w w') (hn : w.heap.size ≤ n) : RowB w' v L := by
  obtain ⟨oa, cap, e, h⟩ := h
  refine ⟨oa, cap, e, fun i z hz => ?_⟩
  obtain ⟨g, o, e1, e2⟩ := h i z hz
  exact ⟨g, o, e1, (hb.cell (p := ⟨g, o + i, none⟩) (Nat.lt_of_lt_of_le (cell_lt e2) hn)).trans e2⟩
theorem RowB.of_owns {W : World} {B : Nat} {v : Value} {L : List Nat} (h : W.ownsRow B 5 1 v L.length (cellsB L)) : RowB W v L := by
  rcases h.2 with ⟨rfl, h0⟩ | ⟨g, cap, cur, rfl, _, _, hcap, _⟩
  · refine ⟨none, 0, by rw [h0], fun i z hz => ?_⟩
    have := (List.getElem?_eq_some_iff.1 hz).1
    omega
  · refine ⟨_, cap, rfl, fun i z hz => ⟨g, 0, rfl, ?_⟩⟩
    have hi := (List.getElem?_eq_some_iff.1 hz).1
    have := h.cellAt i (by omega)
    rw [Nat.zero_add, this]
    simp [cellsB, hz]
/-- The text of bytes. -/
def strB (L : List Nat) : ByteArray := strOfNums (L.map fun z : Nat => (z : Int))
theorem conv_bytes {w : World} {v : Value} {L : List Nat} (h : RowB w v L) : (convert 22 9 v).run Try.prog w = .ok (.string (strB L)) w := by
  obtain ⟨oa, cap, rfl, hc⟩ := h
  cases oa with
  | none =>
    cases L with
    | nil => exact run_convert_bytes_nil w 22 5 Try.underlying22 Try.underlying5 0 cap 9 Try.underlying9
    | cons a l => obtain ⟨g, o, e, _⟩ := hc 0 a rfl; cases e
  | some ad =>
    cases L with
    | nil =>
      have hl : (loadCells ad 0).run Try.prog w = .ok (([] : List Int).map (Value.int .u8)).toArray w := run_loadCells_list (P := Try.prog) w ad [] (fun j v hj => by simp at hj)
      show (convert 22 9 (.slice (some ad) 0 cap)).run Try.prog w = _
      rw [run_convert_bytes_string w 22 9 5 _ 0 cap Try.underlying22 Try.underlying5 Try.underlying9, run_bytesToString w _ 0 cap [] hl]
      rfl
    | cons a l =>
      obtain ⟨g, o, e, _⟩ := hc 0 a rfl
      cases e
      refine run_convert_bytes_arg w 22 5 Try.underlying22 Try.underlying5 g o _ cap _ (by simp) (fun i hi => ?_) 9 Try.underlying9
      obtain ⟨z, hz⟩ : ∃ z, (a :: l)[i]? = some z := ⟨_, List.getElem?_eq_getElem hi⟩
      obtain ⟨g', o', e', hcell⟩ := hc i z hz
      cases e'
      rw [hcell, List.getD_eq_getElem?_getD, List.getElem?_map, hz]
      rfl
end Go.Proofs.Ytfajgbdnfphajaa.S

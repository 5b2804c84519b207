/- A text that is built: WriteByte, WriteString, String of a builder of one's own. -/
import Derived.Test.YtghodeggobgclaaLKeep
import Derived.Lib.Builder
import Derived.Lib.AppendStr
import Derived.Lib.UnsafeStr
import Derived.Lib.Walk
import Derived.Shelf.RegionOpenPlain
namespace Go.Proofs.Ytghodeggobgclaa
open Go.RowKit Go.Shelf
theorem infoB : (Try.prog.info? 75).map (·.size) = some 2 := by kernel_rfl
theorem liesB : liesAt Try.prog Try.prog.depth 75 (2 / Try.prog.cellsOf 75) 0 75 1 = true := by kernel_rfl
theorem info8 : (Try.prog.info? 5).map (fun i => (i.zero, i.size, i.bytes)) = some (some (.int .u8 0), 1, 1) := by kernel_rfl
/-- The bytes as cells. -/
def bcs (l : List UInt8) : List Value := l.map fun c => Value.int .u8 (Int.ofNat c.toNat)
/-- A builder at block b, the call's own from B on, that holds the bytes l. -/
structure Bd (B b : Nat) (l : List UInt8) (w : World) : Prop where
  ge : B ≤ b
  is : ∃ p v, (p = .pointer none ∨ p = .pointer (some ⟨b, 0, none⟩)) ∧ w.heap[b]? = some (.cells #[p, v] 75 (0, 0)) ∧ w.ownsRow B 5 1 v l.length (bcs l) ∧ v.ownBlock ≠ some b
/-- Blocks of other kinds than bytes, but for b, are kept. -/
def Fb (b : Nat) (w w' : World) : Prop := ∀ (g : Nat) cs T fr, g ≠ b → T ≠ 5 → w.heap[g]? = some (.cells cs T fr) → w'.heap[g]? = w.heap[g]?
theorem Fb.refl (b : Nat) (w : World) : Fb b w w := fun _ _ _ _ _ _ _ => rfl
theorem Fb.trans {b : Nat} {w V U : World} (h : Fb b w V) (k : Fb b V U) : Fb b w U := fun g cs T fr h1 h2 h3 => (k g cs T fr h1 h2 ((h g cs T fr h1 h2 h3).trans h3)).trans (h g cs T fr h1 h2 h3)
theorem Fb.set (b i : Nat) (w : World) (v : Value) : Fb b w (w.setCell ⟨b, i, none⟩ v) := fun _ _ _ _ h1 _ _ => setCell_far h1
theorem Fb.alloc (b : Nat) (w : World) (o : Obj) : Fb b w (w.alloc o) := fun _ _ _ _ _ _ h3 => Below.heap_alloc _ _ _ (Array.getElem?_eq_some_iff.1 h3).1
theorem Fb.grown {b : Nat} {w w' : World} {n : Nat} {v : Value} {m : Nat} {xs : List Value} (hr : w.ownsRow n 5 1 v m xs) (hg : w.grownBy w' v.ownBlock) : Fb b w w' := fun g _ _ _ _ h2 h3 =>
  hg.block g (Array.getElem?_eq_some_iff.1 h3).1 fun e => Lib.ownBlock_ne hr h3 h2 e.symm
set_option maxHeartbeats 2000000 in
set_option maxRecDepth 100000 in
theorem chk0 (b : Nat) (v : Value) (w : World) (h : w.heap[b]? = some (.cells #[.pointer none, v] 75 (0, 0))) :
    Calls Try.prog 65 #[.pointer (some ⟨b, 0, none⟩)] w fun e w' => e = .returned (.tuple #[]) ∧ w' = w.setCell ⟨b, 0, none⟩ (.pointer (some ⟨b, 0, none⟩)) := by
  obtain ⟨j, hj, hjs⟩ := Option.map_eq_some_iff.1 infoB
  have x0 : w.cell? ⟨b, 0, none⟩ = some (.pointer none) := by simp [World.cell?, h]
  have fz : w.frozen? ⟨b, 0, none⟩ = false := by simp [World.frozen?, h]
  have hsh : w.shape? b = some (75, 2) := by simp [World.shape?, h]
  go_enter Try.func65, Try.ntmps65
  go_wp2
  rw [Lib.run_to_unsafe w ⟨b, 0, none⟩ Try.underlying72 Try.underlying140 hj (by rw [hjs]; decide) hsh (Nat.zero_lt_succ 1)]
  simp only [Result.andThen]
  rw [Oper.upon_value]
  go_wp2
  rw [run_callFunc_extern Try.func94 (by kernel_rfl) (by kernel_rfl) (by kernel_rfl) (e := Extern.AbiNoEscape.same) (by kernel_rfl), Lib.run_noEscape]
  simp only [Result.andThen]
  rw [Oper.upon_value]
  go_wp2
  rw [Lib.run_from_unsafe w ⟨b, 0, none⟩ Try.underlying140 Try.underlying72 hj hsh liesB]
  simp only [Result.andThen]
  rw [Oper.upon_value]
  go_wp2
  go_end0
  exact ⟨rfl, rfl⟩
set_option maxHeartbeats 2000000 in
set_option maxRecDepth 100000 in
theorem chk1 (b : Nat) (v : Value) (w : World) (h : w.heap[b]? = some (.cells #[.pointer (some ⟨b, 0, none⟩), v] 75 (0, 0))) :
    Calls Try.prog 65 #[.pointer (some ⟨b, 0, none⟩)] w fun e w' => e = .returned (.tuple #[]) ∧ w' = w := by
  obtain ⟨j, hj, _⟩ := Option.map_eq_some_iff.1 infoB
  have x0 : w.cell? ⟨b, 0, none⟩ = some (.pointer (some ⟨b, 0, none⟩)) := by simp [World.cell?, h]
  go_enter Try.func65, Try.ntmps65
  go_wp2
  rw [Lib.run_neq_ptr_same w _ Try.underlying72 hj]
  go_wp2
  go_end0
  exact ⟨rfl, rfl⟩
/-- Behind copyCheck. -/
theorem chkF (B b : Nat) (l : List UInt8) (w : World) (h : Bd B b l w) :
    Calls Try.prog 65 #[.pointer (some ⟨b, 0, none⟩)] w fun e w' => e = .returned (.tuple #[]) ∧ (∃ v, w'.heap[b]? = some (.cells #[.pointer (some ⟨b, 0, none⟩), v] 75 (0, 0)) ∧ w'.ownsRow B 5 1 v l.length (bcs l) ∧ v.ownBlock ≠ some b) ∧ Below B w w' ∧ Fb b w w' := by
  obtain ⟨hB, p, v, hp, hb, hr, hne⟩ := h
  rcases hp with rfl | rfl
  · refine (chk0 b v w hb).mono ?_
    rintro e w' ⟨rfl, rfl⟩
    refine ⟨rfl, ⟨v, heap_setCell_same w b 0 _ _ _ hb, owns_same hr fun g _ e => setCell_far (fun hh => hne (by rw [e, hh])), hne⟩, (Below.refl B w).setCell (p := ⟨b, 0, none⟩) hB _, Fb.set _ _ _ _⟩
  · refine (chk1 b v w hb).mono ?_
    rintro e w' ⟨rfl, rfl⟩
    exact ⟨rfl, ⟨v, hb, hr, hne⟩, Below.refl _ _, Fb.refl _ _⟩
set_option maxHeartbeats 4000000 in
set_option maxRecDepth 100000 in
theorem writeByteF (B b : Nat) (l : List UInt8) (c : UInt8) (w : World) (h : Bd B b l w) (hl : l.length ≤ 1000000000) (hBw : B ≤ w.heap.size) :
    Calls Try.prog 29 #[.pointer (some ⟨b, 0, none⟩), .int .u8 (c.toNat : Int)] w fun e w' => e = .returned .nilIface ∧ Bd B b (l ++ [c]) w' ∧ Below B w w' ∧ Fb b w w' := by
  obtain ⟨i0, hi, hz0, hz1, hz2⟩ := info_partsL info8
  have hBb := h.ge
  have KC := hide' (chkF B b l w h)
  clear h
  go_enter Try.func29, Try.ntmps29
  go_wp2_with fail
  refine KC.out.mono ?_
  rintro e w1 ⟨rfl, ⟨v, hb, hr, hne⟩, hb1, hf1⟩
  have hf1' := hide' hf1
  clear hf1
  have x1 : w1.cell? ⟨b, 1, none⟩ = some v := by simp [World.cell?, hb]
  obtain ⟨ov, cp, rfl⟩ := own_shapeT hr
  have hlt : b < w1.heap.size := (Array.getElem?_eq_some_iff.1 hb).1
  have hz := hb1.size
  have hr' := hide' hr
  have hb' := hide' hb
  have hb1' := hide' hb1
  have hne' := hide' hne
  have hbcs : Hid (bcs (l ++ [c]) = bcs l ++ [.int .u8 (c.toNat : Int)]) := by show _ = _; simp [bcs]
  have hll : Hid ((l ++ [c]).length = l.length + 1) := by show _ = _; simp
  clear hr hb hb1 hne KC
  generalize hm : l.length = m at *
  go_wp2_with (at_builtin; go_loud (refine wpList_append_lies _ rfl _ _ 73 rfl B 5 i0 (.int .u8 0) 1 1 Try.underlying73 hi hz0 hz1 hz2 rfl (by decide) (.slice ov m cp) m (bcs l) rfl (hr'.out.alloc _) ⟨w1.heap.size, 0, none⟩ 1 1 [.int .u8 (c.toNat : Int)] rfl rfl (by intro j u hj; match j, hj with | 0, hj => cases hj; exact cell_box w1 _ _ | j + 1, hj => simp at hj) (by simp [Value.oneCell']) (by decide) (by unfold maxLen; omega) (by omega) (by simp; omega) _ rfl ?_); intro g4 cap4 w4 hown4 hgrow4 hat4 hlt4; have hb4 : w4.heap[b]? = some (.cells #[.pointer (some ⟨b, 0, none⟩), .slice ov m cp] 75 (0, 0)) := (hgrow4.block b (by simp; omega) (fun e => hne'.out e.symm)).trans ((Below.heap_alloc _ _ _ hlt).trans hb'.out); have y1 : w4.cell? ⟨b, 1, none⟩ = some (.slice ov m cp) := by { simp [World.cell?, hb4] }; have f1 : w4.frozen? ⟨b, 1, none⟩ = false := by { simp [World.frozen?, hb4] }; have HO := hide' (And.intro hown4 (And.intro hgrow4 (And.intro hat4 hb4))); clear hown4 hgrow4 hat4 hlt4 hb4)
  go_ret
  obtain ⟨hown4, hgrow4, hat4, hb4⟩ := HO.out
  have hgb : g4 ≠ b := by
    rcases hat4 with h | h
    · rintro rfl; exact hne'.out h
    · simp at h; omega
  have hrow4 : w4.ownsRow B 5 1 (.slice (some ⟨g4, 0, none⟩) (m + 1) cap4) (l ++ [c]).length (bcs (l ++ [c])) := by rw [hll.out, hbcs.out]; exact hown4
  refine ⟨rfl, ⟨hBb, _, _, .inr rfl, heap_setCell_same w4 b 1 _ _ _ hb4, owns_same hrow4 fun g _ e => setCell_far (fun hh => hgb ?_), fun e => hgb (by simpa [Value.ownBlock] using e)⟩, ?_, ((hf1'.out.trans (Fb.alloc _ _ _)).trans (Fb.grown (hr'.out.alloc _) hgrow4)).trans (Fb.set _ _ _ _)⟩
  · have : g4 = g := by simpa [Value.ownBlock] using e
    rw [this, hh]
  · exact ((hb1'.out.alloc (by omega) _).grown hgrow4 (by simp; omega) (fun k hk => (hr'.out.lt k hk).1)).setCell (p := ⟨b, 1, none⟩) hBb _
set_option maxHeartbeats 4000000 in
set_option maxRecDepth 100000 in
theorem writeStringF (B b : Nat) (l t : List UInt8) (w : World) (h : Bd B b l w) (hl : l.length ≤ 1000000000) (ht : t.length ≤ 1000000000) (hBw : B ≤ w.heap.size) :
    Calls Try.prog 31 #[.pointer (some ⟨b, 0, none⟩), .string (bs t)] w fun e w' => (∃ n, e = .returned (.tuple #[.int .i64 n, .nilIface])) ∧ Bd B b (l ++ t) w' ∧ Below B w w' ∧ Fb b w w' := by
  obtain ⟨i0, hi, hz0, hz1, hz2⟩ := info_partsL info8
  have hsz := bs_size t
  have hBb := h.ge
  have KC := hide' (chkF B b l w h)
  have hcs : Hid (Lib.strCells (bs t) = bcs t) := by
    show _ = _
    unfold Lib.strCells bcs
    simp [bs]
  clear h
  generalize bs t = st at *
  go_enter Try.func31, Try.ntmps31
  go_wp2_with fail
  refine KC.out.mono ?_
  rintro e w1 ⟨rfl, ⟨v, hb, hr, hne⟩, hb1, hf1⟩
  have hf1' := hide' hf1
  clear hf1
  have x1 : w1.cell? ⟨b, 1, none⟩ = some v := by simp [World.cell?, hb]
  obtain ⟨ov, cp, rfl⟩ := own_shapeT hr
  have hlt : b < w1.heap.size := (Array.getElem?_eq_some_iff.1 hb).1
  have hz := hb1.size
  have hr' := hide' hr
  have hb' := hide' hb
  have hb1' := hide' hb1
  have hne' := hide' hne
  have hbcs : Hid (bcs (l ++ t) = bcs l ++ bcs t) := by show _ = _; simp [bcs]
  have hll : Hid ((l ++ t).length = l.length + t.length) := by show _ = _; simp
  clear hr hb hb1 hne KC
  generalize hm : l.length = m at *
  go_wp2_with (at_builtin; go_loud (refine Lib.wpList_append_own_string _ rfl _ _ 73 9 rfl B 5 i0 Try.underlying73 Try.underlying9 hi hz0 hz1 hz2 (.slice ov m cp) m (bcs l) rfl hr'.out st rfl (by unfold maxLen; omega) (by omega) (by omega) ?_); intro v4 w4 hown4 hgrow4 hnn; have hb4 : w4.heap[b]? = some (.cells #[.pointer (some ⟨b, 0, none⟩), .slice ov m cp] 75 (0, 0)) := (hgrow4.block b hlt (fun e => hne'.out e.symm)).trans hb'.out; have y1 : w4.cell? ⟨b, 1, none⟩ = some (.slice ov m cp) := by { simp [World.cell?, hb4] }; have f1 : w4.frozen? ⟨b, 1, none⟩ = false := by { simp [World.frozen?, hb4] }; obtain ⟨o4, cp4, rfl⟩ := own_shapeT hown4; have HO := hide' (And.intro hown4 (And.intro hgrow4 hb4)); clear hown4 hgrow4 hnn hb4)
  go_ret2
  obtain ⟨hown4, hgrow4, hb4⟩ := HO.out
  rw [hsz] at hown4
  have hne4 := Lib.ownBlock_ne hown4 hb4 (by decide)
  have hrow4 : w4.ownsRow B 5 1 (.slice o4 (m + t.length) cp4) (l ++ t).length (bcs (l ++ t)) := by
    rw [hll.out, hbcs.out, ← hcs.out]
    exact hown4
  refine ⟨⟨_, rfl⟩, ⟨hBb, _, _, .inr rfl, heap_setCell_same w4 b 1 _ _ _ hb4, owns_same hrow4 fun g _ e => setCell_far (fun hh => hne4 (e.trans (congrArg some hh))), hne4⟩, ?_, (hf1'.out.trans (Fb.grown hr'.out hgrow4)).trans (Fb.set _ _ _ _)⟩
  exact (hb1'.out.grown hgrow4 (by omega) (fun k hk => (hr'.out.lt k hk).1)).setCell (p := ⟨b, 1, none⟩) hBb _
end Go.Proofs.Ytghodeggobgclaa

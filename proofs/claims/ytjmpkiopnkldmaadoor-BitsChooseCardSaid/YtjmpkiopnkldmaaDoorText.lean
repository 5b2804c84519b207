/- Text: the set as a text. -/
import Derived.Test.YtjmpkiopnkldmaaDoorDig
import Derived.Lib.SlBytesRow
namespace Go.Proofs.YtjmpkiopnkldmaaDoor
open Go.RowKit Go.Shelf
attribute [local go_sem] Oper.semAt_some
/-- One number more in a text. -/
def txtStep (acc : List UInt8) (k : Fin 64) : List UInt8 := (if 1 < acc.length then acc ++ [44] else acc) ++ dig k.val
/-- The text, but for its end, of numbers. -/
def txt (l : List (Fin 64)) : List UInt8 := l.foldl txtStep [123]
theorem txt_snoc (l : List (Fin 64)) (k : Fin 64) : txt (l ++ [k]) = txtStep (txt l) k := by simp [txt]
theorem step_len (acc : List UInt8) (k : Fin 64) : acc.length ≤ (txtStep acc k).length ∧ (txtStep acc k).length ≤ acc.length + 3 := by
  have := dig_len k.val
  unfold txtStep
  split <;> simp <;> omega
theorem fold_len (l : List (Fin 64)) (acc : List UInt8) : acc.length ≤ (l.foldl txtStep acc).length ∧ (l.foldl txtStep acc).length ≤ acc.length + 3 * l.length := by
  induction l generalizing acc with
  | nil => simp
  | cons k l ih =>
    have h1 := ih (txtStep acc k)
    have h2 := step_len acc k
    simp only [List.foldl_cons, List.length_cons]
    omega
theorem txt_len (l : List (Fin 64)) : 1 ≤ (txt l).length ∧ (txt l).length ≤ 1 + 3 * l.length := by
  have := fold_len l [123]
  simpa [txt] using this
theorem txt_first (l : List (Fin 64)) (k : Fin 64) (h : ¬ 1 < (txt l).length) : txt (l ++ [k]) = txt l ++ dig k.val := by rw [txt_snoc, txtStep, if_neg h]
theorem txt_more (l : List (Fin 64)) (k : Fin 64) (h : 1 < (txt l).length) : txt (l ++ [k]) = (txt l ++ [44]) ++ dig k.val := by rw [txt_snoc, txtStep, if_pos h]
theorem nums_len (x : Nat) : (nums x).length ≤ 64 := by
  have := List.length_filter_le (fun i : Fin 64 => x.testBit i.val) (List.finRange 64)
  simpa [nums] using this

/-- A slice in a box, grown, and stored back: the box, the row, a second box, and what is kept. -/
theorem box_grown {W w1 : World} {n₀ B Bx : Nat} {t tx e : TypeId} {size : Nat} {v v' vx : Value} {k m : Nat} {xs ys : List Value}
    (hv : Boxed W B t v) (hx : Boxed W Bx tx vx) (hte : t ≠ e) (htx : tx ≠ e) (hne : Bx ≠ B) (hrow : W.ownsRow n₀ e size v k xs) (hn₀ : n₀ ≤ W.heap.size) (hB : n₀ ≤ B)
    (hown' : w1.ownsRow n₀ e size v' m ys) (hgrow : W.grownBy w1 v.ownBlock) :
    Boxed w1 B t v ∧ Boxed (w1.setCell ⟨B, 0, none⟩ v') B t v' ∧ (w1.setCell ⟨B, 0, none⟩ v').ownsRow n₀ e size v' m ys ∧ Boxed (w1.setCell ⟨B, 0, none⟩ v') Bx tx vx ∧ KeepsOthers W (w1.setCell ⟨B, 0, none⟩ v') ∧ Below n₀ W (w1.setCell ⟨B, 0, none⟩ v') := by
  have hv1 : Boxed w1 B t v := hv.kept hgrow (hv.not_row hte hrow)
  have hx1 : Boxed w1 Bx tx vx := hx.kept hgrow (hx.not_row htx hrow)
  refine ⟨hv1, hv1.set v', hown'.kept (grownBy_setCell' w1 B v') (.inr (hv1.not_row hte hown').symm), hx1.other hne v', ?_, ?_⟩
  · refine (KeepsOthers.of_grownBy hgrow fun j o ej hj => ?_).trans (KeepsOthers.setCell _ _ _)
    rcases hrow.2 with ⟨rfl, _⟩ | ⟨g, cap, cur, rfl, _, hgb, _⟩
    · simp [Value.ownBlock] at ej
    · obtain rfl : g = j := by simpa [Value.ownBlock] using ej
      rw [hgb] at hj; cases hj; rfl
  · refine ((Below.refl n₀ W).grown hgrow hn₀ fun j ej => ?_).setCell (p := ⟨B, 0, none⟩) hB v'
    rcases hrow.2 with ⟨rfl, _⟩ | ⟨g, cap, cur, rfl, hb, _, _⟩
    · simp [Value.ownBlock] at ej
    · obtain rfl : g = j := by simpa [Value.ownBlock] using ej
      exact hb
theorem row_keeps {W w1 : World} {n₀ : Nat} {e : TypeId} {size : Nat} {v : Value} {k : Nat} {xs : List Value} (hrow : W.ownsRow n₀ e size v k xs) (hn₀ : n₀ ≤ W.heap.size) (hgrow : W.grownBy w1 v.ownBlock) : KeepsOthers W w1 ∧ Below n₀ W w1 := by
  refine ⟨KeepsOthers.of_grownBy hgrow fun j o ej hj => ?_, (Below.refl n₀ W).grown hgrow hn₀ fun j ej => ?_⟩
  · rcases hrow.2 with ⟨rfl, _⟩ | ⟨g, cap, cur, rfl, _, hgb, _⟩
    · simp [Value.ownBlock] at ej
    · obtain rfl : g = j := by simpa [Value.ownBlock] using ej
      rw [hgb] at hj; cases hj; rfl
  · rcases hrow.2 with ⟨rfl, _⟩ | ⟨g, cap, cur, rfl, hb, _, _⟩
    · simp [Value.ownBlock] at ej
    · obtain rfl : g = j := by simpa [Value.ownBlock] using ej
      exact hb
theorem owns_form {W : World} {base : Nat} {e : TypeId} {size : Nat} {v : Value} {n : Nat} {xs : List Value} (h : W.ownsRow base e size v n xs) (hn : 1 ≤ n) : ∃ g cap, v = .slice (some ⟨g, 0, none⟩) n cap := by
  rcases h.2 with ⟨_, h0⟩ | ⟨g, cap, _, rfl, _⟩
  · omega
  · exact ⟨g, cap, rfl⟩
theorem row_bytes {w : World} {n₀ : Nat} {e : TypeId} {v : Value} {n : Nat} {bs : List UInt8} (h : w.ownsRow n₀ e 1 v n (rowOf bs)) (hn : 1 ≤ n) :
    ∃ g cap, v = .slice (some ⟨g, 0, none⟩) (⟨bs.toArray⟩ : ByteArray).size cap ∧ Lib.Bytes w g 0 ⟨bs.toArray⟩ ∧ n = bs.length := by
  have hl : n = bs.length := by have := h.1; simp [rowOf] at this; omega
  rcases h.2 with ⟨_, h0⟩ | ⟨g, cap, cur, rfl, _, hb, _, _, _, hcur⟩
  · omega
  · refine ⟨g, cap, by simp [ByteArray.size, hl], fun i hi => ?_, hl⟩
    have hi' : i < bs.length := by simpa [ByteArray.size] using hi
    have e1 : cur[i]? = some (Value.int .u8 ((bs[i]).toNat : Int)) := by
      have : (cur.toList.take (n * 1))[i]? = (rowOf bs)[i]? := by rw [hcur]
      rw [List.getElem?_take_of_lt (by omega)] at this
      simpa [rowOf, hi'] using this
    simp [World.cell?, hb, e1]
    rfl
theorem text_row {s : ByteArray} {bs : List UInt8} {R : List Value} {w1 : World} {n₀ : Nat} {e : TypeId} {v : Value} {N : Nat} (hs : Hid (s = ⟨(bs ++ [125]).toArray⟩)) (hT : Hid (rowOf (bs ++ [125]) = R ++ rowOf [125])) (h : w1.ownsRow n₀ e 1 v (N + 1) (R ++ [.int .u8 125])) :
    ∃ g cap, v = .slice (some ⟨g, 0, none⟩) s.size cap ∧ Lib.Bytes w1 g 0 s := by
  have h' : w1.ownsRow n₀ e 1 v (N + 1) (rowOf (bs ++ [125])) := by rw [hT.out]; exact h
  obtain ⟨g, cap, h1, h2, _⟩ := row_bytes h' (by omega)
  exact ⟨g, cap, by rw [hs.out]; exact h1, by rw [hs.out]; exact h2⟩
set_option maxRecDepth 100000 in
set_option maxHeartbeats 4000000 in
theorem textC8 (x : Nat) (hx : x < 256) (w : World) (ht : Tab w) (s : ByteArray) (hs' : Hid (s = ⟨(txt (nums x) ++ [125]).toArray⟩)) :
    CallsIn Fence.wide 9 Tryd.prog 19 #[.agg #[.int .u8 x]] w fun e W' => e = .returned (.string s) ∧ Below w.heap.size w W' := by
  obtain ⟨i0, hi, hz0, hz1, hz2⟩ := info_parts info8
  have hnl := nums_len x
  refine callsIn_of_wp_marks Tryd.func19 rfl trivial ?_ rfl
  simp only [Tryd.ntmps19, List.size_toArray, List.length_cons, List.length_nil, Nat.reduceAdd, Nat.reduceSub, Array.replicate_succ, Array.replicate_zero, List.push_toArray, List.append_toArray, List.nil_append, List.cons_append]
  gi_wp2_with (refine ⟨trivial, ?_⟩; gi_at_call 14; refine (callsIn_wide.2 (all8 _ _)).mono ?_; rintro e w' ⟨rfl, rfl⟩)
  have hB0 : Below w.heap.size w ((((w.alloc (.cells #[.int .u8 x] 26)).alloc (.cells #[.int .u8 123] 5)).alloc (.cells #[.slice (some ⟨w.heap.size + 1, 0, none⟩) 1 1] 48)).alloc (.cells #[.int .u8 x] 26)) := ((((Below.refl _ w).alloc (Nat.le_refl _) _).alloc (by simp) _).alloc (by simp; omega) _).alloc (by simp; omega) _
  have bT := (Boxed.new ((w.alloc (.cells #[.int .u8 x] 26)).alloc (.cells #[.int .u8 123] 5)) 48 (.slice (some ⟨w.heap.size + 1, 0, none⟩) 1 1)).alloc (.cells #[.int .u8 x] 26)
  have bN := Boxed.new (((w.alloc (.cells #[.int .u8 x] 26)).alloc (.cells #[.int .u8 123] 5)).alloc (.cells #[.slice (some ⟨w.heap.size + 1, 0, none⟩) 1 1] 48)) 26 (.int .u8 x)
  have bR : ((((w.alloc (.cells #[.int .u8 x] 26)).alloc (.cells #[.int .u8 123] 5)).alloc (.cells #[.slice (some ⟨w.heap.size + 1, 0, none⟩) 1 1] 48)).alloc (.cells #[.int .u8 x] 26)).ownsRow w.heap.size 5 1 (.slice (some ⟨w.heap.size + 1, 0, none⟩) 1 1) 1 (rowOf [123]) := by
    have b1 := ((Boxed.new (w.alloc (.cells #[.int .u8 x] 26)) 5 (.int .u8 123)).alloc (.cells #[.slice (some ⟨w.heap.size + 1, 0, none⟩) 1 1] 48)).alloc (.cells #[.int .u8 x] 26)
    rw [World.size_alloc] at b1
    exact ⟨rfl, .inr ⟨_, 1, #[.int .u8 123], rfl, by omega, b1, Nat.le_refl _, by unfold maxLen; omega, rfl, rfl⟩⟩
  simp only [World.size_alloc] at bT bN
  generalize hW0 : ((((w.alloc (.cells #[.int .u8 x] 26)).alloc (.cells #[.int .u8 123] 5)).alloc (.cells #[.slice (some ⟨w.heap.size + 1, 0, none⟩) 1 1] 48)).alloc (.cells #[.int .u8 x] 26)) = W0 at *
  have hs0 : W0.heap.size = w.heap.size + 1 + 1 + 1 + 1 := by rw [← hW0]; simp
  clear hW0
  refine wpIn_rangeFunc_ownG rfl (by decide) (gf := 26) (lb := #[.pointer (some ⟨w.heap.size + 1 + 1 + 1, 0, none⟩)]) rfl trivial (enters_of Tryd.func26 (by kernel_rfl) rfl)
    (all_stops8 8 (w.heap.size + 1 + 1 + 1) x hx W0 (by omega) (ht.over hB0) bN.cell) KpB.t (KpB.b (by omega) (by have := ht.2; omega)) (Below.refl _ _) (fun _ => rfl)
    (fun pre W => (∃ v, Boxed W (w.heap.size + 1 + 1) 48 v ∧ W.ownsRow w.heap.size 5 1 v (txt pre).length (rowOf (txt pre)) ∧ True) ∧ Boxed W (w.heap.size + 1 + 1 + 1) 26 (.int .u8 x) ∧ Below w.heap.size w W)
    (fun _ _ _ => False)
    (OwnFrom.and (Own.from (holdsRow_own w.heap.size (w.heap.size + 1 + 1) 48 5 1 (fun pre => (txt pre).length) (fun pre => rowOf (txt pre)) (fun _ _ => True)) _) (OwnFrom.and (Own.from (boxed_own _ _ _) _) (ownFrom_below (Nat.le_refl _) (by omega))))
    (fun _ _ _ _ _ hs _ _ => hs)
    ⟨⟨_, bT, bR, trivial⟩, bN, hB0⟩
    (fun k => { tmps := #[.agg #[.int .u8 x], .pointer (some ⟨w.heap.size, 0, none⟩), .string ⟨#[]⟩, .pointer (some ⟨w.heap.size + 1 + 1, 0, none⟩), .int .i64 (k.val : Int), .slice (some ⟨w.heap.size + 1, 0, none⟩) 1 1, .agg #[.int .u8 x], .func (.func 26) #[] #[.pointer (some ⟨w.heap.size + 1 + 1 + 1, 0, none⟩)], .int .i64 (k.val : Int), undef, undef, undef, undef, undef, undef, undef, undef, undef, undef, undef, undef, undef], defers := [] }) ?assign ?body ?done ?stop
  case assign =>
    intro l k W K hK
    gi_wp2
    exact hK
  case body =>
    rintro l pre k W ⟨⟨v, hv, hrow, _⟩, hbx, hB⟩ hlt
    have hl := txt_len pre
    have hk := k.isLt
    have hd := dig_len k.val
    have hc := hv.cell
    have hf := hv.frozen
    have h3 := ht.2
    by_cases hm : 1 < (txt pre).length
    · have hT : Hid (rowOf (txt (pre ++ [k])) = (rowOf (txt pre) ++ rowOf [44]) ++ rowOf (dig k.val)) := by show _ = _; rw [txt_more pre k hm, rowOf_append, rowOf_append]
      have hT2 : Hid ((txt (pre ++ [k])).length = (txt pre).length + 1 + (dig k.val).length) := by show _ = _; rw [txt_more pre k hm]; simp; omega
      generalize (txt pre).length = N at *
      generalize hrw : rowOf (txt pre) = R at *
      clear hrw
      obtain ⟨g, cap, rfl⟩ := owns_form hrow (by omega)
      gi_wp2_with (first | (gi_at_builtin; refine wpListIn_append_own _ rfl _ _ 48 rfl w.heap.size 5 i0 (.int .u8 0) 1 1 Tryd.underlying48 hi hz0 hz1 hz2 rfl (by decide) (.slice (some ⟨g, 0, none⟩) N cap) N R rfl (hrow.alloc _) ⟨W.heap.size, 0, none⟩ 1 1 [.int .u8 44] rfl rfl (cell_one_new _ _ _) (by simp [Value.oneCell']) (by unfold maxLen; omega) (by omega) (by have := hB.size; simp; omega) ?_; intro v1 w1 hown1 hgrow1 hnil; clear hnil; obtain ⟨g1, cap1, rfl⟩ := owns_form hown1 (by omega); obtain ⟨hv1, hv2, hr2, hx2, hk2, hb2⟩ := box_grown (hv.alloc _) (hbx.alloc _) (by decide) (by decide) (by omega) (hrow.alloc _) (by have := hB.size; simp; omega) (by omega) hown1 hgrow1; have hc1 := hv1.cell; have hf1 := hv1.frozen; have hc2 := hv2.cell; have hf2 := hv2.frozen; have hz2' := hb2.size; rw [World.size_alloc] at hz2') | (refine ⟨trivial, ?_⟩; gi_at_call 30; refine (CallsIn.inRound l (callsIn_wide.2 (appInt w.heap.size k.val (by omega) _ (N + 1) _ _ hr2 (by omega) (by have := hB.size; omega)))).mono ?_; rintro e w3 ⟨v3, rfl, hown3, hgrow3⟩; obtain ⟨g3, cap3, rfl⟩ := owns_form hown3 (by omega); obtain ⟨hv3, hv4, hr4, hx4, hk4, hb4⟩ := box_grown hv2 hx2 (by decide) (by decide) (by omega) hr2 (by have := hB.size; omega) (by omega) hown3 hgrow3; have hc3 := hv3.cell; have hf3 := hv3.frozen))
      have hbW : Below w.heap.size W (W.alloc (.cells #[.int .u8 44] 5)) := (Below.refl _ W).alloc hB.size _
      exact ⟨(((KeepsOthers.alloc W _).trans hk2).trans hk4).from _, ⟨hx4.cell.trans hbx.cell.symm, fun h => h.below h3 ((hbW.trans hb2).trans hb4)⟩, ⟨⟨_, hv4, by rw [hT.out, hT2.out]; exact hr4, trivial⟩, hx4, hB.trans ((hbW.trans hb2).trans hb4)⟩⟩
    · have hT : Hid (rowOf (txt (pre ++ [k])) = rowOf (txt pre) ++ rowOf (dig k.val)) := by show _ = _; rw [txt_first pre k hm, rowOf_append]
      have hT2 : Hid ((txt (pre ++ [k])).length = (txt pre).length + (dig k.val).length) := by show _ = _; rw [txt_first pre k hm]; simp
      generalize (txt pre).length = N at *
      generalize hrw : rowOf (txt pre) = R at *
      clear hrw
      obtain ⟨g, cap, rfl⟩ := owns_form hrow (by omega)
      gi_wp2_with (refine ⟨trivial, ?_⟩; gi_at_call 30; refine (CallsIn.inRound l (callsIn_wide.2 (appInt w.heap.size k.val (by omega) _ N R _ hrow (by omega) hB.size))).mono ?_; rintro e w1 ⟨v1, rfl, hown1, hgrow1⟩; obtain ⟨g1, cap1, rfl⟩ := owns_form hown1 (by omega); obtain ⟨hv1, hv2, hr2, hx2, hk2, hb2⟩ := box_grown hv hbx (by decide) (by decide) (by omega) hrow hB.size (by omega) hown1 hgrow1; have hc1 := hv1.cell; have hf1 := hv1.frozen)
      exact ⟨hk2.from _, ⟨hx2.cell.trans hbx.cell.symm, fun h => h.below h3 hb2⟩, ⟨⟨_, hv2, by rw [hT.out, hT2.out]; exact hr2, trivial⟩, hx2, hB.trans hb2⟩⟩
  case done =>
    rintro D ys W hD rfl ⟨⟨v, hv, hrow, _⟩, hbx, hB⟩ hK
    have hl := txt_len (nums x)
    have hc := hv.cell
    have hT : Hid (rowOf (txt (nums x) ++ [125]) = rowOf (txt (nums x)) ++ rowOf [125]) := by show _ = _; rw [rowOf_append]
    generalize (txt (nums x)).length = N at *
    generalize hrw : rowOf (txt (nums x)) = R at *
    clear hrw
    obtain ⟨g, cap, rfl⟩ := owns_form hrow (by omega)
    gi_wp2_with (gi_at_builtin; refine wpListIn_append_own _ rfl _ _ 48 rfl w.heap.size 5 i0 (.int .u8 0) 1 1 Tryd.underlying48 hi hz0 hz1 hz2 rfl (by decide) (.slice (some ⟨g, 0, none⟩) N cap) N R rfl (hrow.alloc _) ⟨W.heap.size, 0, none⟩ 1 1 [.int .u8 125] rfl rfl (cell_one_new _ _ _) (by simp [Value.oneCell']) (by unfold maxLen; omega) (by omega) (by have := hB.size; simp; omega) ?_; intro v1 w1 hown1 hgrow1 hnil; clear hnil; obtain ⟨g1, cap1, rfl, hby⟩ := text_row hs' hT hown1; have hcv := Lib.run_convert_whole (P := Tryd.prog) w1 48 5 9 Tryd.underlying48 Tryd.underlying5 Tryd.underlying9 g1 0 s hby cap1)
    obtain ⟨hko, hbo⟩ := row_keeps (hrow.alloc (.cells #[.int .u8 125] 5)) (by have := hB.size; simp; omega) hgrow1
    have hK1 := ((KeepsOthers.alloc W _).trans hko).same D _ hK rfl
    have hbW : Below w.heap.size w w1 := (hB.trans ((Below.refl _ W).alloc hB.size _)).trans hbo
    refine ⟨by simp, .inl ⟨_, _, rfl, run_takeDeferred hK1, ?_⟩⟩
    exact ⟨_, results_tmp rfl _ _ _, rfl, hbW.trans (belowK_b (w := w) (Nat.le_refl _) w1 D _ _ (by omega) hK1 rfl rfl)⟩
  case stop =>
    rintro D c pre W _ _ h _
    exact h.elim
theorem text8 (x : Nat) (hx : x < 256) (w : World) (ht : Tab w) :
    Calls Tryd.prog 19 #[.agg #[.int .u8 x]] w fun e W' => e = .returned (.string ⟨(txt (nums x) ++ [125]).toArray⟩) ∧ Below w.heap.size w W' :=
  callsIn_wide.1 (textC8 x hx w ht _ rfl)
end Go.Proofs.YtjmpkiopnkldmaaDoor

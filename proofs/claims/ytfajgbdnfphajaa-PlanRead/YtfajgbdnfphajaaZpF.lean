/- flawOf: what kind of flaw it is. -/
import Derived.Test.YtfajgbdnfphajaaZpM
import Derived.Test.YtfajgbdnfphajaaSReoB
namespace Go.Proofs.Ytfajgbdnfphajaa.S
open Go.RowKit Go.Shelf
theorem infoFl : (Try.prog.info? 60).map (fun i => (i.zero, i.size, i.bytes)) = some (some (.agg #[.int .i64 0, .int .i64 0, .int .i64 0]), 3, 24) := by kernel_rfl
/-- A flaw laid behind a row of flaws. -/
theorem app_flawL {ops : Array Oper} {rest : List Oper} {o : Oper} {a : Act} {Q : Exit → Act → World → Prop} (hgd : o.guard = none) (s x : Operand) (B : Nat) (W : World) (v : Value) (L : List Fl) (f : Fl) (ho : o.op = .call { callee := .builtin .append, args := #[s, x], argTypes := #[48, 48] })
    (es : a.eval s = v) (ex : a.eval x = .slice (some ⟨W.heap.size, 0, none⟩) 1 1) (hT : W.ownsRow B 60 3 v L.length (cellsF L)) (hB : B ≤ W.heap.size) (hn : L.length ≤ 1000000)
    (h : ∀ v2 w2, w2.ownsRow B 60 3 v2 (L ++ [f]).length (cellsF (L ++ [f])) → Below B W w2 → (∀ (B' : Nat) (v' : Value) (n' : Nat) (xs' : List Value), W.ownsRow B' 3 1 v' n' xs' → w2.ownsRow B' 3 1 v' n' xs') → wpList Try.prog ops Q rest (a.put o.dst v2) w2) : wpList Try.prog ops Q (o :: rest) a (W.alloc (.cells #[.int .i64 (f.kind : Int), .int .i64 (f.step : Int), .int .i64 (f.rule : Int)] 60)) := by
  obtain ⟨i0, hi, hz0, hz1, hz2⟩ := info_parts infoFl
  refine wpList_append_own _ hgd s x 48 ho B 60 i0 (.agg #[.int .i64 0, .int .i64 0, .int .i64 0]) 3 24 Try.underlying48 hi hz0 hz1 hz2 rfl (by decide) v L.length (cellsF L) es (hT.alloc _) ⟨W.heap.size, 0, none⟩ 1 1 (fcells f) ex rfl (World.news_of_block (cs := #[.int .i64 (f.kind : Int), .int .i64 (f.step : Int), .int .i64 (f.rule : Int)]) (heap_new _ _)) (by simp [Value.oneCell', fcells]) (by unfold maxLen; omega) (by omega) (by simp; omega) ?_
  intro v2 w2 hown hgrow _
  refine h v2 w2 ?_ (((Below.refl B W).alloc hB _).grown hgrow (by simp; omega) (fun j ej => own_ge' hT ej)) fun B' v' n' xs' ho => kept_kind (ho.alloc _) (hT.alloc _) (by decide) hgrow
  have e : cellsF (L ++ [f]) = cellsF L ++ fcells f := by simp [cellsF]
  rw [e, List.length_append]
  exact hown
theorem flK_a {P : Pb} {t : Nat} {x : Int} (h : isU P x = false) : flK P t x = 2 := by unfold flK; rw [if_pos h]
theorem flK_b {P : Pb} {t : Nat} {x y : Int} (h : isU P x = true) (hy : P.fixed[t]? = some y) (h1 : y ≠ -1) (h2 : y ≠ x) : flK P t x = 3 := by
  unfold flK
  have e1 : P.fixed.getD t (-1) = y := by simp [List.getD_eq_getElem?_getD, hy]
  rw [e1, if_neg (by rw [h]; decide), if_pos ⟨h1, h2⟩]
theorem flK_c {P : Pb} {t : Nat} {x : Int} (h : isU P x = true) (hy : P.fixed[t]? = some x) (h1 : x ≠ -1) : flK P t x = 0 := by
  unfold flK
  have e1 : P.fixed.getD t (-1) = x := by simp [List.getD_eq_getElem?_getD, hy]
  rw [e1, if_neg (by rw [h]; decide), if_neg (fun q => q.2 rfl), if_neg (fun q => h1 q.1)]
theorem flK_d {P : Pb} {t z : Nat} {x : Int} (h : isU P x = true) (hy : P.fixed[t]? = some (-1)) (hz : P.who[t]? = some z) : flK P t x = if z.testBit x.toNat = false then 4 else 0 := by
  unfold flK
  have e1 : P.fixed.getD t (-1) = -1 := by simp [List.getD_eq_getElem?_getD, hy]
  have e2 : P.who.getD t 0 = z := by simp [List.getD_eq_getElem?_getD, hz]
  rw [e1, e2, if_neg (by rw [h]; decide), if_neg (fun q => q.1 rfl)]
  simp
theorem isU_iff (P : Pb) (x : Int) : isU P x = true ↔ 0 ≤ x ∧ x < P.users := by unfold isU; simp
theorem isU_no {P : Pb} {x : Int} (h : ¬ (0 ≤ x ∧ x < P.users)) : isU P x = false := by
  cases e : isU P x with
  | false => rfl
  | true => exact absurd ((isU_iff P x).1 e) h
set_option maxRecDepth 100000 in
set_option maxHeartbeats 2000000 in
theorem flawOfF (P : Pb) (wv fv rv : Value) (t : Nat) (x : Int) (w : World) (h : PbV w P wv fv rv) (hw : t < P.who.length) (hf : t < P.fixed.length) (hb : ∀ z ∈ P.who, z < 18446744073709551616) (hU : P.users ≤ 64) :
    Calls Try.prog 32 #[pbV P wv fv rv, .int .i64 (t : Int), .int .i64 x] w fun e w' => e = .returned (.int .i64 (flK P t x : Int)) ∧ Below w.heap.size w w' := by
  obtain ⟨ow, cw, rfl, _, hcw⟩ := h.who
  obtain ⟨of, cf, rfl, _, hcf⟩ := h.fixed
  obtain ⟨z, hz⟩ : ∃ z, P.who[t]? = some z := ⟨_, List.getElem?_eq_getElem hw⟩
  obtain ⟨y, hy⟩ : ∃ x, P.fixed[t]? = some x := ⟨_, List.getElem?_eq_getElem hf⟩
  obtain ⟨g1, o1, rfl, c1⟩ := hcw t z hz
  obtain ⟨g2, o2, rfl, c2⟩ := hcf t y hy
  obtain ⟨or, cr, rfl⟩ : ∃ a b, rv = .slice a P.rules.length b := by obtain ⟨a, b, e, _⟩ := h.rules; exact ⟨a, b, e⟩
  have hB : Hid (Below w.heap.size w (w.alloc (.cells #[.int .i64 P.users, .slice (some ⟨g1, o1, none⟩) P.who.length cw, .slice (some ⟨g2, o2, none⟩) P.fixed.length cf, .slice or P.rules.length cr] 27))) := (Below.refl _ w).alloc (Nat.le_refl _) _
  have d1 := M.cell_over c1 hB.out
  have d2 := M.cell_over c2 hB.out
  have hwI : (t : Int) < (P.who.length : Int) := by omega
  have hfI : (t : Int) < (P.fixed.length : Int) := by omega
  have ht0 : ¬ (t : Int) < 0 := by omega
  have hzb := hb z (List.mem_of_getElem? hz)
  unfold pbV
  clear hb hcw hcf h c1 c2
  by_cases hx : 0 ≤ x ∧ x < P.users
  case neg =>
    rw [flK_a (isU_no hx)]
    rcases (show x < 0 ∨ (0 ≤ x ∧ P.users ≤ x) by omega) with hq | ⟨hq, hq2⟩
    all_goals
      clear hx hz hy
      go_enter Try.func32, Try.ntmps32
      go_wp2
      go_ret
      exact ⟨rfl, hB.out⟩
  case pos =>
    have hu := (isU_iff P x).2 hx
    have hx0 : ¬ x < 0 := by omega
    have hxU : x < P.users := hx.2
    have hxd : decide (P.users ≤ x) = false := decide_eq_false (by omega)
    by_cases h1 : y = -1
    · subst h1
      rw [flK_d hu hy hz]
      obtain ⟨n, rfl⟩ : ∃ n : Nat, x = (n : Int) := ⟨x.toNat, by omega⟩
      rw [Int.toNat_natCast]
      have hn64 : n < 64 := by omega
      cases hbit : z.testBit n with
      | true =>
        have hsb := M.shr_bitT hzb hbit
        clear hu hx hz hy hbit
        go_enter Try.func32, Try.ntmps32
        go_wp2
        go_ret
        exact ⟨rfl, hB.out⟩
      | false =>
        have hsb := M.shr_bitF hzb hbit
        clear hu hx hz hy hbit
        go_enter Try.func32, Try.ntmps32
        go_wp2
        go_ret
        exact ⟨rfl, hB.out⟩
    · have hyn : (y != -1) = true := by rw [bne_iff_ne]; exact h1
      have hye : (y == -1) = false := by rw [beq_eq_false_iff_ne]; exact h1
      by_cases h2 : y = x
      · subst h2
        rw [flK_c hu hy h1]
        clear hu hx hz hy h1
        go_enter Try.func32, Try.ntmps32
        go_wp2
        go_ret
        exact ⟨rfl, hB.out⟩
      · rw [flK_b hu hy h1 h2]
        have hyx : (y != x) = true := by rw [bne_iff_ne]; exact h2
        clear hu hx hz hy h1 h2
        go_enter Try.func32, Try.ntmps32
        go_wp2
        go_ret
        exact ⟨rfl, hB.out⟩
end Go.Proofs.Ytfajgbdnfphajaa.S

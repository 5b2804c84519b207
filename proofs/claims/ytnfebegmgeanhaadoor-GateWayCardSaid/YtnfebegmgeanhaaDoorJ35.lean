/- GateWay's second loop: the gate, the plan, the steps that were tried. -/
import Derived.Test.YtnfebegmgeanhaaDoorJ26
import Derived.Test.YtnfebegmgeanhaaDoorJ29
import Derived.Test.YtnfebegmgeanhaaDoorJ33
import Derived.Test.YtnfebegmgeanhaaDoorJ34
namespace Go.Proofs.YtnfebegmgeanhaaDoor.S
open Go.RowKit Go.Shelf
def fxS (P : Pb) (s : Nat) (x : Int) : Pb := ⟨P.users, P.who, P.fixed.set s x, P.rules⟩
section
variable {P : Pb} {s x : Nat}
theorem fxS_eq (hC : chkN P = 0) (hs : s < P.who.length) (hx : (x : Int) < P.users) : FxY P (s : Int) (x : Int) := by
  have h1 : fxN P (s : Int) (x : Int) = 0 := by
    unfold fxN isU
    rw [if_pos hC, if_neg]
    rintro (q | q | q)
    · omega
    · omega
    · rw [decide_eq_true hx, decide_eq_true (by omega)] at q
      cases q
  refine ⟨h1, ?_⟩
  unfold fxP
  rw [if_pos h1]
theorem fxS_chk (hC : chkN P = 0) (hx : (x : Int) < P.users) : chkN (fxS P s x) = 0 := by
  obtain ⟨g12, g0, g64, g32, gF, gW, gR⟩ := chkN_zero hC
  have e1 : fixB (fxS P s x) = true := by
    unfold fixB at gF ⊢
    rw [Bool.and_eq_true] at gF ⊢
    refine ⟨List.all_eq_true.2 fun y hy => ?_, ?_⟩
    · rcases List.mem_or_eq_of_mem_set (show y ∈ P.fixed.set s x from hy) with q | q
      · exact List.all_eq_true.1 gF.1 y q
      · subst q
        unfold isU
        rw [decide_eq_true (show 0 ≤ (x : Int) by omega), decide_eq_true (show (x : Int) < (fxS P s x).users from hx)]
        simp
    · show decide ((P.fixed.set s x).length = P.who.length) = true
      rw [List.length_set]
      exact gF.2
  unfold chkN
  rw [if_neg, if_neg]
  · rintro (q | q | q | q)
    · have q' : P.users < 0 := q
      omega
    · rw [e1] at q; cases q
    · have q' : whoB P = false := q
      rw [gW] at q'; cases q'
    · have q' : rulB P = false := q
      rw [gR] at q'; cases q'
  · show ¬ (12 < P.who.length ∨ 64 < P.users ∨ 32 < P.rules.length)
    omega
theorem fxS_ok (hk : Pok P) (x : Int) : Pok (fxS P s x) := ⟨hk.w, by show (P.fixed.set s x).length ≤ 1000; rw [List.length_set]; exact hk.f, hk.r, hk.s, hk.b⟩
theorem fxS_holds {l : List Int} (h : holP P l = true) (hl : l[s]? = some (x : Int)) : holP (fxS P s x) l = true := by
  obtain ⟨hC, h2, h3, h4⟩ := holP_of h
  have hs : s < l.length := (List.getElem?_eq_some_iff.1 hl).1
  have hfl := (fixB_of (chkN_zero hC).2.2.2.2.1 (chkN_zero hC).2.2.1).1
  have hx := h3 s x hl
  unfold okU isU at hx
  simp only [Bool.and_eq_true, decide_eq_true_eq] at hx
  refine holP_mk (fxS_chk hC hx.1.2) h2 (fun t y hy => ?_) h4
  have h5 := h3 t y hy
  unfold okU isU at h5 ⊢
  simp only [Bool.and_eq_true, decide_eq_true_eq] at h5 ⊢
  refine ⟨h5.1, ?_⟩
  unfold mayP
  show (if (P.fixed.set s (x : Int)).getD t (-1) = -1 then P.who.getD t 0 else 2 ^ ((P.fixed.set s (x : Int)).getD t 0).toNat).testBit y.toNat = true
  simp only [List.getD_eq_getElem?_getD, List.getElem?_set]
  by_cases e : s = t
  · subst e
    rw [hl] at hy
    obtain rfl : (x : Int) = y := by simpa using hy
    have e1 : (if s = s then if s < P.fixed.length then some (x : Int) else none else P.fixed[s]?) = some (x : Int) := by rw [if_pos rfl, if_pos (by omega)]
    rw [e1, Option.getD_some, Option.getD_some, if_neg (by omega), Nat.testBit_two_pow]
    simp
  · rw [if_neg e]
    have h6 := h5.2
    unfold mayP at h6
    simpa only [List.getD_eq_getElem?_getD] using h6
/-- A user who is in a plan may do the step. -/
theorem hol_bit {l : List Int} (h : holP P l = true) (hl : l[s]? = some (x : Int)) (hf : P.fixed[s]? = some (-1)) : (P.who.getD s 0).testBit x = true ∧ (x : Int) < P.users := by
  obtain ⟨hC, h2, h3, h4⟩ := holP_of h
  have hx := h3 s x hl
  unfold okU isU mayP at hx
  simp only [Bool.and_eq_true, decide_eq_true_eq, List.getD_eq_getElem?_getD, hf, Option.getD_some, if_true, Int.toNat_natCast] at hx
  exact ⟨by simpa only [List.getD_eq_getElem?_getD] using hx.2, hx.1.2⟩
end
/-- Rows that are a call's own are left where its memory is. -/
theorem FxO.move {w w' W : World} {P : Pb} {va vb vc : Value} (h : FxO w w' P va vb vc) (hk : ∀ k, k < w'.heap.size → w.heap.size ≤ k → W.heap[k]? = w'.heap[k]?) : PbV W P va vb vc := by
  obtain ⟨E, hE, o1, o2, o3⟩ := h
  have f : ∀ {e sz : Nat} {v : Value} {n : Nat} {xs : List Value}, w'.ownsRow w.heap.size e sz v n xs → W.ownsRow w.heap.size e sz v n xs := fun ho => own_same ho fun g hg e => hk g hg (own_ge' ho e)
  refine ⟨RowW.of_owns (f o1), RowI.of_owns (f o2), ?_⟩
  rw [← hE]
  exact TwS.rowR ⟨f o3.row, fun p hp => f (o3.inner p hp)⟩
/-- A plan that lay there ahead of a new block is left where that block is written. -/
theorem EnS.keep {w W W' : World} {O P : Pb} {can : Bool} {v : Value} (h : EnS W P can v) (hw : Wr1 W W' w.heap.size) (h0 : ∃ l, holP O l = true ∧ RowI w v l) : EnS W' P can v := by
  refine ⟨h.1, fun q => ?_⟩
  obtain ⟨l, h1, oa, cap, e, e0, hc⟩ := h.2 q
  obtain ⟨l0, _, oa0, cap0, e3, _, hc0⟩ := h0
  rw [e] at e3
  injection e3 with e4 e5 _
  refine ⟨l, h1, oa, cap, e, e0, fun i z hi => ?_⟩
  obtain ⟨g, o, e1, e2⟩ := hc i z hi
  refine ⟨g, o, e1, ?_⟩
  have hi0 : i < l0.length := by have := (List.getElem?_eq_some_iff.1 hi).1; omega
  obtain ⟨g', o', e6, e7⟩ := hc0 i _ (List.getElem?_eq_getElem hi0)
  rw [← e4, e1] at e6
  injection e6 with e6
  injection e6 with e6 _
  subst e6
  have := hw.block g (by have := cell_lt e7; omega)
  simp only [World.cell?] at e2 ⊢
  rw [this]; exact e2
end Go.Proofs.YtnfebegmgeanhaaDoor.S
namespace Go.Proofs.YtnfebegmgeanhaaDoor.S
open Go.RowKit Go.Shelf
def cntF (L : List Int) : Nat := (L.filter fun x => decide (0 ≤ x)).length
theorem cntF_le (L : List Int) : cntF L ≤ L.length := List.length_filter_le _ _
theorem cntF_take {L : List Int} {i : Nat} {x : Int} (h : L[i]? = some x) : cntF (L.take (i + 1)) = cntF (L.take i) + (if 0 ≤ x then 1 else 0) := by
  unfold cntF
  rw [List.take_add_one, h, List.filter_append, List.length_append]
  by_cases e : 0 ≤ x <;> simp [e]
theorem cntF_set : ∀ {L : List Int} {i : Nat} {x : Int}, L[i]? = some (-1) → 0 ≤ x → cntF (L.set i x) = cntF L + 1
  | [], i, x, h, _ => by cases h
  | y :: L, 0, x, h, hx => by
    obtain rfl : y = -1 := by simpa using h
    simp [cntF, hx]
  | y :: L, i + 1, x, h, hx => by
    have ih := cntF_set (L := L) (i := i) (x := x) (by simpa using h) hx
    unfold cntF at ih ⊢
    rw [List.set_cons_succ]
    by_cases e : 0 ≤ y <;> simp [e, ih]
theorem cntF_all : ∀ {L : List Int}, (∀ (i : Nat) (x : Int), L[i]? = some x → 0 ≤ x) → cntF L = L.length
  | [], _ => rfl
  | y :: L, h => by
    have ih := cntF_all (L := L) fun i x hx => h (i + 1) x (by simpa using hx)
    have h0 := h 0 y rfl
    unfold cntF at ih ⊢
    simp [h0, ih]
theorem all_cntF : ∀ {L : List Int}, cntF L = L.length → ∀ (i : Nat) (x : Int), L[i]? = some x → 0 ≤ x
  | [], _, i, x, hx => by cases hx
  | y :: L, h, i, x, hx => by
    have hle := cntF_le L
    have h0 : 0 ≤ y ∧ cntF L = L.length := by
      unfold cntF at h hle ⊢
      by_cases e : 0 ≤ y
      · refine ⟨e, ?_⟩
        simpa [e] using h
      · simp [e] at h
        omega
    match i, hx with
    | 0, hx => obtain rfl : y = x := by simpa using hx
               exact h0.1
    | i + 1, hx => exact all_cntF h0.2 i x (by simpa using hx)
/-- How far the steps are given: the tried ones and the fixed ones are those that are fixed now. -/
structure WyI (Q P : Pb) (l : List Int) (T : List Bool) (d k : Nat) : Prop where
  hol : holP P l = true
  fl : P.fixed.length = l.length
  ql : Q.fixed.length = l.length
  tl : T.length = l.length
  eq : ∀ i, i < l.length → (T.getD i false || decide (0 ≤ Q.fixed.getD i 0)) = decide (0 ≤ P.fixed.getD i 0)
  cnt : d = cntF P.fixed
  pg : ∀ j, 100 ≤ j → j < k → 0 ≤ P.fixed.getD (j % l.length) 0
section
variable {Q P : Pb} {l : List Int} {T : List Bool} {d k : Nat}
theorem hol_len (h : holP Q l = true) : Q.fixed.length = l.length ∧ l.length ≤ 12 := by
  obtain ⟨hC, h2, _, _⟩ := holP_of h
  have g := chkN_zero hC
  have := (fixB_of g.2.2.2.2.1 g.2.2.1).1
  omega
theorem WyI.start (h : holP Q l = true) : WyI Q Q l (List.replicate l.length false) (cntF Q.fixed) 0 :=
  ⟨h, (hol_len h).1, (hol_len h).1, List.length_replicate, fun i hi => by simp [List.getD_eq_getElem?_getD, hi], rfl, fun j h1 h2 => by omega⟩
theorem fixed_val (h : holP P l = true) {i : Nat} (hi : i < l.length) : ∃ x, P.fixed[i]? = some x ∧ P.fixed.getD i 0 = x ∧ (x = -1 ∨ 0 ≤ x) := by
  obtain ⟨hC, h2, _, _⟩ := holP_of h
  have g := chkN_zero hC
  have f := fixB_of g.2.2.2.2.1 g.2.2.1
  have hi' : i < P.fixed.length := by omega
  refine ⟨P.fixed[i], List.getElem?_eq_getElem hi', by simp [List.getD_eq_getElem?_getD, List.getElem?_eq_getElem hi'], ?_⟩
  rcases f.2 _ (List.getElem_mem hi') with q | q
  · exact .inl q
  · exact .inr q.1
theorem plan_nat (h : holP P l = true) {i : Nat} (hi : i < l.length) : ∃ x : Nat, l[i]? = some (x : Int) ∧ x < 64 := by
  obtain ⟨hC, h2, h3, _⟩ := holP_of h
  have g := chkN_zero hC
  have h4 := h3 i _ (List.getElem?_eq_getElem hi)
  unfold okU isU at h4
  simp only [Bool.and_eq_true, decide_eq_true_eq] at h4
  refine ⟨(l[i]).toNat, ?_, by omega⟩
  rw [List.getElem?_eq_getElem hi, Int.toNat_of_nonneg h4.1.1]
theorem WyI.skip (h : WyI Q P l T d k) {i : Nat} (hi : i < l.length) (hik : 100 ≤ k → i = k % l.length) (hs : (T.getD i false || decide (0 ≤ Q.fixed.getD i 0)) = true) : WyI Q P l T d (k + 1) := by
  refine { h with pg := fun j h1 h2 => ?_ }
  rcases Nat.lt_or_ge j k with q | q
  · exact h.pg j h1 q
  · obtain rfl : j = k := by omega
    rw [← hik h1]
    have := h.eq i hi
    rw [hs] at this
    exact of_decide_eq_true this.symm
theorem WyI.open (h : WyI Q P l T d k) {i : Nat} (hi : i < l.length) (hs : (T.getD i false || decide (0 ≤ Q.fixed.getD i 0)) = false) : P.fixed[i]? = some (-1) := by
  obtain ⟨x, h1, h2, h3⟩ := fixed_val h.hol hi
  have h4 := h.eq i hi
  rw [hs, h2] at h4
  have h5 := of_decide_eq_false h4.symm
  rcases h3 with rfl | h3
  · exact h1
  · exact absurd h3 h5
theorem WyI.tick (h : WyI Q P l T d k) {i x : Nat} (hi : i < l.length) (hik : 100 ≤ k → i = k % l.length) (hx : l[i]? = some (x : Int)) (ho : P.fixed[i]? = some (-1)) : WyI Q (fxS P i x) l (T.set i true) (d + 1) (k + 1) := by
  have hg : ∀ j, (fxS P i x).fixed.getD j 0 = if i = j ∧ j < l.length then (x : Int) else P.fixed.getD j 0 := fun j => by
    show (P.fixed.set i (x : Int)).getD j 0 = _
    simp only [List.getD_eq_getElem?_getD, List.getElem?_set]
    by_cases e : i = j
    · subst e
      rw [if_pos rfl, if_pos (by rw [h.fl]; exact hi), if_pos ⟨rfl, hi⟩]
      rfl
    · rw [if_neg e, if_neg (fun q => e q.1)]
  refine ⟨fxS_holds h.hol hx, (List.length_set).trans h.fl, h.ql, (List.length_set).trans h.tl, fun j hj => ?_, ?_, fun j h1 h2 => ?_⟩
  · rw [hg]
    by_cases e : i = j
    · subst e
      rw [if_pos ⟨rfl, hi⟩]
      have : (T.set i true).getD i false = true := by simp [List.getD_eq_getElem?_getD, h.tl, hi]
      rw [this, Bool.true_or]
      exact (decide_eq_true (by omega)).symm
    · rw [if_neg (fun q => e q.1), ← h.eq j hj]
      have : (T.set i true).getD j false = T.getD j false := by simp [List.getD_eq_getElem?_getD, e]
      rw [this]
  · show d + 1 = cntF (P.fixed.set i (x : Int))
    rw [cntF_set ho (by omega), h.cnt]
  · rw [hg]
    by_cases e : i = j % l.length ∧ j % l.length < l.length
    · rw [if_pos e]; omega
    · rw [if_neg e]
      rcases Nat.lt_or_ge j k with q | q
      · exact h.pg j h1 q
      · obtain rfl : j = k := by omega
        exact absurd ⟨hik h1, by rw [← hik h1]; exact hi⟩ e
theorem WyI.full (h : WyI Q P l T d k) (he : 200 ≤ k ∨ l.length ≤ d) : d = l.length ∧ P.fixed = l := by
  have hd : d = l.length := by
    have h1 := cntF_le P.fixed
    rw [← h.cnt, h.fl] at h1
    rcases he with q | q
    · rw [h.cnt, ← h.fl]
      refine cntF_all fun i x hx => ?_
      have hi : i < l.length := by rw [← h.fl]; exact (List.getElem?_eq_some_iff.1 hx).1
      have h12 := (hol_len h.hol).2
      have e : (l.length * ((100 + l.length - 1) / l.length) + i) % l.length = i := by rw [Nat.mul_add_mod, Nat.mod_eq_of_lt hi]
      have b1 := Nat.div_mul_le_self (100 + l.length - 1) l.length
      have b2 := Nat.lt_div_mul_add (a := 100 + l.length - 1) (show 0 < l.length by omega)
      rw [Nat.mul_comm] at b1 b2
      have := h.pg (l.length * ((100 + l.length - 1) / l.length) + i) (by omega) (by omega)
      rw [e] at this
      simpa [List.getD_eq_getElem?_getD, hx] using this
    · omega
  refine ⟨hd, List.ext_getElem? fun i => ?_⟩
  rcases Nat.lt_or_ge i l.length with hi | hi
  · obtain ⟨hC, h2, h3, _⟩ := holP_of h.hol
    obtain ⟨x, e1, e2, _⟩ := fixed_val h.hol hi
    have h0 := all_cntF (by rw [← h.cnt, hd, h.fl]) i x e1
    obtain ⟨y, e3, _⟩ := plan_nat h.hol hi
    have h4 := h3 i _ e3
    unfold okU mayP at h4
    simp only [Bool.and_eq_true, List.getD_eq_getElem?_getD, e1, Option.getD_some, Int.toNat_natCast] at h4
    rw [if_neg (by omega), Nat.testBit_two_pow] at h4
    have h5 := of_decide_eq_true h4.2
    rw [e1, e3]
    congr 1
    omega
  · rw [List.getElem?_eq_none (by rw [h.fl]; exact hi), List.getElem?_eq_none hi]
end
theorem turnW_u (a : Int) {n : Nat} (h1 : 1 ≤ n) (hl : n ≤ 64) : ∃ k : Nat, (wrap64 (a.tmod (n : Int) + (n : Int))).tmod (n : Int) = (k : Int) ∧ k < n := by
  have h2 := Int.tmod_lt_of_pos a (show (0 : Int) < (n : Int) by omega)
  have h3 := Int.lt_tmod_of_pos a (show (0 : Int) < (n : Int) by omega)
  generalize a.tmod (n : Int) = x at *
  rw [show wrap64 (x + (n : Int)) = x + (n : Int) by unfold wrap64; omega, Int.tmod_eq_emod_of_nonneg (by omega)]
  have h4 := Int.emod_nonneg (x + (n : Int)) (show (n : Int) ≠ 0 by omega)
  have h5 := Int.emod_lt_of_pos (x + (n : Int)) (show (0 : Int) < (n : Int) by omega)
  exact ⟨((x + (n : Int)) % (n : Int)).toNat, by omega, by omega⟩
theorem turnW_k (k : Nat) {n : Nat} (h1 : 1 ≤ n) (hl : n ≤ 64) : (wrap64 ((k : Int).tmod (n : Int) + (n : Int))).tmod (n : Int) = ((k % n : Nat) : Int) := by
  have h2 : ((k : Int).tmod (n : Int)) = ((k % n : Nat) : Int) := by rw [Int.tmod_eq_emod_of_nonneg (by omega)]; simp
  have h3 := Nat.mod_lt k (show 0 < n by omega)
  rw [h2]
  generalize k % n = r at *
  rw [show wrap64 ((r : Int) + (n : Int)) = (r : Int) + (n : Int) by unfold wrap64; omega, Int.tmod_eq_emod_of_nonneg (by omega), Int.add_emod_right, Int.emod_eq_of_lt (by omega) (by omega)]
end Go.Proofs.YtnfebegmgeanhaaDoor.S
namespace Go.Proofs.YtnfebegmgeanhaaDoor.S
open Go.RowKit Go.Shelf
/-- What claim answers. -/
def ClG (w : World) (P : Pb) (gs a b c : Nat) (e : Ending) (w' : World) : Prop :=
  ∃ va vb vc ov nv cv can a' b' c', e = .returned (.tuple #[enV P va vb vc can (.slice ov nv cv), .int .i64 0]) ∧ Hid (PbV w' P va vb vc) ∧ Hid (∀ ad n c, va = .slice (some ad) n c → ad.block ≠ gs) ∧ Hid (EnS w' P can (.slice ov nv cv)) ∧ Hid (GgAt w' gs a' b' c') ∧ Hid (GcB P 2 a b c a' b' c') ∧ Hid (M.Fr2 w w' gs gs)
set_option maxRecDepth 100000 in
set_option maxHeartbeats 400000 in
theorem claimG (P : Pb) (wv fv rv pl : Value) (can : Bool) (k : Int) (s x gg gm gs a b c n : Nat) (w : World) (hkey : (Lit.int .i64 k).wf = true) (hG : GtE w gg gm gs a b c n k P wv fv rv can pl) (hgn : gg ≠ gs) (hGs : 1 ≤ gs) (ht : M.Tab w) (ha0 : a ≤ 1152921504606846976) (hb0 : b ≤ 1152921504606846976) (hc0 : c ≤ 1152921504606846976)
    (hfs : P.fixed[s]? = some (-1)) (hbit : (P.who.getD s 0).testBit x = true) (hxu : (x : Int) < P.users) :
    Calls Tryd.prog 19 #[.pointer (some ⟨gg, 0, none⟩), .int .i64 k, .int .i64 (s : Int), .int .i64 (x : Int)] w (ClG w (fxS P s x) gs a b c) := by
  have gP := chkN_zero hG.chk
  have hfl := (fixB_of gP.2.2.2.2.1 gP.2.2.1).1
  have hsf : s < P.fixed.length := (List.getElem?_eq_some_iff.1 hfs).1
  have hsw : s < P.who.length := by omega
  obtain ⟨z, hz⟩ : ∃ z, P.who[s]? = some z := ⟨_, List.getElem?_eq_getElem hsw⟩
  have hzb : z.testBit x = true := by rw [List.getD_eq_getElem?_getD, hz] at hbit; exact hbit
  have hsh := M.shr_bitT (hG.ok.b z (List.mem_of_getElem? hz)) hzb
  have hY := hide' (fxS_eq hG.chk hsw hxu)
  obtain ⟨op, np, cp, rfl⟩ := hG.shp
  obtain ⟨o1, z1, rfl, _, c1⟩ := hG.pb.who
  obtain ⟨o2, z2, rfl, _, c2⟩ := hG.pb.fixed
  obtain ⟨y3, z3, rfl, _⟩ := hG.pb.rules
  obtain ⟨b1, f1, rfl, cc1⟩ := c1 s z hz
  obtain ⟨b2, f2, rfl, cc2⟩ := c2 s (-1) hfs
  have hG' := hide' hG
  have ht' := hide' ht
  have hB0 : Hid (Below w.heap.size w (w.alloc (.cells #[.int .i64 0, .slice none 0 0, .slice none 0 0, .slice none 0 0, .bool false, .slice none 0 0] 51))) := (Below.refl _ w).alloc (Nat.le_refl _) _
  have hlk := (hG.below hB0.out).at'.mp.look1 hkey
  have hcg := (hG.below hB0.out).at'.cells.1
  have hB1 : Hid (Below w.heap.size w ((w.alloc (.cells #[.int .i64 0, .slice none 0 0, .slice none 0 0, .slice none 0 0, .bool false, .slice none 0 0] 51)).alloc (.cells #[.int .i64 P.users, .slice (some ⟨b1, f1, none⟩) P.who.length z1, .slice (some ⟨b2, f2, none⟩) P.fixed.length z2, .slice y3 P.rules.length z3, .bool can, .slice op np cp] 51))) := hB0.out.alloc hB0.out.size _
  have hX1 : Hid (((w.alloc (.cells #[.int .i64 0, .slice none 0 0, .slice none 0 0, .slice none 0 0, .bool false, .slice none 0 0] 51)).alloc (.cells #[.int .i64 P.users, .slice (some ⟨b1, f1, none⟩) P.who.length z1, .slice (some ⟨b2, f2, none⟩) P.fixed.length z2, .slice y3 P.rules.length z3, .bool can, .slice op np cp] 51)).heap[w.heap.size + 1]? = some (.cells #[.int .i64 P.users, .slice (some ⟨b1, f1, none⟩) P.who.length z1, .slice (some ⟨b2, f2, none⟩) P.fixed.length z2, .slice y3 P.rules.length z3, .bool can, .slice op np cp] 51 (0, 0))) := two_snd w _ _
  have hZ1 : Hid (((w.alloc (.cells #[.int .i64 0, .slice none 0 0, .slice none 0 0, .slice none 0 0, .bool false, .slice none 0 0] 51)).alloc (.cells #[.int .i64 P.users, .slice (some ⟨b1, f1, none⟩) P.who.length z1, .slice (some ⟨b2, f2, none⟩) P.fixed.length z2, .slice y3 P.rules.length z3, .bool can, .slice op np cp] 51)).heap[w.heap.size]? = some (.cells #[.int .i64 0, .slice none 0 0, .slice none 0 0, .slice none 0 0, .bool false, .slice none 0 0] 51 (0, 0))) := two_fst w _ _
  have hsz : (w.alloc (.cells #[.int .i64 0, .slice none 0 0, .slice none 0 0, .slice none 0 0, .bool false, .slice none 0 0] 51)).heap.size = w.heap.size + 1 := by
    show (w.heap.push _).size = _
    simp
  have c1' := hide' cc1
  have c2' := hide' cc2
  have hN : Hid (bits .and .u64 ((z : Int) / 2 ^ x) 1 = 1 ∧ P.fixed.length = P.who.length ∧ s < P.fixed.length ∧ s < P.who.length ∧ (x : Int) < P.users ∧ P.users ≤ 64) := ⟨hsh, hfl, hsf, hsw, hxu, gP.2.2.1⟩
  unfold ClG
  unfold enV at hlk
  clear hG ht c1 c2 cc1 cc2 hz hbit hfs gP hsh hfl hsf hsw hxu hzb
  go_enter Tryd.func19, Tryd.ntmps19
  go_upto_region 1 with fail
  generalize (w.alloc (.cells #[.int .i64 0, .slice none 0 0, .slice none 0 0, .slice none 0 0, .bool false, .slice none 0 0] 51)) = W0 at *
  go_upto_region 2 with fail
  generalize (W0.alloc (.cells #[.int .i64 P.users, .slice (some ⟨b1, f1, none⟩) P.who.length z1, .slice (some ⟨b2, f2, none⟩) P.fixed.length z2, .slice y3 P.rules.length z3, .bool can, .slice op np cp] 51)) = W1 at *
  obtain ⟨q0, q1, q2, q3, q4, q5⟩ := cells6 hX1.out
  have hV1 := hide' (hG'.out.pb.below hB1.out)
  have hs1 : w.heap.size + 1 < W1.heap.size := (Array.getElem?_eq_some_iff.1 hX1.out).1
  have KF := hide' (fixQ P _ _ _ (s : Int) (x : Int) W1 hV1.out hG'.out.ok)
  unfold pbV at KF
  clear hlk hcg
  go_wp2_with fail
  refine KF.out.mono ?_
  unfold FxQ
  rw [hY.out.p, hY.out.n, Int.toNat_natCast]
  rintro e w2 ⟨va, vb, vc, rfl, hV2, hb2, hge, hO2⟩
  have hV2' : Hid (PbV w2 (fxS P s x) va vb vc) := hV2.out
  obtain ⟨x1, t1, x2, t2, x3, t3, rfl, e2, rfl⟩ := hV2.out.shape
  rw [show (Pb.fixed ⟨P.users, P.who, P.fixed.set s (x : Int), P.rules⟩).length = P.fixed.length from List.length_set] at e2
  subst e2
  have hz2 := hb2.out.size
  have hz1 := hB1.out.size
  have hB3 : Hid (Below W1.heap.size W1 (w2.alloc (.cells #[.int .i64 P.users, .slice x1 P.who.length t1, .slice x2 P.fixed.length t2, .slice x3 P.rules.length t3] 26))) := hb2.out.alloc hb2.out.size _
  have hB3' : Hid (Below w2.heap.size w2 (w2.alloc (.cells #[.int .i64 P.users, .slice x1 P.who.length t1, .slice x2 P.fixed.length t2, .slice x3 P.rules.length t3] 26))) := (Below.refl _ w2).alloc (Nat.le_refl _) _
  have hP3 : Hid ((w2.alloc (.cells #[.int .i64 P.users, .slice x1 P.who.length t1, .slice x2 P.fixed.length t2, .slice x3 P.rules.length t3] 26)).heap[w2.heap.size]? = some (.cells #[.int .i64 P.users, .slice x1 P.who.length t1, .slice x2 P.fixed.length t2, .slice x3 P.rules.length t3] 26 (0, 0))) := heap_new w2 _
  have hge' : Hid (∀ ad n c, Value.slice x1 P.who.length t1 = .slice (some ad) n c → ad.block ≠ gs) := fun ad n c e => by
    have h1 := hge.out ad n c e
    have h2 := hG'.out.at'.lt
    omega
  clear q0 q1 q2 q3 q4 q5 KF
  show _
  dsimp only
  go_upto_region 5 with fail
  generalize (w2.alloc (.cells #[.int .i64 P.users, .slice x1 P.who.length t1, .slice x2 P.fixed.length t2, .slice x3 P.rules.length t3] 26)) = W3 at *
  have hBw : Hid (Below w.heap.size w W3) := hB1.out.trans (hB3.out.mono hz1)
  have hX3 := hide' ((hB3.out.block _ (by omega)).trans hX1.out)
  have hZ3 := hide' ((hB3.out.block _ (by omega)).trans hZ1.out)
  have hG3 := hide' (hG'.out.below hBw.out)
  have hV3 := hide' (hV2'.out.below hB3'.out)
  have KB := hide' (behindG P (fxS P s x) _ _ _ _ _ _ can op np cp gg gs a b c W3 hG3.out.pb hV3.out hG'.out.ok (fxS_ok hG'.out.ok _) hG'.out.chk (fxS_chk hG'.out.chk hN.out.2.2.2.2.1) rfl rfl hG3.out.en hG3.out.at'.cells.2 hgn hG3.out.at'.gau hGs (ht'.out.over hBw.out) hge'.out ha0 hb0 hc0)
  unfold enV pbV at KB
  have c1 := M.cell_over c1'.out hBw.out
  have c2 := M.cell_over c2'.out hBw.out
  obtain ⟨q0, q1, q2, q3, q4, q5⟩ := cells6 hX3.out
  have p0 : W3.cell? ⟨w2.heap.size, 0, none⟩ = some (.int .i64 P.users) := by simp [World.cell?, hP3.out]
  have p1 : W3.cell? ⟨w2.heap.size, 1, none⟩ = some (.slice x1 P.who.length t1) := by simp [World.cell?, hP3.out]
  have p2 : W3.cell? ⟨w2.heap.size, 2, none⟩ = some (.slice x2 P.fixed.length t2) := by simp [World.cell?, hP3.out]
  have p3 : W3.cell? ⟨w2.heap.size, 3, none⟩ = some (.slice x3 P.rules.length t3) := by simp [World.cell?, hP3.out]
  have hsI : (s : Int) < (P.fixed.length : Int) := by have := hN.out.2.2.1; omega
  have hsJ : (s : Int) < (P.who.length : Int) := by have := hN.out.2.2.2.1; omega
  have hs0 : ¬ (s : Int) < 0 := by omega
  have hx0 : ¬ (x : Int) < 0 := by omega
  have hx64 : x < 64 := by have := hN.out.2.2.2.2; omega
  have hsh := hN.out.1
  have hsz3 : Hid (w.heap.size + 1 < W3.heap.size) := (Array.getElem?_eq_some_iff.1 hX3.out).1
  clear hV2 hz1 hb2 hge hV2' hX1 hZ1 hB1 hB0 hsz
  go_upto_region 7 with fail
  go_upto_region 9 with fail
  go_upto_region 11 with fail
  clear hsI hsJ hs0 hx0 hx64 hsh c1 c2
  go_wp2_with fail
  refine KB.out.mono ?_
  rintro e w4 ⟨ov, nv, cv, can', a', b', c', rfl, g1, g2, g3, g4, g5⟩
  clear q0 q1 q2 q3 q4 q5 p0 p1 p2 p3 KB
  obtain ⟨lt1, lt2, lt3⟩ := hG'.out.at'.lt
  have hlt3 := hsz3.out
  have hZ4 := hide' ((g3.out.block _ (by omega) (by omega) (by omega)).trans hZ3.out)
  have hF4 : Hid (M.Fr2 w w4 gs gs) := (M.Fr2.below hBw.out).trans g3.out
  have hV4 := hide' (pbV_frame hV3.out hG3.out.at'.gau hge'.out g3.out)
  obtain ⟨q0, q1, q2, q3, q4, q5⟩ := cells6 hZ4.out
  have zf : ∀ i, w4.frozen? ⟨w.heap.size, i, none⟩ = false := fun i => by simp [World.frozen?, hZ4.out]
  have hw5 : Hid (Wr1 w4 ((((((w4.setCell ⟨w.heap.size, 0, none⟩ (.int .i64 P.users)).setCell ⟨w.heap.size, 1, none⟩ (.slice x1 P.who.length t1)).setCell ⟨w.heap.size, 2, none⟩ (.slice x2 P.fixed.length t2)).setCell ⟨w.heap.size, 3, none⟩ (.slice x3 P.rules.length t3)).setCell ⟨w.heap.size, 4, none⟩ (.bool can')).setCell ⟨w.heap.size, 5, none⟩ (.slice ov nv cv)) w.heap.size) := ((((((Wr1.refl _ _).set _ _).set _ _).set _ _).set _ _).set _ _).set _ _
  have hX5 : Hid (((((((w4.setCell ⟨w.heap.size, 0, none⟩ (.int .i64 P.users)).setCell ⟨w.heap.size, 1, none⟩ (.slice x1 P.who.length t1)).setCell ⟨w.heap.size, 2, none⟩ (.slice x2 P.fixed.length t2)).setCell ⟨w.heap.size, 3, none⟩ (.slice x3 P.rules.length t3)).setCell ⟨w.heap.size, 4, none⟩ (.bool can')).setCell ⟨w.heap.size, 5, none⟩ (.slice ov nv cv)).heap[w.heap.size]? = some (.cells #[.int .i64 P.users, .slice x1 P.who.length t1, .slice x2 P.fixed.length t2, .slice x3 P.rules.length t3, .bool can', .slice ov nv cv] 51 (0, 0))) := by
    show _ = _
    simpa using heap_atG (i := 5) (.slice ov nv cv) (heap_atG (i := 4) (.bool can') (heap_atG (i := 3) (.slice x3 P.rules.length t3) (heap_atG (i := 2) (.slice x2 P.fixed.length t2) (heap_atG (i := 1) (.slice x1 P.who.length t1) (heap_atG (i := 0) (.int .i64 P.users) hZ4.out)))))
  unfold enV
  show _
  dsimp only [fxS]
  clear lt1 lt2 hlt3
  go_wp2
  generalize ((((((w4.setCell ⟨w.heap.size, 0, none⟩ (.int .i64 P.users)).setCell ⟨w.heap.size, 1, none⟩ (.slice x1 P.who.length t1)).setCell ⟨w.heap.size, 2, none⟩ (.slice x2 P.fixed.length t2)).setCell ⟨w.heap.size, 3, none⟩ (.slice x3 P.rules.length t3)).setCell ⟨w.heap.size, 4, none⟩ (.bool can')).setCell ⟨w.heap.size, 5, none⟩ (.slice ov nv cv)) = W5 at *
  obtain ⟨k0, k1, k2, k3, k4, k5⟩ := cells6 hX5.out
  have hV5 : Hid (PbV W5 (fxS P s x) (.slice x1 P.who.length t1) (.slice x2 P.fixed.length t2) (.slice x3 P.rules.length t3)) := (hO2.out trivial).move fun i h1 h2 => (hw5.out.block i (by omega)).trans ((g3.out.block i (Nat.lt_of_lt_of_le h1 hB3'.out.size) (by omega) (by omega)).trans (hB3'.out.block i h1))
  have hE5 : Hid (EnS W5 (fxS P s x) can' (.slice ov nv cv)) := by
    rcases g5.out with ⟨h1, h2⟩ | h1
    · rw [h2] at g4 ⊢
      exact g4.out.keep hw5.out (hG'.out.en.2 h1)
    · refine g4.out.wr hw5.out fun ad n c e => ?_
      have := h1 ad n c e
      have := hsz3.out
      omega
  exact bodyPost_ret (v := .tuple #[.agg #[.int .i64 P.users, .slice x1 P.who.length t1, .slice x2 P.fixed.length t2, .slice x3 P.rules.length t3, .bool can', .slice ov nv cv], .int .i64 0]) (by simp [results, Tryd.results19, go_sem, k0, k1, k2, k3, k4, k5]) rfl ⟨_, _, _, ov, nv, cv, can', a', b', c', rfl, hV5, hge', hE5, g1.out.of (hw5.out.block gs (by omega)), g2, hw5.out.fr hF4.out (Nat.le_refl _)⟩
end Go.Proofs.YtnfebegmgeanhaaDoor.S
namespace Go.Proofs.YtnfebegmgeanhaaDoor.S
open Go.RowKit Go.Shelf
/-- What Try answers. -/
def TyG (w : World) (P : Pb) (k : Int) (gg gm gs a b c n : Nat) (e : Ending) (w' : World) : Prop :=
  ∃ wv fv rv pl a' b' c', e = .returned (.tuple #[.bool true, .int .i64 0]) ∧ Hid (GtE w' gg gm gs a' b' c' (n + 1) k P wv fv rv true pl) ∧ Hid (GcB P 2 a b c a' b' c') ∧ Hid (M.Fr2 w w' gs gm)
set_option maxRecDepth 100000 in
set_option maxHeartbeats 4000000 in
theorem tryG (P0 : Pb) (wv fv rv pl : Value) (can : Bool) (k : Int) (s x gg gm gs a b c n : Nat) (l : List Int) (w : World) (hkey : (Lit.int .i64 k).wf = true) (hG : GtE w gg gm gs a b c n k P0 wv fv rv can pl) (hn : n < maxLen) (hgn : gg ≠ gs) (hGs : 1 ≤ gs) (ht : M.Tab w) (ha0 : a ≤ 1152921504606846976) (hb0 : b ≤ 1152921504606846976) (hc0 : c ≤ 1152921504606846976)
    (hl : holP P0 l = true) (hls : l[s]? = some (x : Int)) (hfs : P0.fixed[s]? = some (-1)) :
    Calls Tryd.prog 9 #[.pointer (some ⟨gg, 0, none⟩), .int .i64 k, .int .i64 (s : Int), .int .i64 (x : Int)] w (TyG w (fxS P0 s x) k gg gm gs a b c n) := by
  have hb := hol_bit hl hls hfs
  have hcan : Hid (canB (fxS P0 s x) = true) := (canB_iff _).2 ⟨l, fxS_holds hl hls⟩
  have hC := hide' (fxS_chk (s := s) hG.chk hb.2)
  have hK := hide' (fxS_ok (s := s) hG.ok (x : Int))
  have KL := hide' (claimG P0 wv fv rv pl can k s x gg gm gs a b c n w hkey hG hgn hGs ht ha0 hb0 hc0 hfs hb.1 hb.2)
  have hG' := hide' hG
  generalize fxS P0 s x = P at *
  unfold TyG
  clear hG ht hb hl hls hfs
  go_enter Tryd.func9, Tryd.ntmps9
  go_wp2_with fail
  refine KL.out.mono ?_
  rintro e w1 ⟨va, vb, vc, ov, nv, cv, can', a', b', c', rfl, hV, hne, hE, hg, hgc, hF⟩
  obtain ⟨y1, z1, y2, z2, y3, z3, rfl, rfl, rfl⟩ := hV.out.shape
  obtain rfl : can' = true := by rw [hE.out.1, hcan.out]
  have hA1 := hide' (hG'.out.at'.frame hgn hF.out hg.out)
  have hB2 : Hid (Below w1.heap.size w1 (w1.alloc (.cells #[.int .i64 P.users, .slice y1 P.who.length z1, .slice y2 P.fixed.length z2, .slice y3 P.rules.length z3, .bool true, .slice ov nv cv] 51)).drew) := ((Below.refl _ w1).alloc (Nat.le_refl _) _).drew
  have hX2 : Hid ((w1.alloc (.cells #[.int .i64 P.users, .slice y1 P.who.length z1, .slice y2 P.fixed.length z2, .slice y3 P.rules.length z3, .bool true, .slice ov nv cv] 51)).drew.heap[w1.heap.size]? = some (.cells #[.int .i64 P.users, .slice y1 P.who.length z1, .slice y2 P.fixed.length z2, .slice y3 P.rules.length z3, .bool true, .slice ov nv cv] 51 (0, 0))) := heap_new w1 _
  have hX2' : Hid ((w1.alloc (.cells #[.int .i64 P.users, .slice y1 P.who.length z1, .slice y2 P.fixed.length z2, .slice y3 P.rules.length z3, .bool true, .slice ov nv cv] 51)).heap[w1.heap.size]? = some (.cells #[.int .i64 P.users, .slice y1 P.who.length z1, .slice y2 P.fixed.length z2, .slice y3 P.rules.length z3, .bool true, .slice ov nv cv] 51 (0, 0))) := heap_new w1 _
  unfold enV
  clear KL
  go_upto_region 2 with fail
  generalize (w1.alloc (.cells #[.int .i64 P.users, .slice y1 P.who.length z1, .slice y2 P.fixed.length z2, .slice y3 P.rules.length z3, .bool true, .slice ov nv cv] 51)) = W2 at *
  obtain ⟨_, _, _, _, r4, _⟩ := cells6 hX2'.out
  go_upto_region 3 with fail
  clear r4
  obtain ⟨q0, q1, q2, q3, q4, q5⟩ := cells6 hX2.out
  have hA2 := hide' (hA1.out.below hB2.out)
  have qg := hA2.out.cells.1
  obtain ⟨w6, hst, hA6, hC6, hF6⟩ := hA2.out.put (.inr ⟨_, rfl⟩) hn hkey (.agg #[.int .i64 P.users, .slice y1 P.who.length z1, .slice y2 P.fixed.length z2, .slice y3 P.rules.length z3, .bool true, .slice ov nv cv])
  have r4 := hC6.out _ _ _ q4
  have hF' : Hid (M.Fr2 w w6 gs gm) := ((fr_wide hF.out).trans (M.Fr2.below hB2.out)).trans hF6.out
  have hE' : Hid (GtE w6 gg gm gs a' b' c' (n + 1) k P (.slice y1 P.who.length z1) (.slice y2 P.fixed.length z2) (.slice y3 P.rules.length z3) true (.slice ov nv cv)) := ⟨hA6.out, (hV.out.below hB2.out).cls hC6.out, (hE.out.below hB2.out).cls hC6.out, hK.out, hC.out, hne.out, ⟨_, _, _, rfl⟩⟩
  clear hA2 hA6 hC6 hF6 hX2 hX2' hB2 hA1 hV hE hF hne hG' hcan
  go_region
  go_wp2
  exact bodyPost_ret (v := .tuple #[.bool true, .int .i64 0]) (by simp [results, Tryd.results9, go_sem]) rfl ⟨_, _, _, _, a', b', c', rfl, hE', hgc, hF'⟩
end Go.Proofs.YtnfebegmgeanhaaDoor.S
namespace Go.Proofs.YtnfebegmgeanhaaDoor.S
open Go.RowKit Go.Shelf
set_option maxRecDepth 100000 in
set_option maxHeartbeats 4000000 in
theorem askN (P0 : Pb) (wv fv rv pl : Value) (can : Bool) (k : Int) (s x gg gm gs a b c n : Nat) (w : World) (hkey : (Lit.int .i64 k).wf = true) (hG : GtE w gg gm gs a b c n k P0 wv fv rv can pl) (hgn : gg ≠ gs) (hGs : 1 ≤ gs) (ht : M.Tab w) (ha0 : a ≤ 1152921504606846976) (hb0 : b ≤ 1152921504606846976) (hc0 : c ≤ 1152921504606846976)
    (hfs : P0.fixed[s]? = some (-1)) (hb : (P0.who.getD s 0).testBit x = true) (hx : (x : Int) < P0.users) (hcan : canB (fxS P0 s x) = false) :
    Calls Tryd.prog 14 #[.pointer (some ⟨gg, 0, none⟩), .int .i64 k, .int .i64 (s : Int), .int .i64 (x : Int)] w fun e w' => e = .returned (.tuple #[.bool false, .int .i64 0]) ∧ Hid (M.Fr2 w w' gs gs) := by
  have hcan' := hide' hcan
  have KL := hide' (claimG P0 wv fv rv pl can k s x gg gm gs a b c n w hkey hG hgn hGs ht ha0 hb0 hc0 hfs hb hx)
  generalize fxS P0 s x = P at *
  clear hG ht hfs hb hx hcan
  go_enter Tryd.func14, Tryd.ntmps14
  go_wp2_with fail
  refine KL.out.mono ?_
  rintro e w1 ⟨va, vb, vc, ov, nv, cv, can', a', b', c', rfl, hV, hne, hE, hg, hgc, hF⟩
  obtain ⟨y1, z1, y2, z2, y3, z3, rfl, rfl, rfl⟩ := hV.out.shape
  obtain rfl : can' = false := by rw [hE.out.1, hcan'.out]
  have hB2 : Hid (Below w1.heap.size w1 (w1.alloc (.cells #[.int .i64 P.users, .slice y1 P.who.length z1, .slice y2 P.fixed.length z2, .slice y3 P.rules.length z3, .bool false, .slice ov nv cv] 51))) := (Below.refl _ w1).alloc (Nat.le_refl _) _
  have hX2' : Hid ((w1.alloc (.cells #[.int .i64 P.users, .slice y1 P.who.length z1, .slice y2 P.fixed.length z2, .slice y3 P.rules.length z3, .bool false, .slice ov nv cv] 51)).heap[w1.heap.size]? = some (.cells #[.int .i64 P.users, .slice y1 P.who.length z1, .slice y2 P.fixed.length z2, .slice y3 P.rules.length z3, .bool false, .slice ov nv cv] 51 (0, 0))) := heap_new w1 _
  unfold enV
  clear KL
  go_upto_region 2 with fail
  generalize (w1.alloc (.cells #[.int .i64 P.users, .slice y1 P.who.length z1, .slice y2 P.fixed.length z2, .slice y3 P.rules.length z3, .bool false, .slice ov nv cv] 51)) = W2 at *
  obtain ⟨_, _, _, _, r4, _⟩ := cells6 hX2'.out
  go_wp2
  exact bodyPost_ret (v := .tuple #[.bool false, .int .i64 0]) (by simp [results, Tryd.results14, go_sem]) rfl ⟨rfl, hF.out.trans (M.Fr2.below hB2.out)⟩
end Go.Proofs.YtnfebegmgeanhaaDoor.S
namespace Go.Proofs.YtnfebegmgeanhaaDoor.S
open Go.RowKit Go.Shelf
/-- What Open answers. -/
def OpP (w : World) (P : Pb) (k : Int) (gg gm gs a b c n : Nat) (e : Ending) (w' : World) : Prop :=
  (chkN P ≠ 0 ∧ e = .returned (.tuple #[.bool false, .int .i64 (chkN P : Int)]) ∧ Hid (Below w.heap.size w w')) ∨
  ∃ can pl wv fv rv a' b' c', e = .returned (.tuple #[.bool can, .int .i64 0]) ∧ Hid (GtE w' gg gm gs a' b' c' (n + 1) k P wv fv rv can pl) ∧ Hid (GcB P 2 a b c a' b' c') ∧ Hid (M.Fr2 w w' gs gm)
set_option maxRecDepth 100000 in
set_option maxHeartbeats 4000000 in
theorem openG (P : Pb) (wv fv rv : Value) (k : Int) (gg gm gs a b c n : Nat) (w : World) (h : PbV w P wv fv rv) (hk : Pok P) (hkey : (Lit.int .i64 k).wf = true) (hG : GtA w gg gm gs a b c n none) (hn : n < maxLen) (hgn : gg ≠ gs) (hGs : 1 ≤ gs) (ht : M.Tab w) (ha0 : a ≤ 1152921504606846976) (hb0 : b ≤ 1152921504606846976) (hc0 : c ≤ 1152921504606846976) :
    Calls Tryd.prog 7 #[.pointer (some ⟨gg, 0, none⟩), .int .i64 k, pbV P wv fv rv] w (OpP w P k gg gm gs a b c n) := by
  have KC : Hid (∀ V, PbV V P wv fv rv → Calls Tryd.prog 15 #[pbV P wv fv rv] V fun e w' => e = .returned (.int .i64 (chkN P : Int)) ∧ Below V.heap.size V w') := fun V hV => checkPF P wv fv rv V hV hk.w hk.f hk.r hk.s hk.b
  have h' := hide' h
  have hG' := hide' hG
  have hk' := hide' hk
  have ht' := hide' ht
  have hl0 := hG.bx
  obtain ⟨ow, cw, of, cf, or, cr, rfl, rfl, rfl⟩ := h.shape
  have hB0 : Hid (Below w.heap.size w (w.alloc (.cells #[.int .i64 P.users, .slice ow P.who.length cw, .slice of P.fixed.length cf, .slice or P.rules.length cr] 26))) := (Below.refl _ w).alloc (Nat.le_refl _) _
  have hP0 : Hid (PbB (w.alloc (.cells #[.int .i64 P.users, .slice ow P.who.length cw, .slice of P.fixed.length cf, .slice or P.rules.length cr] 26)) w.heap.size P (.slice ow P.who.length cw) (.slice of P.fixed.length cf) (.slice or P.rules.length cr)) := heap_new w _
  have hsz : Hid ((w.alloc (.cells #[.int .i64 P.users, .slice ow P.who.length cw, .slice of P.fixed.length cf, .slice or P.rules.length cr] 26)).heap.size = w.heap.size + 1) := by
    show (w.heap.push _).size = _
    simp
  have hlk := (hG.below hB0.out).mp.look0 hkey
  have hc0' := (hG.below hB0.out).cells.1
  unfold OpP
  unfold pbV at KC ⊢
  clear h hk hG ht hl0
  unfold zEn at hlk
  go_enter Tryd.func7, Tryd.ntmps7
  go_upto_region 1 with fail
  generalize (w.alloc (.cells #[.int .i64 P.users, .slice ow P.who.length cw, .slice of P.fixed.length cf, .slice or P.rules.length cr] 26)) = W0 at *
  have hB1 : Hid (Below w.heap.size w (W0.alloc (.cells #[.int .i64 0, .slice none 0 0, .slice none 0 0, .slice none 0 0, .bool false, .slice none 0 0] 51))) := hB0.out.alloc hB0.out.size _
  have hP1 : Hid (PbB (W0.alloc (.cells #[.int .i64 0, .slice none 0 0, .slice none 0 0, .slice none 0 0, .bool false, .slice none 0 0] 51)) w.heap.size P (.slice ow P.who.length cw) (.slice of P.fixed.length cf) (.slice or P.rules.length cr)) := PbB.below hP0.out ((Below.refl _ _).alloc (Nat.le_refl _) _)
  have hsz1 : Hid ((W0.alloc (.cells #[.int .i64 0, .slice none 0 0, .slice none 0 0, .slice none 0 0, .bool false, .slice none 0 0] 51)).heap.size = w.heap.size + 2) := by
    have := hsz.out
    show (W0.heap.push _).size = _
    simp; omega
  go_upto_region 4 with fail
  generalize (W0.alloc (.cells #[.int .i64 0, .slice none 0 0, .slice none 0 0, .slice none 0 0, .bool false, .slice none 0 0] 51)) = W1 at *
  have p0 := hP1.out.c0
  have p1 := hP1.out.c1
  have p2 := hP1.out.c2
  have p3 := hP1.out.c3
  clear hlk hc0' hP0
  generalize W0.heap.size = g8 at *
  go_wp2_with fail
  refine (KC.out W1 (h'.out.below hB1.out)).mono ?_
  rintro e w2 ⟨rfl, hb2⟩
  have hz2 := hb2.size
  have hsz1' := hsz1.out
  have hB2 := hide' (hB1.out.trans (hb2.mono (by omega)))
  have hP2 := hide' (PbB.below hP1.out hb2)
  clear p0 p1 p2 p3 KC hP1 hB1 hB0
  have p0 := hP2.out.c0
  have p1 := hP2.out.c1
  have p2 := hP2.out.c2
  have p3 := hP2.out.c3
  by_cases hc : chkN P = 0
  · rw [hc]
    have KP := hide' (copyG P (.slice ow P.who.length cw) (.slice of P.fixed.length cf) (.slice or P.rules.length cr) w2 (h'.out.below hB2.out) hk'.out)
    unfold pbV at KP
    go_wp2_with fail
    refine KP.out.mono ?_
    rintro e w3 ⟨x1, x2, x3, E, rfl, hE, o1, o2, o3, hb3⟩
    have hz3 := hb3.size
    have hB3 := hide' (hB2.out.trans (hb3.mono (by omega)))
    have hA3 := hide' (hG'.out.below hB3.out)
    have hV3 : Hid (PbV w3 P x1 x2 x3) := ⟨RowW.of_owns o1, RowI.of_owns o2, by rw [← hE]; exact o3.rowR⟩
    have hgl := hG'.out.gau.lt
    have hne : Hid (∀ ad n c, x1 = .slice (some ad) n c → ad.block ≠ gs) := fun ad n c e => by
      have := own_ge' o1 (g := ad.block) (by rw [e]; rfl)
      omega
    have KS := hide' (searchG P x1 x2 x3 gg gs a b c w3 hV3.out hk'.out hA3.out.cells.2 hgn hA3.out.gau hGs (ht'.out.over hB3.out) hne.out ha0 hb0 hc0)
    obtain ⟨y1, z1, y2, z2, y3, z3, rfl, rfl, rfl⟩ := hV3.out.shape
    clear p0 p1 p2 p3 KP o1 o2 o3 hE
    unfold pbV at KS ⊢
    go_wp2_with fail
    refine KS.out.mono ?_
    rintro e w4 ⟨ov, nv, cv, can, a', b', c', rfl, g1, g2, g3, g4⟩
    have hE4 : Hid (EnS w4 P can (.slice ov nv cv)) := sg_ens g4.out
    have hV4 := hide' (pbV_frame hV3.out hA3.out.gau hne.out g3.out)
    have hA4 := hide' (hA3.out.frame hgn g3.out g1.out)
    have hF4 : Hid (M.Fr2 w w4 gs gs) := (M.Fr2.below hB3.out).trans g3.out
    clear KS g4 hV3 hA3 hB3 g3 hB2 hP2
    unfold enV
    have hB5 : Hid (Below w4.heap.size w4 (w4.alloc (.cells #[.int .i64 P.users, .slice y1 P.who.length z1, .slice y2 P.fixed.length z2, .slice y3 P.rules.length z3, .bool can, .slice ov nv cv] 51)).drew) := ((Below.refl _ w4).alloc (Nat.le_refl _) _).drew
    have hX5 : Hid ((w4.alloc (.cells #[.int .i64 P.users, .slice y1 P.who.length z1, .slice y2 P.fixed.length z2, .slice y3 P.rules.length z3, .bool can, .slice ov nv cv] 51)).drew.heap[w4.heap.size]? = some (.cells #[.int .i64 P.users, .slice y1 P.who.length z1, .slice y2 P.fixed.length z2, .slice y3 P.rules.length z3, .bool can, .slice ov nv cv] 51 (0, 0))) := heap_new w4 _
    go_upto_region 8 with fail
    generalize (w4.alloc (.cells #[.int .i64 P.users, .slice y1 P.who.length z1, .slice y2 P.fixed.length z2, .slice y3 P.rules.length z3, .bool can, .slice ov nv cv] 51)) = W5 at *
    obtain ⟨q0, q1, q2, q3, q4, q5⟩ := cells6 hX5.out
    have hA5 := hide' (hA4.out.below hB5.out)
    have qg := hA5.out.cells.1
    obtain ⟨w6, hst, hA6, hC6, hF6⟩ := hA5.out.put (.inl rfl) hn hkey (.agg #[.int .i64 P.users, .slice y1 P.who.length z1, .slice y2 P.fixed.length z2, .slice y3 P.rules.length z3, .bool can, .slice ov nv cv])
    have r4 := hC6.out _ _ _ q4
    have hF : Hid (M.Fr2 w w6 gs gm) := ((fr_wide hF4.out).trans (M.Fr2.below hB5.out)).trans hF6.out
    have hE : Hid (GtE w6 gg gm gs a' b' c' (n + 1) k P (.slice y1 P.who.length z1) (.slice y2 P.fixed.length z2) (.slice y3 P.rules.length z3) can (.slice ov nv cv)) := ⟨hA6.out, (hV4.out.below hB5.out).cls hC6.out, (hE4.out.below hB5.out).cls hC6.out, hk'.out, hc, hne.out, ⟨_, _, _, rfl⟩⟩
    clear hA5 hA6 hC6 hF6 hX5 hB5 hA4 hV4 hE4 hF4 hne
    go_region
    go_wp2
    exact bodyPost_ret (v := .tuple #[.bool can, .int .i64 0]) (by simp [results, Tryd.results7, go_sem]) rfl (.inr ⟨can, _, _, _, _, a', b', c', rfl, hE, g2, hF⟩)
  · have hb : ((chkN P : Int) != 0) = true := by rw [bne_iff_ne]; omega
    go_wp2
    exact bodyPost_ret (v := .tuple #[.bool false, .int .i64 (chkN P : Int)]) (by simp [results, Tryd.results7, go_sem]) rfl (.inl ⟨hc, rfl, hB2⟩)
end Go.Proofs.YtnfebegmgeanhaaDoor.S
namespace Go.Proofs.YtnfebegmgeanhaaDoor.S
open Go.RowKit Go.Shelf
theorem wk_mem4 (V : World) : ∃ W, W = ((((V.alloc (.cells #[.int .u64 3, .int .u64 3, .int .u64 4] 42)).alloc (.cells #[.int .i64 (-1), .int .i64 (-1), .int .i64 (-1)] 3)).alloc (.cells #[.int .i64 0, .int .i64 1] 3)).alloc (.cells #[.int .i64 1, .int .i64 0, .slice (some ⟨V.heap.size + 1 + 1, 0, none⟩) 2 2] 44)) ∧
    PbV W wkP (.slice (some ⟨V.heap.size, 0, none⟩) 3 3) (.slice (some ⟨V.heap.size + 1, 0, none⟩) 3 3) (.slice (some ⟨V.heap.size + 1 + 1 + 1, 0, none⟩) 1 1) ∧ Below V.heap.size V W := by
  obtain ⟨z1, n1, k1, b1⟩ := alloc_stH V (.cells #[.int .u64 3, .int .u64 3, .int .u64 4] 42) _ rfl
  obtain ⟨z2, n2, k2, b2⟩ := alloc_stH _ (.cells #[.int .i64 (-1), .int .i64 (-1), .int .i64 (-1)] 3) _ z1
  obtain ⟨z3, n3, k3, b3⟩ := alloc_stH _ (.cells #[.int .i64 0, .int .i64 1] 3) _ z2
  obtain ⟨z4, n4, k4, b4⟩ := alloc_stH _ (.cells #[.int .i64 1, .int .i64 0, .slice (some ⟨V.heap.size + 1 + 1, 0, none⟩) 2 2] 44) _ z3
  refine ⟨_, rfl, ?_, ((b1.trans (b2.mono (by omega))).trans (b3.mono (by omega))).trans (b4.mono (by omega))⟩
  have m1 := k4 _ _ (k3 _ _ (k2 _ _ n1))
  have m2 := k4 _ _ (k3 _ _ n2)
  have m3 := k4 _ _ n3
  have m4 := n4
  generalize ((((V.alloc (.cells #[.int .u64 3, .int .u64 3, .int .u64 4] 42)).alloc (.cells #[.int .i64 (-1), .int .i64 (-1), .int .i64 (-1)] 3)).alloc (.cells #[.int .i64 0, .int .i64 1] 3)).alloc (.cells #[.int .i64 1, .int .i64 0, .slice (some ⟨V.heap.size + 1 + 1, 0, none⟩) 2 2] 44)) = W at *
  refine ⟨⟨_, _, rfl, ⟨Nat.le_refl _, fun e => by cases e⟩, fun i z hz => ⟨_, _, rfl, ?_⟩⟩, ⟨_, _, rfl, ⟨Nat.le_refl _, fun e => by cases e⟩, fun i z hz => ⟨_, _, rfl, ?_⟩⟩, ⟨_, _, rfl, ⟨Nat.le_refl _, fun e => by cases e⟩, fun i r hr => ?_⟩⟩
  · match i, hz with
    | 0, hz => cases hz; simp [World.cell?, m1]
    | 1, hz => cases hz; simp [World.cell?, m1]
    | 2, hz => cases hz; simp [World.cell?, m1]
    | i + 3, hz => simp [wkP] at hz
  · match i, hz with
    | 0, hz => cases hz; simp [World.cell?, m2]
    | 1, hz => cases hz; simp [World.cell?, m2]
    | 2, hz => cases hz; simp [World.cell?, m2]
    | i + 3, hz => simp [wkP] at hz
  · match i, hr with
    | 0, hr =>
      cases hr
      refine ⟨_, _, .slice (some ⟨V.heap.size + 1 + 1, 0, none⟩) 2 2, rfl, by simp [World.cell?, m4, wkR], by simp [World.cell?, m4, wkR], by simp [World.cell?, m4], ⟨_, _, rfl, ⟨Nat.le_refl _, fun e => by cases e⟩, fun j z hz => ⟨_, _, rfl, ?_⟩⟩⟩
      match j, hz with
      | 0, hz => cases hz; simp [World.cell?, m3]
      | 1, hz => cases hz; simp [World.cell?, m3]
      | j + 2, hz => simp [wkR] at hz
    | i + 1, hr => simp [wkP] at hr
theorem wk_chk : chkN wkP = 0 := by decide +kernel
theorem wk_dead : canB (fxS (fxS wkP 0 ((0 : Nat) : Int)) 1 ((0 : Nat) : Int)) = false := by
  cases e : canB (fxS (fxS wkP 0 ((0 : Nat) : Int)) 1 ((0 : Nat) : Int)) with
  | false => rfl
  | true =>
    exfalso
    obtain ⟨l, hl⟩ := (canB_iff _).1 e
    obtain ⟨_, h2, h3, _⟩ := holP_of hl
    have h2 : l.length = 3 := h2
    have hu : ∀ {t : Nat} {x : Int}, okU (fxS (fxS wkP 0 ((0 : Nat) : Int)) 1 ((0 : Nat) : Int)) t x = true → x = 0 ∨ x = 1 ∨ x = 2 := fun {t x} h => by
      unfold okU isU at h
      simp only [Bool.and_eq_true, decide_eq_true_eq] at h
      have h1 : x < 3 := h.1.2
      omega
    match l, h2, hl, h3 with
    | [a, b, c], _, hl, h3 =>
      rcases hu (h3 0 a rfl) with rfl | rfl | rfl <;> rcases hu (h3 1 b rfl) with rfl | rfl | rfl <;> rcases hu (h3 2 c rfl) with rfl | rfl | rfl <;> (revert hl; decide +kernel)
set_option maxRecDepth 100000 in
set_option maxHeartbeats 4000000 in
theorem wakesG (w : World) (ht : M.Tab w) : Calls Tryd.prog 6 #[] w fun e w' => e = .returned (.bool true) ∧ Below w.heap.size w w' := by
  have KN := hide' (newG w)
  have ht' := hide' ht
  have hGs := ht.2
  clear ht
  go_enter Tryd.func6, Tryd.ntmps6
  go_wp2_with fail
  refine KN.out.mono ?_
  rintro e w1 ⟨gg, gm, gs, rfl, hA1, hne, hb1⟩
  obtain ⟨W, hW, hP, hbW⟩ := wk_mem4 w1
  have hW' := hide' hW
  have hz1 := hb1.out.size
  have hAW := hide' (hA1.out.below hbW)
  have hbw : Hid (Below w.heap.size w W) := hb1.out.trans (hbW.mono hb1.out.size)
  have htW := hide' (ht'.out.over hbw.out)
  have hGs' : 1 ≤ gs := by have := hne.out; omega
  have KO : Hid (Calls Tryd.prog 7 #[.pointer (some ⟨gg, 0, none⟩), .int .i64 1, .agg #[.int .i64 3, .slice (some ⟨w1.heap.size, 0, none⟩) 3 3, .slice (some ⟨w1.heap.size + 1, 0, none⟩) 3 3, .slice (some ⟨w1.heap.size + 1 + 1 + 1, 0, none⟩) 1 1]] W (OpP W wkP 1 gg gm gs 0 0 0 0)) := openG wkP _ _ _ 1 gg gm gs 0 0 0 0 W hP wk_ok (by decide) hAW.out (by decide) hne.out.2.2.2 hGs' htW.out (by decide) (by decide) (by decide)
  clear KN hA1 hb1 ht' hP hbW hW hAW
  go_wp2_with fail
  rw [← hW'.out]
  refine KO.out.mono ?_
  rintro e w2 (⟨h, _⟩ | ⟨can, pl, wv, fv, rv, a, b, c, rfl, hE2, hg2, hF2⟩)
  · exact absurd wk_chk h
  obtain rfl : can = true := by rw [hE2.out.en.1, wk_can]
  have hl2 := hg2.out.le (by decide)
  have ht2 := hide' (htW.out.fr2 hF2.out hGs' (by have := hne.out; omega))
  have hb2 : Hid (Below w.heap.size w w2) := hF2.out.new hbw.out (by have := hne.out; omega) (by have := hne.out; omega) hbw.out.size
  have KT : Hid (Calls Tryd.prog 9 #[.pointer (some ⟨gg, 0, none⟩), .int .i64 1, .int .i64 0, .int .i64 0] w2 (TyG w2 (fxS wkP 0 ((0 : Nat) : Int)) 1 gg gm gs a b c (0 + 1))) := tryG wkP wv fv rv pl true 1 0 0 gg gm gs a b c _ [0, 1, 2] w2 (by decide) hE2.out (by decide) hne.out.2.2.2 hGs' ht2.out (by omega) (by omega) (by omega) wk_holds rfl rfl
  clear KO hE2 hg2 hF2 hW' htW
  go_wp2_with fail
  refine KT.out.mono ?_
  rintro e w3 ⟨wv3, fv3, rv3, pl3, a3, b3, c3, rfl, hE3, hg3, hF3⟩
  have hl3 := hg3.out.le (by decide)
  have ht3 := hide' (ht2.out.fr2 hF3.out hGs' (by have := hne.out; omega))
  have hb3 : Hid (Below w.heap.size w w3) := hF3.out.new hb2.out (by have := hne.out; omega) (by have := hne.out; omega) hb2.out.size
  have KA : Hid (Calls Tryd.prog 14 #[.pointer (some ⟨gg, 0, none⟩), .int .i64 1, .int .i64 1, .int .i64 0] w3 fun e w' => e = .returned (.tuple #[.bool false, .int .i64 0]) ∧ Hid (M.Fr2 w3 w' gs gs)) := askN (fxS wkP 0 ((0 : Nat) : Int)) wv3 fv3 rv3 pl3 true 1 1 0 gg gm gs a3 b3 c3 _ w3 (by decide) hE3.out hne.out.2.2.2 hGs' ht3.out (by omega) (by omega) (by omega) rfl (by decide) (by decide) wk_dead
  clear KT hE3 hg3 hF3 ht2 hb2 hl2 hl3 ht3
  go_wp2_with fail
  refine KA.out.mono ?_
  rintro e w4 ⟨rfl, hF4⟩
  have hb4 : Hid (Below w.heap.size w w4) := hF4.out.new hb3.out (by have := hne.out; omega) (by have := hne.out; omega) hb3.out.size
  clear KA hF4 hb3
  go_wp2
  go_ret
  exact ⟨rfl, hb4.out⟩
end Go.Proofs.YtnfebegmgeanhaaDoor.S
namespace Go.Proofs.YtnfebegmgeanhaaDoor.S
open Go.RowKit Go.Shelf
/-- What Plan answers. -/
def PlG (w : World) (P : Pb) (k : Int) (gg gm gs a b c n : Nat) (wv fv rv : Value) (e : Ending) (w' : World) : Prop :=
  ∃ v l pl a' b' c', e = .returned (.tuple #[v, .int .i64 0]) ∧ Hid (LsP P (some l)) ∧ Hid (w'.ownsRow w.heap.size 3 1 v l.length (cellsI l)) ∧ Hid (GtE w' gg gm gs a' b' c' (n + 1) k P wv fv rv true pl) ∧ Hid (GcB P 2 a b c a' b' c') ∧ Hid (M.Fr2 w w' gs gm)
set_option maxRecDepth 100000 in
set_option maxHeartbeats 4000000 in
theorem planG (P : Pb) (wv fv rv pl : Value) (k : Int) (gg gm gs a b c n : Nat) (w : World) (hkey : (Lit.int .i64 k).wf = true) (hG : GtE w gg gm gs a b c n k P wv fv rv true pl) (hn : n < maxLen) (hgn : gg ≠ gs) (hGs : 1 ≤ gs) (ht : M.Tab w) (ha0 : a ≤ 1152921504606846976) (hb0 : b ≤ 1152921504606846976) (hc0 : c ≤ 1152921504606846976) :
    Calls Tryd.prog 8 #[.pointer (some ⟨gg, 0, none⟩), .int .i64 k] w (PlG w P k gg gm gs a b c n wv fv rv) := by
  obtain ⟨op, np, cp, rfl⟩ := hG.shp
  obtain ⟨y1, z1, y2, z2, y3, z3, rfl, rfl, rfl⟩ := hG.pb.shape
  have hG' := hide' hG
  have ht' := hide' ht
  have hlk := hG.at'.mp.look1 hkey
  have hcg := hG.at'.cells.1
  have hB1 : Hid (Below w.heap.size w (w.alloc (.cells #[.int .i64 P.users, .slice y1 P.who.length z1, .slice y2 P.fixed.length z2, .slice y3 P.rules.length z3, .bool true, .slice op np cp] 51))) := (Below.refl _ w).alloc (Nat.le_refl _) _
  have hX1 : Hid ((w.alloc (.cells #[.int .i64 P.users, .slice y1 P.who.length z1, .slice y2 P.fixed.length z2, .slice y3 P.rules.length z3, .bool true, .slice op np cp] 51)).heap[w.heap.size]? = some (.cells #[.int .i64 P.users, .slice y1 P.who.length z1, .slice y2 P.fixed.length z2, .slice y3 P.rules.length z3, .bool true, .slice op np cp] 51 (0, 0))) := heap_new w _
  unfold PlG
  unfold enV at hlk
  clear hG ht
  go_enter Tryd.func8, Tryd.ntmps8
  go_upto_region 2 with fail
  generalize (w.alloc (.cells #[.int .i64 P.users, .slice y1 P.who.length z1, .slice y2 P.fixed.length z2, .slice y3 P.rules.length z3, .bool true, .slice op np cp] 51)) = W1 at *
  obtain ⟨q0, q1, q2, q3, q4, q5⟩ := cells6 hX1.out
  have hA1 := hide' (hG'.out.at'.below hB1.out)
  have hV1 := hide' (hG'.out.pb.below hB1.out)
  have hs1 : w.heap.size < W1.heap.size := (Array.getElem?_eq_some_iff.1 hX1.out).1
  have KS := hide' (searchG P _ _ _ gg gs a b c W1 hV1.out hG'.out.ok hA1.out.cells.2 hgn hA1.out.gau hGs (ht'.out.over hB1.out) hG'.out.ne ha0 hb0 hc0)
  unfold pbV at KS
  clear hlk hcg
  go_wp2_with fail
  refine KS.out.mono ?_
  rintro e w4 ⟨ov, nv, cv, can, a', b', c', rfl, g1, g2, g3, g4⟩
  obtain ⟨l, rfl, hl, hO4⟩ : ∃ l, can = true ∧ LsP P (some l) ∧ w4.ownsRow W1.heap.size 3 1 (.slice ov nv cv) l.length (cellsI l) := by
    rcases g4.out with ⟨_, _, q⟩ | q
    · have h1 := hG'.out.en.1
      rw [canB_ls q] at h1
      cases h1
    · exact q
  obtain ⟨lt1, lt2, lt3⟩ := hG'.out.at'.lt
  have hX4 := hide' ((g3.out.block _ hs1 (by omega) (by omega)).trans hX1.out)
  have hA4 := hide' (hA1.out.frame hgn g3.out g1.out)
  have hF4 : Hid (M.Fr2 w w4 gs gs) := (M.Fr2.below hB1.out).trans g3.out
  clear q0 q1 q2 q3 q4 q5 KS hV1 hA1 g3 g4
  obtain ⟨q0, q1, q2, q3, q4, q5⟩ := cells6 hX4.out
  have zf : ∀ i, w4.frozen? ⟨w.heap.size, i, none⟩ = false := fun i => by simp [World.frozen?, hX4.out]
  have hw5 : Hid (Wr1 w4 ((((((w4.setCell ⟨w.heap.size, 0, none⟩ (.int .i64 P.users)).setCell ⟨w.heap.size, 1, none⟩ (.slice y1 P.who.length z1)).setCell ⟨w.heap.size, 2, none⟩ (.slice y2 P.fixed.length z2)).setCell ⟨w.heap.size, 3, none⟩ (.slice y3 P.rules.length z3)).setCell ⟨w.heap.size, 4, none⟩ (.bool true)).setCell ⟨w.heap.size, 5, none⟩ (.slice ov nv cv)) w.heap.size) := ((((((Wr1.refl _ _).set _ _).set _ _).set _ _).set _ _).set _ _).set _ _
  have hX5 : Hid (((((((w4.setCell ⟨w.heap.size, 0, none⟩ (.int .i64 P.users)).setCell ⟨w.heap.size, 1, none⟩ (.slice y1 P.who.length z1)).setCell ⟨w.heap.size, 2, none⟩ (.slice y2 P.fixed.length z2)).setCell ⟨w.heap.size, 3, none⟩ (.slice y3 P.rules.length z3)).setCell ⟨w.heap.size, 4, none⟩ (.bool true)).setCell ⟨w.heap.size, 5, none⟩ (.slice ov nv cv)).heap[w.heap.size]? = some (.cells #[.int .i64 P.users, .slice y1 P.who.length z1, .slice y2 P.fixed.length z2, .slice y3 P.rules.length z3, .bool true, .slice ov nv cv] 51 (0, 0))) := by
    show _ = _
    simpa using heap_atG (i := 5) (.slice ov nv cv) (heap_atG (i := 4) (.bool true) (heap_atG (i := 3) (.slice y3 P.rules.length z3) (heap_atG (i := 2) (.slice y2 P.fixed.length z2) (heap_atG (i := 1) (.slice y1 P.who.length z1) (heap_atG (i := 0) (.int .i64 P.users) hX4.out)))))
  unfold enV
  go_upto_region 7 with fail
  generalize ((((((w4.setCell ⟨w.heap.size, 0, none⟩ (.int .i64 P.users)).setCell ⟨w.heap.size, 1, none⟩ (.slice y1 P.who.length z1)).setCell ⟨w.heap.size, 2, none⟩ (.slice y2 P.fixed.length z2)).setCell ⟨w.heap.size, 3, none⟩ (.slice y3 P.rules.length z3)).setCell ⟨w.heap.size, 4, none⟩ (.bool true)).setCell ⟨w.heap.size, 5, none⟩ (.slice ov nv cv)) = W5 at *
  clear q0 q1 q2 q3 q4 q5 zf hX4
  have hd5 : Hid (Below W5.heap.size W5 W5.drew) := (Below.refl _ _).drew
  have hO5 := hide' (hw5.out.owns hO4 hs1)
  have hF5 : Hid (M.Fr2 w W5 gs gs) := hw5.out.fr hF4.out (Nat.le_refl _)
  have hA5 := hide' ((hA4.out.wr hw5.out (by omega) (by omega) (by omega)).below hd5.out)
  have hV5 := hide' ((pbV_frame hG'.out.pb hG'.out.at'.gau hG'.out.ne hF5.out).below hd5.out)
  have hE5 : Hid (EnS W5.drew P true (.slice ov nv cv)) := (sg_ens (.inr ⟨l, rfl, hl, hO5.out⟩)).below hd5.out
  have hX5' : Hid (W5.drew.heap[w.heap.size]? = some (.cells #[.int .i64 P.users, .slice y1 P.who.length z1, .slice y2 P.fixed.length z2, .slice y3 P.rules.length z3, .bool true, .slice ov nv cv] 51 (0, 0))) := hX5.out
  obtain ⟨q0, q1, q2, q3, q4, q5⟩ := cells6 hX5'.out
  have qg := hA5.out.cells.1
  obtain ⟨w6, hst, hA6, hC6, hF6⟩ := hA5.out.put (.inr ⟨_, rfl⟩) hn hkey (.agg #[.int .i64 P.users, .slice y1 P.who.length z1, .slice y2 P.fixed.length z2, .slice y3 P.rules.length z3, .bool true, .slice ov nv cv])
  have r5 := hC6.out _ _ _ q5
  have hF : Hid (M.Fr2 w w6 gs gm) := ((fr_wide hF5.out).trans (M.Fr2.below hd5.out)).trans hF6.out
  have hE : Hid (GtE w6 gg gm gs a' b' c' (n + 1) k P (.slice y1 P.who.length z1) (.slice y2 P.fixed.length z2) (.slice y3 P.rules.length z3) true (.slice ov nv cv)) := ⟨hA6.out, hV5.out.cls hC6.out, hE5.out.cls hC6.out, hG'.out.ok, hG'.out.chk, hG'.out.ne, ⟨_, _, _, rfl⟩⟩
  have hR6 : Hid (RowI w6 (.slice ov nv cv) l) := rowI_cls (RowI.below (RowI.of_owns hO5.out) hd5.out (Nat.le_refl _)) hC6.out
  have hll : l.length ≤ 1000 := by
    have h1 := (holP_of hl.1).2.1
    have h2 := hG'.out.ok.w
    omega
  have KC := hide' (clone l (.slice ov nv cv) w6 hR6.out hll)
  have hl' := hide' hl
  clear hA5 hA6 hC6 hF6 hX5 hX5' hd5 hA4 hV5 hE5 hF4 hF5 hO5 hO4 hR6 hG' hl hX1 hw5
  go_region
  go_wp2_with fail
  refine KC.out.mono ?_
  rintro e w7 ⟨v, rfl, hO7, hb7⟩
  have hz6 := hF.out.size
  clear KC r5 q0 q1 q2 q3 q4 q5 qg hst
  go_wp2
  have hE7 : Hid (GtE w7 gg gm gs a' b' c' (n + 1) k P (.slice y1 P.who.length z1) (.slice y2 P.fixed.length z2) (.slice y3 P.rules.length z3) true (.slice ov nv cv)) := ⟨hE.out.at'.below hb7, hE.out.pb.below hb7, hE.out.en.below hb7, hE.out.ok, hE.out.chk, hE.out.ne, hE.out.shp⟩
  exact bodyPost_ret (v := .tuple #[v, .int .i64 0]) (by simp [results, Tryd.results8, go_sem]) rfl ⟨v, l, _, a', b', c', rfl, hl', own_down hO7 hz6, hE7, g2, hF.out.trans (M.Fr2.below hb7)⟩
end Go.Proofs.YtnfebegmgeanhaaDoor.S
namespace Go.Proofs.YtnfebegmgeanhaaDoor.S
open Go.RowKit Go.Shelf
/-- What Problem answers. -/
def PrG (w : World) (P : Pb) (e : Ending) (w' : World) : Prop :=
  ∃ a b c E, e = .returned (.tuple #[pbV P a b c, .int .i64 0]) ∧ Hid (E.map Prod.fst = P.rules) ∧ Hid (w'.ownsRow w.heap.size 42 1 a P.who.length (cellsW P.who)) ∧ Hid (w'.ownsRow w.heap.size 3 1 b P.fixed.length (cellsI P.fixed)) ∧ Hid (TwS w.heap.size w' c E) ∧ Hid (Below w.heap.size w w')
set_option maxRecDepth 100000 in
set_option maxHeartbeats 4000000 in
theorem problemG (P : Pb) (wv fv rv pl : Value) (can : Bool) (k : Int) (gg gm gs a b c n : Nat) (w : World) (hkey : (Lit.int .i64 k).wf = true) (hG : GtE w gg gm gs a b c n k P wv fv rv can pl) :
    Calls Tryd.prog 10 #[.pointer (some ⟨gg, 0, none⟩), .int .i64 k] w (PrG w P) := by
  obtain ⟨op, np, cp, rfl⟩ := hG.shp
  obtain ⟨y1, z1, y2, z2, y3, z3, rfl, rfl, rfl⟩ := hG.pb.shape
  have hG' := hide' hG
  have hB0 : Hid (Below w.heap.size w (w.alloc (.cells #[.int .i64 0, .slice none 0 0, .slice none 0 0, .slice none 0 0] 26))) := (Below.refl _ w).alloc (Nat.le_refl _) _
  have hlk := (hG.below hB0.out).at'.mp.look1 hkey
  have hcg := (hG.below hB0.out).at'.cells.1
  have hB1 : Hid (Below w.heap.size w ((w.alloc (.cells #[.int .i64 0, .slice none 0 0, .slice none 0 0, .slice none 0 0] 26)).alloc (.cells #[.int .i64 P.users, .slice y1 P.who.length z1, .slice y2 P.fixed.length z2, .slice y3 P.rules.length z3, .bool can, .slice op np cp] 51))) := hB0.out.alloc hB0.out.size _
  have hX1 : Hid (((w.alloc (.cells #[.int .i64 0, .slice none 0 0, .slice none 0 0, .slice none 0 0] 26)).alloc (.cells #[.int .i64 P.users, .slice y1 P.who.length z1, .slice y2 P.fixed.length z2, .slice y3 P.rules.length z3, .bool can, .slice op np cp] 51)).heap[w.heap.size + 1]? = some (.cells #[.int .i64 P.users, .slice y1 P.who.length z1, .slice y2 P.fixed.length z2, .slice y3 P.rules.length z3, .bool can, .slice op np cp] 51 (0, 0))) := two_snd w _ _
  have hZ1 : Hid (((w.alloc (.cells #[.int .i64 0, .slice none 0 0, .slice none 0 0, .slice none 0 0] 26)).alloc (.cells #[.int .i64 P.users, .slice y1 P.who.length z1, .slice y2 P.fixed.length z2, .slice y3 P.rules.length z3, .bool can, .slice op np cp] 51)).heap[w.heap.size]? = some (.cells #[.int .i64 0, .slice none 0 0, .slice none 0 0, .slice none 0 0] 26 (0, 0))) := two_fst w _ _
  have hsz : (w.alloc (.cells #[.int .i64 0, .slice none 0 0, .slice none 0 0, .slice none 0 0] 26)).heap.size = w.heap.size + 1 := by
    show (w.heap.push _).size = _
    simp
  unfold PrG
  unfold enV at hlk
  clear hG
  go_enter Tryd.func10, Tryd.ntmps10
  go_upto_region 1 with fail
  generalize (w.alloc (.cells #[.int .i64 0, .slice none 0 0, .slice none 0 0, .slice none 0 0] 26)) = W0 at *
  go_upto_region 2 with fail
  generalize (W0.alloc (.cells #[.int .i64 P.users, .slice y1 P.who.length z1, .slice y2 P.fixed.length z2, .slice y3 P.rules.length z3, .bool can, .slice op np cp] 51)) = W1 at *
  obtain ⟨q0, q1, q2, q3, q4, q5⟩ := cells6 hX1.out
  have hV1 := hide' (hG'.out.pb.below hB1.out)
  have hs1 : w.heap.size + 1 < W1.heap.size := (Array.getElem?_eq_some_iff.1 hX1.out).1
  have KP := hide' (copyG P _ _ _ W1 hV1.out hG'.out.ok)
  unfold pbV at KP
  clear hlk hcg
  go_wp2_with fail
  refine KP.out.mono ?_
  rintro e w2 ⟨x1, x2, x3, E, rfl, hE, o1, o2, o3, hb2⟩
  have hV2 : Hid (PbV w2 P x1 x2 x3) := ⟨RowW.of_owns o1, RowI.of_owns o2, by rw [← hE]; exact o3.rowR⟩
  obtain ⟨x1, t1, x2, t2, x3, t3, rfl, rfl, rfl⟩ := hV2.out.shape
  have hZ2 := hide' ((hb2.block _ (by omega)).trans hZ1.out)
  have hB2 := hide' (hB1.out.trans (hb2.mono hB1.out.size))
  clear q0 q1 q2 q3 q4 q5 KP hV1 hX1
  have q0 : w2.cell? ⟨w.heap.size, 0, none⟩ = some (.int .i64 0) := by simp [World.cell?, hZ2.out]
  have q1 : w2.cell? ⟨w.heap.size, 1, none⟩ = some (.slice none 0 0) := by simp [World.cell?, hZ2.out]
  have q2 : w2.cell? ⟨w.heap.size, 2, none⟩ = some (.slice none 0 0) := by simp [World.cell?, hZ2.out]
  have q3 : w2.cell? ⟨w.heap.size, 3, none⟩ = some (.slice none 0 0) := by simp [World.cell?, hZ2.out]
  have zf : ∀ i, w2.frozen? ⟨w.heap.size, i, none⟩ = false := fun i => by simp [World.frozen?, hZ2.out]
  have hX3 : Hid (((((w2.setCell ⟨w.heap.size, 0, none⟩ (.int .i64 P.users)).setCell ⟨w.heap.size, 1, none⟩ (.slice x1 P.who.length t1)).setCell ⟨w.heap.size, 2, none⟩ (.slice x2 P.fixed.length t2)).setCell ⟨w.heap.size, 3, none⟩ (.slice x3 P.rules.length t3)).heap[w.heap.size]? = some (.cells #[.int .i64 P.users, .slice x1 P.who.length t1, .slice x2 P.fixed.length t2, .slice x3 P.rules.length t3] 26 (0, 0))) := by
    show _ = _
    simpa using heap_atG (i := 3) (.slice x3 P.rules.length t3) (heap_atG (i := 2) (.slice x2 P.fixed.length t2) (heap_atG (i := 1) (.slice x1 P.who.length t1) (heap_atG (i := 0) (.int .i64 P.users) hZ2.out)))
  have hlo : w.heap.size < W1.heap.size := by omega
  have r1 := hide' (own_down (own_low (i := 3) (own_low (i := 2) (own_low (i := 1) (own_low (i := 0) o1 hlo (.int .i64 P.users)) hlo (.slice x1 P.who.length t1)) hlo (.slice x2 P.fixed.length t2)) hlo (.slice x3 P.rules.length t3)) (Nat.le_of_lt hlo))
  have r2 := hide' (own_down (own_low (i := 3) (own_low (i := 2) (own_low (i := 1) (own_low (i := 0) o2 hlo (.int .i64 P.users)) hlo (.slice x1 P.who.length t1)) hlo (.slice x2 P.fixed.length t2)) hlo (.slice x3 P.rules.length t3)) (Nat.le_of_lt hlo))
  have r3 := hide' (TwSdown (TwSlow (i := 3) (TwSlow (i := 2) (TwSlow (i := 1) (TwSlow (i := 0) o3 hlo (.int .i64 P.users)) hlo (.slice x1 P.who.length t1)) hlo (.slice x2 P.fixed.length t2)) hlo (.slice x3 P.rules.length t3)) (Nat.le_of_lt hlo))
  have hB3 := hide' ((((hB2.out.setCell (p := ⟨w.heap.size, 0, none⟩) (Nat.le_refl _) (.int .i64 P.users)).setCell (p := ⟨w.heap.size, 1, none⟩) (Nat.le_refl _) (.slice x1 P.who.length t1)).setCell (p := ⟨w.heap.size, 2, none⟩) (Nat.le_refl _) (.slice x2 P.fixed.length t2)).setCell (p := ⟨w.heap.size, 3, none⟩) (Nat.le_refl _) (.slice x3 P.rules.length t3))
  have hE' := hide' hE
  unfold pbV
  clear o1 o2 o3 hV2 hZ1 hZ2 hb2 hE
  go_wp2
  generalize ((((w2.setCell ⟨w.heap.size, 0, none⟩ (.int .i64 P.users)).setCell ⟨w.heap.size, 1, none⟩ (.slice x1 P.who.length t1)).setCell ⟨w.heap.size, 2, none⟩ (.slice x2 P.fixed.length t2)).setCell ⟨w.heap.size, 3, none⟩ (.slice x3 P.rules.length t3)) = W3 at *
  have k0 : W3.cell? ⟨w.heap.size, 0, none⟩ = some (.int .i64 P.users) := by simp [World.cell?, hX3.out]
  have k1 : W3.cell? ⟨w.heap.size, 1, none⟩ = some (.slice x1 P.who.length t1) := by simp [World.cell?, hX3.out]
  have k2 : W3.cell? ⟨w.heap.size, 2, none⟩ = some (.slice x2 P.fixed.length t2) := by simp [World.cell?, hX3.out]
  have k3 : W3.cell? ⟨w.heap.size, 3, none⟩ = some (.slice x3 P.rules.length t3) := by simp [World.cell?, hX3.out]
  exact bodyPost_ret (v := .tuple #[.agg #[.int .i64 P.users, .slice x1 P.who.length t1, .slice x2 P.fixed.length t2, .slice x3 P.rules.length t3], .int .i64 0]) (by simp [results, Tryd.results10, go_sem, k0, k1, k2, k3]) rfl ⟨_, _, _, E, rfl, hE', r1, r2, r3, hB3⟩
end Go.Proofs.YtnfebegmgeanhaaDoor.S
namespace Go.Proofs.YtnfebegmgeanhaaDoor.S
open Go.RowKit Go.Shelf
section
variable {V V' : World} {gg gm gs a b c n : Nat} {o : Option (Int × Value)}
/-- A gate's call leaves the cells that are not the gauge's. -/
theorem GtA.cells2 (h : GtA V gg gm gs a b c n o) (hf : M.Fr2 V V' gs gm) {g i : Nat} {v : Value} (hg : g ≠ gs) (e : V.cell? ⟨g, i, none⟩ = some v) : V'.cell? ⟨g, i, none⟩ = some v := by
  have hne : g ≠ gm := fun q => by
    obtain ⟨es, clock, h1, _⟩ := h.mp
    subst q
    simp [World.cell?, h1] at e
  have h1 := hf.block g (cell_lt e) hg hne
  simp only [World.cell?] at e ⊢
  rw [h1]; exact e
theorem rowI_g (h : GtA V gg gm gs a b c n o) (hf : M.Fr2 V V' gs gm) {v : Value} {l : List Int} (hr : RowI V v l) : RowI V' v l := by
  obtain ⟨oa, cap, e, e0, hc⟩ := hr
  refine ⟨oa, cap, e, e0, fun i z hi => ?_⟩
  obtain ⟨g, q, e1, e2⟩ := hc i z hi
  exact ⟨g, q, e1, h.cells2 hf (fun q => by rw [q] at e2; exact h.gau.kind e2) e2⟩
theorem pbV_g (h : GtA V gg gm gs a b c n o) (hf : M.Fr2 V V' gs gm) {P : Pb} {wv fv rv : Value} (hp : PbV V P wv fv rv) (hne : ∀ ad n c, wv = .slice (some ad) n c → ad.block ≠ gs) : PbV V' P wv fv rv := by
  refine ⟨?_, rowI_g h hf hp.fixed, ?_⟩
  · obtain ⟨oa, cap, e, e0, hc⟩ := hp.who
    refine ⟨oa, cap, e, e0, fun i z hi => ?_⟩
    obtain ⟨g, q, e1, e2⟩ := hc i z hi
    exact ⟨g, q, e1, h.cells2 hf (hne ⟨g, q, none⟩ _ _ (by rw [e, e1])) e2⟩
  · obtain ⟨oa, cap, e, e0, hc⟩ := hp.rules
    refine ⟨oa, cap, e, e0, fun i r hi => ?_⟩
    obtain ⟨g, q, sv, e1, e2, e3, e4, e5⟩ := hc i r hi
    have hg : g ≠ gs := fun q => by rw [q] at e2; exact h.gau.kind e2
    exact ⟨g, q, sv, e1, h.cells2 hf hg e2, h.cells2 hf hg e3, h.cells2 hf hg e4, rowI_g h hf e5⟩
end
/-- The problem that was cut, its box, the row of turns. -/
structure Wg (w : World) (Q : Pb) (qw qf qr : Value) (g gs : Nat) (tv : Value) (TL : List Int) (V : World) : Prop where
  pb : PbB V g Q qw qf qr
  pv : PbV V Q qw qf qr
  tn : RowI V tv TL
  tab : M.Tab V
  be : Below w.heap.size w V
  ne : ∀ ad n c, qw = .slice (some ad) n c → ad.block ≠ gs
  gne : g ≠ gs
section
variable {w V V' : World} {Q : Pb} {qw qf qr tv : Value} {g gg gm gs a b c n : Nat} {TL : List Int} {o : Option (Int × Value)}
theorem Wg.over (h : Wg w Q qw qf qr g gs tv TL V) (hb : Below V.heap.size V V') : Wg w Q qw qf qr g gs tv TL V' :=
  ⟨h.pb.below hb, h.pv.below hb, h.tn.below hb (Nat.le_refl _), h.tab.over hb, h.be.trans (hb.mono h.be.size), h.ne, h.gne⟩
theorem Wg.fr (h : Wg w Q qw qf qr g gs tv TL V) (hA : GtA V gg gm gs a b c n o) (hf : M.Fr2 V V' gs gm) (hs : w.heap.size ≤ gs) (hm : w.heap.size ≤ gm) (hG : 1 ≤ w.heap.size) : Wg w Q qw qf qr g gs tv TL V' := by
  have hgm : g ≠ gm := fun q => by
    obtain ⟨es, clock, h1, _⟩ := hA.mp
    have h2 := h.pb
    unfold PbB at h2
    rw [q, h1] at h2
    cases h2
  exact ⟨(hf.block g (Array.getElem?_eq_some_iff.1 h.pb).1 h.gne hgm).trans h.pb, pbV_g hA hf h.pv h.ne, rowI_g hA hf h.tn, h.tab.fr2 hf (Nat.le_trans hG hs) (Nat.le_trans hG hm), hf.new h.be hs hm h.be.size, h.ne, h.gne⟩
end
end Go.Proofs.YtnfebegmgeanhaaDoor.S
namespace Go.Proofs.YtnfebegmgeanhaaDoor.S
open Go.RowKit Go.Shelf
def cellsT (T : List Bool) : List Value := T.map Value.bool
/-- A row of truths, in memory of its own. -/
def RwT (V : World) (B gz : Nat) (T : List Bool) : Prop := V.ownsRow B 4 1 (.slice (some ⟨gz, 0, none⟩) T.length T.length) T.length (cellsT T)
section
variable {V V' : World} {B gz : Nat} {T : List Bool}
theorem RwT.ge (h : RwT V B gz T) : B ≤ gz := own_ge' h rfl
theorem RwT.at (h : RwT V B gz T) {i : Nat} {t : Bool} (ht : T[i]? = some t) : V.cell? ⟨gz, i, none⟩ = some (.bool t) := by
  have hi := (List.getElem?_eq_some_iff.1 ht).1
  have h1 := World.ownsRow.cellAt h i (by omega)
  rw [h1]
  simp [cellsT, ht]
theorem RwT.frz (h : RwT V B gz T) (i : Nat) : V.frozen? ⟨gz, i, none⟩ = false := World.ownsRow.frozenAt h i
theorem RwT.set (h : RwT V B gz T) (i : Nat) (t : Bool) : RwT (V.setCell ⟨gz, i, none⟩ (.bool t)) B gz (T.set i t) := by
  have h1 := (World.ownsRow.stored h i (.bool t)).1
  unfold RwT cellsT at *
  rw [List.length_set, List.map_set]
  exact h1
theorem RwT.same (h : RwT V B gz T) (hb : V'.heap[gz]? = V.heap[gz]?) : RwT V' B gz T := own_same h fun g _ e => by
  have : gz = g := by simpa [Value.ownBlock] using e
  subst this
  exact hb
/-- All cells of the row are truths. -/
theorem RwT.kind (h : RwT V B gz T) {o : Nat} {v : Value} (e : V.cell? ⟨gz, o, none⟩ = some v) : ∃ b, v = .bool b := by
  rcases h.2 with ⟨q, _⟩ | ⟨g', cap, cur, e1, _, hg, _, _, hs, hx⟩
  · cases q
  · injection e1 with e1 _ e2
    injection e1 with e1
    injection e1 with e1 _
    subst e1 e2
    simp only [World.cell?, hg] at e
    rw [List.take_of_length_le (by simp [hs])] at hx
    have e' : cur[o]? = some v := by simpa using e
    have hm : v ∈ cur.toList := Array.mem_toList_iff.2 (Array.mem_of_getElem? e')
    rw [hx] at hm
    obtain ⟨b, _, hb⟩ := List.mem_map.1 hm
    exact ⟨b, hb.symm⟩
/-- A truth is written: no other cell changes. -/
theorem RwT.but (h : RwT V B gz T) (i : Nat) (t : Bool) {g o : Nat} {v : Value} (e : V.cell? ⟨g, o, none⟩ = some v) (hv : ∀ b, v ≠ .bool b) : (V.setCell ⟨gz, i, none⟩ (.bool t)).cell? ⟨g, o, none⟩ = some v := by
  have hne : g ≠ gz := fun q => by
    subst q
    obtain ⟨b, hb⟩ := h.kind e
    exact hv b hb
  have h1 := Below.heap_setCell V ⟨gz, i, none⟩ (.bool t) g hne
  simp only [World.cell?] at e ⊢
  rw [h1]; exact e
theorem RwT.rowI (h : RwT V B gz T) (i : Nat) (t : Bool) {v : Value} {l : List Int} (hr : RowI V v l) : RowI (V.setCell ⟨gz, i, none⟩ (.bool t)) v l := by
  obtain ⟨oa, cap, e, e0, hc⟩ := hr
  refine ⟨oa, cap, e, e0, fun j z hj => ?_⟩
  obtain ⟨g, q, e1, e2⟩ := hc j z hj
  exact ⟨g, q, e1, h.but i t e2 fun b q => by cases q⟩
theorem RwT.pbV (h : RwT V B gz T) (i : Nat) (t : Bool) {P : Pb} {wv fv rv : Value} (hp : PbV V P wv fv rv) : PbV (V.setCell ⟨gz, i, none⟩ (.bool t)) P wv fv rv := by
  refine ⟨?_, h.rowI i t hp.fixed, ?_⟩
  · obtain ⟨oa, cap, e, e0, hc⟩ := hp.who
    refine ⟨oa, cap, e, e0, fun j z hj => ?_⟩
    obtain ⟨g, q, e1, e2⟩ := hc j z hj
    exact ⟨g, q, e1, h.but i t e2 fun b q => by cases q⟩
  · obtain ⟨oa, cap, e, e0, hc⟩ := hp.rules
    refine ⟨oa, cap, e, e0, fun j r hj => ?_⟩
    obtain ⟨g, q, sv, e1, e2, e3, e4, e5⟩ := hc j r hj
    refine ⟨g, q, sv, e1, h.but i t e2 (fun b q => by cases q), h.but i t e3 (fun b q => by cases q), h.but i t e4 fun b q => ?_, h.rowI i t e5⟩
    obtain ⟨_, _, e6, _⟩ := e5
    rw [e6] at q
    cases q
end
/-- What stands between the rounds. -/
structure Wl (w : World) (Q : Pb) (qw qf qr : Value) (g gs : Nat) (tv : Value) (TL : List Int) (gg gm : Nat) (P : Pb) (lv : Value) (l : List Int) (B gz : Nat) (T : List Bool) (m : Nat) (V : World) : Prop where
  wg : Wg w Q qw qf qr g gs tv TL V
  ge : ∃ wv fv rv pl a b c n, GtE V gg gm gs a b c n 5 P wv fv rv true pl ∧ n ≤ m ∧ a ≤ m * 4000000000000 ∧ b ≤ m * 4000000000000 ∧ c ≤ m * 4000000000000
  rl : RowI V lv l
  tr : RwT V B gz T
  lt : gs < B ∧ gm < B
  ws : w.heap.size ≤ B ∧ 1 ≤ w.heap.size ∧ w.heap.size ≤ gs ∧ w.heap.size ≤ gm ∧ gg ≠ gs
section
variable {w V V' : World} {Q P : Pb} {qw qf qr tv lv : Value} {g gs gg gm B gz m : Nat} {TL l : List Int} {T : List Bool}
theorem Wl.gzlt (h : Wl w Q qw qf qr g gs tv TL gg gm P lv l B gz T m V) : gz < V.heap.size := by
  obtain ⟨c, fz, e⟩ := Go.Lib.ownsRow_kind h.tr gz rfl
  exact (Array.getElem?_eq_some_iff.1 e).1
theorem Wl.set (h : Wl w Q qw qf qr g gs tv TL gg gm P lv l B gz T m V) (i : Nat) (t : Bool) : Wl w Q qw qf qr g gs tv TL gg gm P lv l B gz (T.set i t) m (V.setCell ⟨gz, i, none⟩ (.bool t)) := by
  obtain ⟨c, fz, ek⟩ := Go.Lib.ownsRow_kind h.tr gz rfl
  have hw : Wr1 V (V.setCell ⟨gz, i, none⟩ (.bool t)) gz := (Wr1.refl V gz).set i (.bool t)
  have hBg := h.tr.ge
  have hl := h.lt
  have hs := h.ws
  have hg : g ≠ gz := fun q => by
    have h2 := h.wg.pb
    unfold PbB at h2
    rw [q, ek] at h2
    injection h2 with h2
    injection h2 with _ h2
    exact absurd h2 (by decide)
  refine ⟨⟨(hw.block g hg).trans h.wg.pb, h.tr.pbV i t h.wg.pv, h.tr.rowI i t h.wg.tn, h.wg.tab.fr2 (M.Fr2.setA V gz gz i (.bool t)) (by omega) (by omega), h.wg.be.setCell (p := ⟨gz, i, none⟩) (show w.heap.size ≤ gz by omega) _, h.wg.ne, h.wg.gne⟩, ?_, h.tr.rowI i t h.rl, h.tr.set i t, h.lt, h.ws⟩
  obtain ⟨wv, fv, rv, pl, a, b, c, n, hE, hn⟩ := h.ge
  have hgg : gg ≠ gz := fun q => by
    have h2 := hE.at'.bx
    rw [q, ek] at h2
    injection h2 with h2
    injection h2 with _ h2
    exact absurd h2 (by decide)
  refine ⟨wv, fv, rv, pl, a, b, c, n, ⟨hE.at'.wr hw hgg (by omega) (by omega), h.tr.pbV i t hE.pb, ⟨hE.en.1, fun q => ?_⟩, hE.ok, hE.chk, hE.ne, hE.shp⟩, hn⟩
  obtain ⟨l', h1, h2⟩ := hE.en.2 q
  exact ⟨l', h1, h.tr.rowI i t h2⟩
theorem Wl.below (h : Wl w Q qw qf qr g gs tv TL gg gm P lv l B gz T m V) (hb : Below V.heap.size V V') : Wl w Q qw qf qr g gs tv TL gg gm P lv l B gz T m V' := by
  refine ⟨h.wg.over hb, ?_, h.rl.below hb (Nat.le_refl _), h.tr.same (hb.block _ h.gzlt), h.lt, h.ws⟩
  obtain ⟨wv, fv, rv, pl, a, b, c, n, hE, hn⟩ := h.ge
  exact ⟨wv, fv, rv, pl, a, b, c, n, hE.below hb, hn⟩
theorem Wl.more (h : Wl w Q qw qf qr g gs tv TL gg gm P lv l B gz T m V) : Wl w Q qw qf qr g gs tv TL gg gm P lv l B gz T (m + 1) V := by
  refine ⟨h.wg, ?_, h.rl, h.tr, h.lt, h.ws⟩
  obtain ⟨wv, fv, rv, pl, a, b, c, n, hE, hn⟩ := h.ge
  exact ⟨wv, fv, rv, pl, a, b, c, n, hE, by omega⟩
theorem Wl.up (h : Wl w Q qw qf qr g gs tv TL gg gm P lv l B gz T m V) {m' : Nat} (hm : m ≤ m') : Wl w Q qw qf qr g gs tv TL gg gm P lv l B gz T m' V := by
  refine ⟨h.wg, ?_, h.rl, h.tr, h.lt, h.ws⟩
  obtain ⟨wv, fv, rv, pl, a, b, c, n, hE, hn⟩ := h.ge
  exact ⟨wv, fv, rv, pl, a, b, c, n, hE, by omega⟩
/-- Try, between the rounds. -/
theorem Wl.go (h : Wl w Q qw qf qr g gs tv TL gg gm P lv l B gz T m V) (hm : m ≤ 250) {s x : Nat} (hl : holP P l = true) (hls : l[s]? = some (x : Int)) (hfs : P.fixed[s]? = some (-1)) :
    Calls Tryd.prog 9 #[.pointer (some ⟨gg, 0, none⟩), .int .i64 5, .int .i64 (s : Int), .int .i64 (x : Int)] V fun e W => e = .returned (.tuple #[.bool true, .int .i64 0]) ∧ Hid (Wl w Q qw qf qr g gs tv TL gg gm (fxS P s x) lv l B gz T (m + 1) W) := by
  obtain ⟨wv, fv, rv, pl, a, b, c, n, hE, hn, h1, h2, h3⟩ := h.ge
  have hs := h.ws
  have hlt := h.lt
  have hBg := h.tr.ge
  refine (tryG P wv fv rv pl true 5 s x gg gm gs a b c n l V (by decide) hE (by unfold maxLen; omega) hs.2.2.2.2 (by omega) h.wg.tab (by omega) (by omega) (by omega) hl hls hfs).mono ?_
  rintro e W ⟨wv', fv', rv', pl', a', b', c', rfl, hE', hg, hf⟩
  have hle := hg.out.le (by decide)
  exact ⟨rfl, h.wg.fr hE.at' hf.out hs.2.2.1 hs.2.2.2.1 hs.2.1, ⟨wv', fv', rv', pl', a', b', c', n + 1, hE'.out, by omega, by omega, by omega, by omega⟩, rowI_g hE.at' hf.out h.rl, h.tr.same (hf.out.block _ h.gzlt (by omega) (by omega)), h.lt, h.ws⟩
end
end Go.Proofs.YtnfebegmgeanhaaDoor.S

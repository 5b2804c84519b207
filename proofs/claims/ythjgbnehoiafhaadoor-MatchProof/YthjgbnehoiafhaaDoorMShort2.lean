/- firstShort, walked. -/
import Derived.Test.YthjgbnehoiafhaaDoorMShort
import Derived.Test.YthjgbnehoiafhaaDoorMFree
namespace Go.Proofs.YthjgbnehoiafhaaDoor.M
open Go.RowKit Go.Shelf
attribute [local go_sem] Oper.semAt_some
theorem full_pop : ∀ n : Fin 13, (nums (2 ^ n.val - 1)).length = n.val := by decide +kernel
theorem full_word {n : Nat} (hn : n ≤ 12) : ∃ p al : Nat, al = 2 ^ n - 1 ∧ IntKind.u64.wrap (2 ^ n) = (p : Int) ∧ IntKind.u64.wrap ((p : Int) - 1) = (al : Int) ∧ al < 18446744073709551616 := by
  have hp : 2 ^ n < 18446744073709551616 := Nat.pow_lt_pow_right (a := 2) (m := n) (n := 64) (by decide) (by omega)
  have h0 : 0 < 2 ^ n := Nat.two_pow_pos n
  refine ⟨2 ^ n, 2 ^ n - 1, rfl, shlc n (by omega), ?_, by omega⟩
  generalize 2 ^ n = q at *
  simp only [IntKind.wrap, IntKind.bits, IntKind.signed]
  simp
  omega
theorem Fnd.own {R : Nat → Nat} {k : Nat} {l : List Nat} {B : Nat} {V V' : World} {fv : Value} {row : Option Nat} (h : Fnd R k l B V fv) (hg : V.grownBy V' row) (hr : ∀ r, row = some r → ∃ o : Obj, V.heap[r]? = some o ∧ o.isCells = false) : Fnd R k l B V' fv := by
  cases h with
  | no h => exact .no h
  | yes g cap t hm hb hl ho =>
    refine .yes g cap t hm hb hl ⟨ho.1, ?_⟩
    rcases ho.2 with hn | ⟨g', cap', cur, e, hb0, hgc, rest⟩
    · exact .inl hn
    · refine .inr ⟨g', cap', cur, e, hb0, ?_, rest⟩
      refine (hg.block g' (Array.getElem?_eq_some_iff.1 hgc).1 (fun e => ?_)).trans hgc
      obtain ⟨o, ho1, ho2⟩ := hr g' e.symm
      rw [hgc] at ho1
      cases ho1
      cases ho2
theorem Fnd.below {R : Nat → Nat} {k : Nat} {l : List Nat} {B : Nat} {V V' : World} {fv : Value} (h : Fnd R k l B V fv) (hb : Below V.heap.size V V') : Fnd R k l B V' fv := h.own (grown_none hb) (fun r e => by cases e)
theorem Fnd.shape {R : Nat → Nat} {k : Nat} {l : List Nat} {B : Nat} {V : World} {fv : Value} (h : Fnd R k l B V fv) : ∃ oa n cap, fv = .slice oa n cap := by
  cases h with
  | no h => exact ⟨_, _, _, rfl⟩
  | yes g cap t hm hb hl ho => exact ⟨_, _, _, rfl⟩
theorem owns_setM {X : World} {B : Nat} {e : TypeId} {size : Nat} {v : Value} {n : Nat} {xs : List Value} (h : X.ownsRow B e size v n xs) {a : Nat} (ha : a < B) (u : Value) : (X.setCell ⟨a, 0, none⟩ u).ownsRow B e size v n xs := by
  refine ⟨h.1, ?_⟩
  rcases h.2 with hn | ⟨g', cap', cur, e, hb0, hgc, rest⟩
  · exact .inl hn
  · exact .inr ⟨g', cap', cur, e, hb0, (Below.heap_setCell X ⟨a, 0, none⟩ u g' (by show g' ≠ a; omega)).trans hgc, rest⟩
theorem owns_b {W W' : World} {B : Nat} {e : TypeId} {size : Nat} {v : Value} {n : Nat} {xs : List Value} (h : W.ownsRow B e size v n xs) (hb : Below W.heap.size W W') : W'.ownsRow B e size v n xs := by
  refine ⟨h.1, ?_⟩
  rcases h.2 with hn | ⟨g', cap', cur, e, hb0, hgc, rest⟩
  · exact .inl hn
  · exact .inr ⟨g', cap', cur, e, hb0, (hb.block g' (Array.getElem?_eq_some_iff.1 hgc).1).trans hgc, rest⟩
theorem owns_someM {X : World} {B : Nat} {e : TypeId} {size : Nat} {v : Value} {n : Nat} {xs : List Value} (h : X.ownsRow B e size v n xs) (hn : 0 < n) : ∃ g cap, v = .slice (some ⟨g, 0, none⟩) n cap := by
  rcases h.2 with hn | ⟨g', cap', cur, e, _⟩
  · omega
  · exact ⟨g', cap', e⟩
/-- What stands between the sets. -/
structure FsI (w W1 : World) (rv : Value) (R : Nat → Nat) (k : Nat) (pre : List Nat) (fv : Value) (V : World) : Prop where
  b2 : Boxed V w.heap.size 22 rv
  b3 : Boxed V (w.heap.size + 1) 3 (.int .i64 (k : Int))
  b5 : Boxed V (w.heap.size + 1 + 1) 23 fv
  fnd : Fnd R k pre w.heap.size V fv
  old : Below w.heap.size w V
  sz : W1.heap.size ≤ V.heap.size
theorem FsI.own {w W1 : World} {rv : Value} {R : Nat → Nat} {k : Nat} {pre : List Nat} {fv : Value} {V V' : World} {row : Option Nat} (h : FsI w W1 rv R k pre fv V) (hw : w.heap.size ≤ W1.heap.size) (hg : V.grownBy V' row) (hr : ∀ r, row = some r → W1.heap.size ≤ r ∧ ∃ o : Obj, V.heap[r]? = some o ∧ o.isCells = false) : FsI w W1 rv R k pre fv V' := by
  have hbx : ∀ {b : Nat} {t : TypeId} {v : Value}, Boxed V b t v → Boxed V' b t v := fun {b t v} hb => (hg.block b hb.lt (fun e => by
    obtain ⟨_, o, ho1, ho2⟩ := hr b e.symm
    have hb' : V.heap[b]? = some (.cells #[v] t) := hb
    rw [hb'] at ho1
    cases ho1
    cases ho2)).trans hb
  exact ⟨hbx h.b2, hbx h.b3, hbx h.b5, h.fnd.own hg fun r e => (hr r e).2, h.old.grown hg (Nat.le_trans hw h.sz) (fun j e => Nat.le_trans hw (hr j e).1), Nat.le_trans h.sz hg.size⟩
theorem FsI.below {w W1 : World} {rv : Value} {R : Nat → Nat} {k : Nat} {pre : List Nat} {fv : Value} {V V' : World} (h : FsI w W1 rv R k pre fv V) (hw : w.heap.size ≤ W1.heap.size) (hb : Below V.heap.size V V') : FsI w W1 rv R k pre fv V' := h.own hw (grown_none hb) (fun r e => by cases e)
theorem Fnd.skip {R : Nat → Nat} {k : Nat} {l : List Nat} {B : Nat} {V : World} {fv : Value} (h : Fnd R k l B V fv) {t : Nat} (hn : ¬ Bad R k t) : Fnd R k (l ++ [t]) B V fv := by
  cases h with
  | no h =>
    refine .no fun t' ht => ?_
    rcases List.mem_append.1 ht with q | q
    · exact h t' q
    · rw [List.mem_singleton.1 q]; exact hn
  | yes g cap t0 hm hb hl ho => exact .yes g cap t0 (List.mem_append_left _ hm) hb (fun t' ht hb' => by
      rcases List.mem_append.1 ht with q | q
      · exact hl t' q hb'
      · rw [List.mem_singleton.1 q] at hb'; exact absurd hb' hn) ho
theorem Fnd.later {R : Nat → Nat} {k : Nat} {l : List Nat} {B : Nat} {V : World} {g cap t0 : Nat} (hm : t0 ∈ l) (hb : Bad R k t0) (hl : ∀ t' ∈ l, Bad R k t' → ¬ I.cmpL (lst t') (lst t0) < 0) (ho : V.ownsRow B 3 1 (.slice (some ⟨g, 0, none⟩) (nums t0).length cap) (nums t0).length (I.cellsI (lst t0))) {t : Nat} (hc : ¬ I.cmpL (lst t) (lst t0) < 0) : Fnd R k (l ++ [t]) B V (.slice (some ⟨g, 0, none⟩) (nums t0).length cap) :=
  .yes g cap t0 (List.mem_append_left _ hm) hb (fun t' ht hb' => by
    rcases List.mem_append.1 ht with q | q
    · exact hl t' q hb'
    · rw [List.mem_singleton.1 q]; exact hc) ho
theorem Fnd.first {R : Nat → Nat} {k : Nat} {l : List Nat} {B : Nat} {V : World} (h : ∀ t ∈ l, ¬ Bad R k t) {g cap t : Nat} (hb : Bad R k t) (ho : V.ownsRow B 3 1 (.slice (some ⟨g, 0, none⟩) (nums t).length cap) (nums t).length (I.cellsI (lst t))) : Fnd R k (l ++ [t]) B V (.slice (some ⟨g, 0, none⟩) (nums t).length cap) :=
  .yes g cap t (by simp) hb (fun t' ht hb' => by
    rcases List.mem_append.1 ht with q | q
    · exact absurd hb' (h t' q)
    · rw [List.mem_singleton.1 q, cmpL_self]; decide) ho
theorem Fnd.ahead {R : Nat → Nat} {k : Nat} {l : List Nat} {B : Nat} {V : World} {t0 : Nat} (hl : ∀ t' ∈ l, Bad R k t' → ¬ I.cmpL (lst t') (lst t0) < 0) (hlen : ∀ t' ∈ l, (nums t').length = k) (h0 : t0 ∈ l) {g cap t : Nat} (ht : (nums t).length = k) (hb : Bad R k t) (hc : I.cmpL (lst t) (lst t0) < 0) (ho : V.ownsRow B 3 1 (.slice (some ⟨g, 0, none⟩) (nums t).length cap) (nums t).length (I.cellsI (lst t))) : Fnd R k (l ++ [t]) B V (.slice (some ⟨g, 0, none⟩) (nums t).length cap) :=
  .yes g cap t (by simp) hb (fun t' ht' hb' => by
    rcases List.mem_append.1 ht' with q | q
    · have e1 : (lst t').length = (lst t0).length := by rw [lst_len, lst_len, hlen t' q, hlen t0 h0]
      have e2 : (lst t0).length = (lst t).length := by rw [lst_len, lst_len, hlen t0 h0, ht]
      exact cmpL_trans e1 e2 (hl t' q hb') (cmpL_anti e2.symm hc)
    · rw [List.mem_singleton.1 q, cmpL_self]; decide) ho
section
variable {n : Nat} {R : Nat → Nat} {w : World} {oa : Option Addr} {cap : Nat}
set_option maxRecDepth 100000 in
set_option maxHeartbeats 4000000 in
theorem firstC (hA : RwA w (.slice oa n cap) n R) (hn : n ≤ 12) (k : Nat) (hk : k ≤ n) :
    CallsIn Fence.wide 9 Tryd.prog 42 #[.slice oa n cap, .int .i64 (k : Int)] w fun e W' => ∃ v, e = .returned v ∧ Hid (Fnd R k (chF k (2 ^ n - 1)) w.heap.size W' v) ∧ Hid (Below w.heap.size w W') := by
  have h3 := hA.tab.2
  have ht := hA.tab
  have hmx : Tryd.prog.follows Departure.mixedOrders = true := by kernel_rfl
  have hA' := hide' hA
  obtain ⟨pn, al, hal, hsh, hsub, hall0⟩ := full_word hn
  have hfp := full_pop ⟨n, by omega⟩
  simp only at hfp
  have hall := hide' hall0
  rw [← hal] at hfp ⊢
  have hpop := hide' hfp
  have hal' := hide' hal
  clear hA hfp hal hall0
  refine callsIn_of_wp_marks Tryd.func42 rfl trivial ?_ rfl
  refine wpIn_wide.2 ?_
  simp only [Tryd.ntmps42, List.size_toArray, List.length_cons, List.length_nil, Nat.reduceAdd, Nat.reduceSub, Array.replicate_succ, Array.replicate_zero, List.push_toArray, List.append_toArray, List.nil_append, List.cons_append]
  go_wp2
  have hB0 : Below w.heap.size w (((w.alloc (.cells #[.slice oa n cap] 22)).alloc (.cells #[.int .i64 (k : Int)] 3)).alloc (.cells #[.slice none 0 0] 23)) := (((Below.refl _ w).alloc (Nat.le_refl _) _).alloc (by simp) _).alloc (by simp; omega) _
  have q2 := ((Boxed.new w 22 (.slice oa n cap)).alloc (.cells #[.int .i64 (k : Int)] 3)).alloc (.cells #[.slice none 0 0] 23)
  have q3 := (Boxed.new (w.alloc (.cells #[.slice oa n cap] 22)) 3 (.int .i64 (k : Int))).alloc (.cells #[.slice none 0 0] 23)
  have q5 := Boxed.new ((w.alloc (.cells #[.slice oa n cap] 22)).alloc (.cells #[.int .i64 (k : Int)] 3)) 23 (.slice none 0 0)
  simp only [World.size_alloc] at q3 q5
  generalize hW0 : ((w.alloc (.cells #[.slice oa n cap] 22)).alloc (.cells #[.int .i64 (k : Int)] 3)).alloc (.cells #[.slice none 0 0] 23) = W0 at *
  have hs0 : W0.heap.size = w.heap.size + 1 + 1 + 1 := by rw [← hW0]; simp
  clear hW0
  have hk0 : Hid (W0.drew.cell? ⟨w.heap.size, 0, none⟩ = some (.slice oa n cap) ∧ W0.drew.cell? ⟨w.heap.size + 1, 0, none⟩ = some (.int .i64 (k : Int)) ∧ Below W0.heap.size W0 W0.drew) := ⟨q2.cell, q3.cell, (Below.refl _ _).drew⟩
  go_region_held3 (fun X => X.cell? ⟨w.heap.size, 0, none⟩ = some (.slice oa n cap) ∧ X.cell? ⟨w.heap.size + 1, 0, none⟩ = some (.int .i64 (k : Int)) ∧ Below W0.heap.size W0 X) (first | assumption | (exact keep2b (by assumption) hb) | (exact hk0.out)) (first | (go_at_call 36; refine (ofC _ _).mono ?_; rintro e w1 ⟨rfl, hb⟩) | (go_at_call 57; refine (chooseSeq _ _ _).mono ?_; rintro e w1 ⟨kb, sb, rfl, bS, bK, hsb, hkb, hb⟩))
  all_goals go_wp2
  have hB1 : Below W0.heap.size W0 w1 := ‹_ ∧ _ ∧ Below W0.heap.size W0 w1›.2.2
  have hz1 := hB1.size
  have hBw : Below w.heap.size w w1 := hB0.trans (hB1.mono hB0.size)
  have zS := bS.lt
  have zK := bK.lt
  have hsb0 : W0.heap.size ≤ sb := by
    rename_i V9 _
    exact Nat.le_trans (show W0.heap.size ≤ _ from V9.size) hsb
  have hI0 : FsI w w1 (.slice oa n cap) R k [] (.slice none 0 0) w1 := ⟨bxS q2 hB1 (by omega), bxS q3 hB1 (by omega), bxS q5 hB1 (by omega), .no (fun t h => by cases h), hBw, Nat.le_refl _⟩
  have hmem : Hid (∀ t ∈ chF k al, t < 18446744073709551616 ∧ (∀ i ∈ nums t, i.val < n) ∧ (nums t).length = k) := fun t ht => by
    obtain ⟨a, b, c⟩ := (chF_mem k al t).1 ht
    refine ⟨a, fun i hi => ?_, c⟩
    have := b i hi
    rw [hal'.out, Nat.testBit_two_pow_sub_one] at this
    exact of_decide_eq_true this
  have hseq := choose_seq k al 8 kb sb w1 hall.out (by unfold pop64; rw [hpop.out]; exact hk) zK zS (ht.over hBw) bK.cell bS.cell
  clear q2 q3 q5 hk0 hb hsb hkb hB1
  refine (wpIn_wide (n := 9)).1 ?_
  refine rangeR (gf := 74) (lb := #[.pointer (some ⟨kb, 0, none⟩), .pointer (some ⟨sb, 0, none⟩)]) rfl (enters_of Tryd.func74 (by kernel_rfl) rfl)
    hseq KpB.t (KpB.b zS (by omega)) (fun _ => rfl)
    (fun pre V => ∃ fv, FsI w w1 (.slice oa n cap) R k pre fv V) (fun _ _ _ => False)
    (fun pre X Y row h hg hr => by
      obtain ⟨fv, h⟩ := h
      exact ⟨fv, h.own hBw.size hg hr⟩) (fun _ _ _ _ _ h _ _ => h) ⟨_, hI0⟩
    (fun t a' V => ∃ b, w1.heap.size ≤ b ∧ a' = { tmps := #[.slice oa n cap, .int .i64 (k : Int), .pointer (some ⟨w.heap.size, 0, none⟩), .pointer (some ⟨w.heap.size + 1, 0, none⟩), .slice none 0 0, .pointer (some ⟨w.heap.size + 1 + 1, 0, none⟩), .pointer (some ⟨b, 0, none⟩), undef, .slice oa n cap, .int .i64 (n : Int), .int .u64 (pn : Int), .int .u64 (al : Int), .agg #[.int .u64 (al : Int)], .int .i64 (k : Int), .func (.func 74) #[] #[.pointer (some ⟨kb, 0, none⟩), .pointer (some ⟨sb, 0, none⟩)], .agg #[.int .u64 (t : Int)], undef, undef, undef, undef, undef, undef, undef, undef, undef, undef, undef, undef, undef, undef, undef, undef, undef, undef], defers := [] } ∧ Boxed V b 66 (.int .u64 (t : Int)))
    (fun t a' _ Y Z row h hg hr => h.elim fun b hb => ⟨b, hb.1, hb.2.1, (hg.block b hb.2.2.lt (fun e => by obtain ⟨_, o, ho, hc⟩ := hr b e.symm; rw [show Y.heap[b]? = _ from hb.2.2] at ho; cases ho; cases hc)).trans hb.2.2⟩)
    (fun h k => KpB.of_below k (by omega) (by omega)) ?assign ?body ?done ?stop
  case assign =>
    intro l' t V K' hz hK'
    have e1 : encT t = #[.agg #[.int .u64 (t : Int)]] := rfl
    rw [e1]
    gi_wp2
    exact hK' _ _ ((Below.refl _ V).alloc (Nat.le_refl _) _) ⟨V.heap.size, hz, rfl, Boxed.new V _ _⟩
  case body =>
    rintro l' pre t a' V hz rfl ⟨r0, hr0⟩ ⟨fv, hI⟩ ⟨tb, htb, rfl, bT⟩ hpre
    have htm : t ∈ chF k al := by
      obtain ⟨r1, h1⟩ := hpre
      rw [← h1]; simp
    have hpm : Hid (∀ t' ∈ pre, (nums t').length = k) := fun t' h' => by
      obtain ⟨r1, h1⟩ := hpre
      exact (hmem.out t' (by rw [← h1]; simp [h'])).2.2
    obtain ⟨ht64, htn, htk⟩ := hmem.out t htm
    have hul := unL_lt hA'.out.word (nums t)
    have KU : Hid (∀ X, Below V.heap.size V X → Calls Tryd.prog 58 #[.slice oa n cap, .agg #[.int .u64 (t : Int)]] X fun e W' => e = .returned (.agg #[.int .u64 (unL R (nums t) : Int)]) ∧ Below X.heap.size X W') := fun X hX => unionF (hA'.out.over (hI.old.trans (hX.mono hI.old.size))) t ht64 htn
    have KL := hide' (len64 (unL R (nums t)) hul)
    have KP : Hid (∀ X, Below V.heap.size V X → Calls Tryd.prog 60 #[.agg #[.int .u64 (t : Int)]] X fun e W' => ∃ v, e = .returned v ∧ W'.ownsRow X.heap.size 3 1 v (nums t).length (I.cellsI (lst t)) ∧ Below X.heap.size X W') := fun X hX => by
      have := places64 t ht64 X (ht.over (hI.old.trans (hX.mono hI.old.size)))
      rwa [lst_ints] at this
    have htk' := hide' htk
    have hbad : Hid (Bad R k t ↔ (nums (unL R (nums t))).length < k) := Iff.rfl
    have hlt' : Hid ((lst t).length = k) := by show _ = _; rw [lst_len, htk]
    have hVw := hI.old.size
    have hVs := hI.sz
    have hwW := hBw.size
    have hkey : Hid (∀ X fv', Below V.heap.size V X → FsI w w1 (.slice oa n cap) R k (pre ++ [t]) fv' X → KeepsFrom w1.heap.size V X ∧ KpB sb V X ∧ (∃ fv, FsI w w1 (.slice oa n cap) R k (pre ++ [t]) fv X) ∧ Kept (w1.heap.size + 2) V X) := fun X fv' hX hf => ⟨(keepsO hX).from _, KpB.of_below hX (by omega) (by omega), ⟨fv', hf⟩, Kept.below hX⟩
    have hkey2 : Hid (∀ X v fv', Below V.heap.size V X → FsI w w1 (.slice oa n cap) R k (pre ++ [t]) fv' (X.setCell ⟨w.heap.size + 1 + 1, 0, none⟩ v) → KeepsFrom w1.heap.size V (X.setCell ⟨w.heap.size + 1 + 1, 0, none⟩ v) ∧ KpB sb V (X.setCell ⟨w.heap.size + 1 + 1, 0, none⟩ v) ∧ (∃ fv, FsI w w1 (.slice oa n cap) R k (pre ++ [t]) fv (X.setCell ⟨w.heap.size + 1 + 1, 0, none⟩ v)) ∧ Kept (w1.heap.size + 2) V (X.setCell ⟨w.heap.size + 1 + 1, 0, none⟩ v)) := fun X v fv' hX hf => by
      refine ⟨((keepsO hX).trans (KeepsOthers.setCell _ _ _)).from _, ⟨?_, fun h => ?_⟩, ⟨fv', hf⟩, (Kept.below hX).trans (Kept.setCell _ _ (by omega))⟩
      · have e1 := (Below.heap_setCell X ⟨w.heap.size + 1 + 1, 0, none⟩ v sb (by show sb ≠ w.heap.size + 1 + 1; omega)).trans (hX.block sb (by omega))
        simp only [World.cell?, e1]
      · exact (h.over hX).below h3 ((Below.refl _ X).setCell (p := ⟨w.heap.size + 1 + 1, 0, none⟩) (by show w.heap.size ≤ w.heap.size + 1 + 1; omega) _)
    have c2 := hI.b2.cell
    have c3 := hI.b3.cell
    have cT := bT.cell
    have hcell : Hid (∀ X, Below V.heap.size V X → X.cell? ⟨w.heap.size, 0, none⟩ = some (.slice oa n cap) ∧ X.cell? ⟨w.heap.size + 1, 0, none⟩ = some (.int .i64 (k : Int)) ∧ X.cell? ⟨tb, 0, none⟩ = some (.int .u64 (t : Int))) := fun X hX => ⟨cell_over c2 hX, cell_over c3 hX, cell_over cT hX⟩
    have hI' := hide' hI
    have hskip : Hid (k ≤ (nums (unL R (nums t))).length → ∀ X, Below V.heap.size V X → FsI w w1 (.slice oa n cap) R k (pre ++ [t]) fv X) := fun hle X hX => by
      have hx := hI.below hwW hX
      exact ⟨hx.b2, hx.b3, hx.b5, hx.fnd.skip (fun hb => by unfold Bad at hb; omega), hx.old, hx.sz⟩
    have hfv : Hid (∀ X : World, (fv = .slice none 0 0 ∧ Hid (∀ t' ∈ pre, ¬ Bad R k t') ∧ (binOp .eql 23 (.slice none 0 0) (.slice none 0 0)).run Tryd.prog X = .ok (.bool true) X) ∨ ∃ g0 cap0 t0, fv = .slice (some ⟨g0, 0, none⟩) (nums t0).length cap0 ∧ Hid (t0 ∈ pre ∧ Bad R k t0 ∧ (∀ t' ∈ pre, Bad R k t' → ¬ I.cmpL (lst t') (lst t0) < 0) ∧ V.ownsRow w.heap.size 3 1 (.slice (some ⟨g0, 0, none⟩) (nums t0).length cap0) (nums t0).length (I.cellsI (lst t0))) ∧ (binOp .eql 23 (.slice (some ⟨g0, 0, none⟩) (nums t0).length cap0) (.slice none 0 0)).run Tryd.prog X = .ok (.bool false) X) := by
      intro X
      cases hI.fnd with
      | no h => exact .inl ⟨rfl, h, I.eq_nil X⟩
      | yes g cap t0 hm hb hl ho => exact .inr ⟨g, cap, t0, rfl, ⟨hm, hb, hl, ho⟩, I.ne_nil _ _ _ X⟩
    have hput : Hid ((nums (unL R (nums t))).length < k → ∀ (X : World) (g c : Nat), Below V.heap.size V X → X.ownsRow V.heap.size 3 1 (.slice (some ⟨g, 0, none⟩) (nums t).length c) (nums t).length (I.cellsI (lst t)) → ((∀ t' ∈ pre, ¬ Bad R k t') ∨ ∃ t0 ∈ pre, (∀ t' ∈ pre, Bad R k t' → ¬ I.cmpL (lst t') (lst t0) < 0) ∧ I.cmpL (lst t) (lst t0) < 0) → FsI w w1 (.slice oa n cap) R k (pre ++ [t]) (.slice (some ⟨g, 0, none⟩) (nums t).length c) (X.setCell ⟨w.heap.size + 1 + 1, 0, none⟩ (.slice (some ⟨g, 0, none⟩) (nums t).length c))) := fun hb X g c hX ho hor => by
      have hx := hI.below hwW hX
      have ho2 := owns_lowM (owns_setM ho (a := w.heap.size + 1 + 1) (by have := hI.b5.lt; omega) (.slice (some ⟨g, 0, none⟩) (nums t).length c)) (B' := w.heap.size) (by omega)
      refine ⟨box_other hx.b2 (by omega) _, box_other hx.b3 (by omega) _, hx.b5.set _, ?_, hx.old.setCell (p := ⟨w.heap.size + 1 + 1, 0, none⟩) (by show w.heap.size ≤ w.heap.size + 1 + 1; omega) _, by have := hx.sz; simpa using this⟩
      rcases hor with hno | ⟨t0, h0, hl, hc⟩
      · exact Fnd.first hno hb ho2
      · exact Fnd.ahead hl hpm.out h0 htk hb hc ho2
    have hlater : Hid (∀ (X : World) (g0 cap0 t0 : Nat), fv = .slice (some ⟨g0, 0, none⟩) (nums t0).length cap0 → Below V.heap.size V X → t0 ∈ pre ∧ Bad R k t0 ∧ (∀ t' ∈ pre, Bad R k t' → ¬ I.cmpL (lst t') (lst t0) < 0) ∧ V.ownsRow w.heap.size 3 1 (.slice (some ⟨g0, 0, none⟩) (nums t0).length cap0) (nums t0).length (I.cellsI (lst t0)) → ¬ I.cmpL (lst t) (lst t0) < 0 → FsI w w1 (.slice oa n cap) R k (pre ++ [t]) fv X) := fun X g0 cap0 t0 e hX h hc => by
      subst e
      have hI2 : FsI w w1 (.slice oa n cap) R k (pre ++ [t]) (.slice (some ⟨g0, 0, none⟩) (nums t0).length cap0) V := ⟨hI.b2, hI.b3, hI.b5, Fnd.later h.1 h.2.1 h.2.2.1 h.2.2.2 hc, hI.old, hI.sz⟩
      exact hI2.below hwW hX
    have hcmp : Hid (∀ (X : World) (g0 cap0 t0 g c : Nat), Below V.heap.size V X → t0 ∈ pre ∧ Bad R k t0 ∧ (∀ t' ∈ pre, Bad R k t' → ¬ I.cmpL (lst t') (lst t0) < 0) ∧ V.ownsRow w.heap.size 3 1 (.slice (some ⟨g0, 0, none⟩) (nums t0).length cap0) (nums t0).length (I.cellsI (lst t0)) → X.ownsRow V.heap.size 3 1 (.slice (some ⟨g, 0, none⟩) (nums t).length c) (nums t).length (I.cellsI (lst t)) → Calls Tryd.prog 61 #[.slice (some ⟨g, 0, none⟩) (nums t).length c, .slice (some ⟨g0, 0, none⟩) (nums t0).length cap0] X fun e w' => e = .returned (.int .i64 (I.cmpL (lst t) (lst t0))) ∧ Below X.heap.size X w') := fun X g0 cap0 t0 g c hX h ho =>
      I.compareF (lst t) (lst t0) _ _ X (I.RowI.of_owns ho) ((I.RowI.of_owns h.2.2.2).below hX (Nat.le_refl _)) (by rw [lst_len]; exact Nat.le_trans (nums_len t) (by decide)) (by rw [lst_len, lst_len, htk, hpm.out t0 h.1])
    clear htk
    generalize unL R (nums t) = uw at *
    generalize (nums uw).length = ul at *
    clear hI hpre hr0 hul ht64 htn
    gi_wp2
    gi_region_with_o (first | (refine ⟨trivial, ?_⟩; gi_at_call 58; refine (CallsIn.inRound _ (callsIn_wide.2 (KU.out _ (Below.refl _ _).drew))).mono ?_; rintro e w5 ⟨rfl, hb5⟩; have hB5 : Below V.heap.size V w5 := ((Below.refl _ V).drew).trans hb5; obtain ⟨x2, x3, xT⟩ := hcell.out _ hB5) | (refine ⟨trivial, ?_⟩; gi_at_call 59; refine (CallsIn.inRound _ (callsIn_wide.2 (KL.out _))).mono ?_; rintro e w6 ⟨rfl, hb6⟩; have hB6 : Below V.heap.size V w6 := hB5.trans (hb6.mono hB5.size); obtain ⟨y2, y3, yT⟩ := hcell.out _ hB6))
    all_goals
      by_cases hle : k ≤ ul
      · gi_wp2
        exact hkey.out _ _ hB6 (hskip.out hle _ hB6)
      · have hlt : ul < k := by omega
        have KP6 := hide' (KP.out _ hB6)
        gi_wp2_with (first | (refine ⟨trivial, ?_⟩; gi_at_call 60; refine (CallsIn.inRound _ (callsIn_wide.2 KP6.out)).mono ?_; rintro e w7 ⟨v7, rfl, ho6, hb7⟩; have hB7 : Below V.heap.size V w7 := hB6.trans (hb7.mono hB6.size); obtain ⟨g7, cap7, rfl⟩ := owns_someM ho6 (by rw [htk'.out]; omega); have ho7 := hide' (owns_lowM ho6 hB6.size); have b57 := bxS hI'.out.b5 hB7 hI'.out.b5.lt; have c57 := b57.cell; have f57 := b57.frozen; rcases hfv.out w7 with ⟨rfl, hnone, hE⟩ | ⟨g0, cap0, t0, rfl, hRow, hE⟩) | (refine ⟨trivial, ?_⟩; gi_at_call 61; refine (CallsIn.inRound _ (callsIn_wide.2 (hcmp.out _ _ _ _ _ _ hB7 hRow.out ho7.out))).mono ?_; rintro e w8 ⟨rfl, hb8⟩; have hB8 : Below V.heap.size V w8 := hB7.trans (hb8.mono hB7.size); have b58 := bxS hI'.out.b5 hB8 hI'.out.b5.lt; have c58 := b58.cell; have f58 := b58.frozen; by_cases hc : I.cmpL (lst t) (lst t0) < 0))
        · refine ⟨trivial, ?_⟩
          gi_wp2
          exact hkey2.out _ _ _ hB7 (hput.out hlt _ _ _ hB7 ho7.out (.inl hnone.out))
        · exact hkey2.out _ _ _ hB8 (hput.out hlt _ _ _ hB8 (owns_b ho7.out hb8) (.inr ⟨t0, hRow.out.1, hRow.out.2.2.1, hc⟩))
        · exact hkey.out _ _ hB8 (hlater.out _ _ _ _ rfl hB8 hRow.out hc)
  case done =>
    rintro D V hD ⟨fv, hI⟩ hK
    have c5 := hI.b5.cell
    have hI' := hide' hI
    obtain ⟨fo, fn, fc, rfl⟩ := hI.fnd.shape
    have hDl : D < V.heap.size := (Array.getElem?_eq_some_iff.1 hK).1
    have hfin : Hid (Fnd R k (chF k al) w.heap.size (V.putObj D (.deferred none)) (.slice fo fn fc) ∧ Below w.heap.size w (V.putObj D (.deferred none))) := by
      have hx := hI.own (V' := V.putObj D (.deferred none)) (row := some D) hBw.size (grownBy_putObj' _ D (.deferred none)) (fun r e => by cases e; exact ⟨hD, _, hK, rfl⟩)
      exact ⟨hx.fnd, hx.old⟩
    clear hI hI0
    gi_wp2
    go_wp2
    refine ⟨by simp, .inl ⟨_, _, rfl, run_takeDeferred hK, ?_⟩⟩
    exact ⟨.slice fo fn fc, by simp [results, Tryd.results42, go_sem], _, rfl, hfin.out.1, hfin.out.2⟩
  case stop =>
    rintro D c pre V _ _ h _
    exact h.elim
theorem firstF (hA : RwA w (.slice oa n cap) n R) (hn : n ≤ 12) (k : Nat) (hk : k ≤ n) :
    Calls Tryd.prog 42 #[.slice oa n cap, .int .i64 (k : Int)] w fun e W' => ∃ v, e = .returned v ∧ Hid (Fnd R k (chF k (2 ^ n - 1)) w.heap.size W' v) ∧ Hid (Below w.heap.size w W') := callsIn_wide.1 (firstC hA hn k hk)
end
end Go.Proofs.YthjgbnehoiafhaaDoor.M

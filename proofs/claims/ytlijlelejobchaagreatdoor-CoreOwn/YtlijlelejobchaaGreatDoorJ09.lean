/- settle: a row goes to the least place that it can have. -/
import Derived.Test.YtlijlelejobchaaGreatDoorJ06
import Derived.Test.YtlijlelejobchaaGreatDoorJ08
import Derived.RangeFuncNested
import Derived.RangeFuncBound
import Derived.RangeFuncCalls
import Derived.RangeFuncLeaves
import Derived.RangeFuncBox
import Derived.Shelf.Abstract
import Derived.Shelf.RegionOpen
import Derived.Laws.Rows
namespace Go.Proofs.YtlijlelejobchaaGreatDoor.M
open Go.RowKit Go.Shelf
attribute [local go_sem] Oper.semAt_some
theorem allSeq (x : Nat) (w : World) :
    Calls Tryz.prog 101 #[.agg #[.int .u64 x]] w fun e w' => ∃ b, e = .returned (.func (.func 109) #[] #[.pointer (some ⟨b, 0, none⟩)]) ∧ Boxed w' b 142 (.int .u64 x) ∧ w.heap.size ≤ b ∧ Below w.heap.size w w' :=
  (all64 x w).mono fun _ _ ⟨h1, h2⟩ => ⟨_, h1, by subst h2; exact ⟨Boxed.new _ _ _, Nat.le_refl _, (Below.refl _ _).alloc (Nat.le_refl _) _⟩⟩
theorem Fr2.own {W1 W W' : World} {gm : Nat} {row : Option Nat} (h : Fr2 W1 W gm gm) (hg : W.grownBy W' row) (hr : ∀ r, row = some r → W1.heap.size ≤ r) : Fr2 W1 W' gm gm :=
  ⟨hg.os.trans h.os, hg.tape.trans h.tape, hg.output.trans h.output, Nat.le_trans h.size hg.size, fun k hk h1 h2 => (hg.block k (Nat.lt_of_lt_of_le hk h.size) (fun e => by have := hr k e.symm; omega)).trans (h.block k hk h1 h2)⟩
theorem MAt.own {W1 W W' : World} {gm : Nat} {rv : Value} {pl : Nat → Nat} {ow : Nat → Option Nat} {row : Option Nat} (h : MAt W gm rv pl ow) (hl : gm < W1.heap.size) (hg : W.grownBy W' row) (hr : ∀ r, row = some r → W1.heap.size ≤ r) : MAt W' gm rv pl ow :=
  h.of (hg.block gm h.lt (fun e => by have := hr gm e.symm; omega))
theorem Fr2.keeps {W W' : World} {gm : Nat} {rv : Value} {pl : Nat → Nat} {ow : Nat → Option Nat} (h : Fr2 W W' gm gm) (hm : MAt W gm rv pl ow) : KeepsOthers W W' :=
  ⟨h.size, fun k o hk ho => by
    obtain ⟨c, hb, _⟩ := hm
    have hne : k ≠ gm := fun e => by
      subst e
      rw [hb] at hk
      cases hk
      simp [Obj.isCells] at ho
    exact (h.block k (Array.getElem?_eq_some_iff.1 hk).1 hne hne).trans hk⟩
theorem keepS {W0 W w1 : World} {b0 b1 b2 b3 o0 o1 o2 o3 : Nat} {v0 v1 v2 v3 : Value} (h : W.cell? ⟨b0, o0, none⟩ = some v0 ∧ W.cell? ⟨b1, o1, none⟩ = some v1 ∧ W.cell? ⟨b2, o2, none⟩ = some v2 ∧ W.cell? ⟨b3, o3, none⟩ = some v3 ∧ Below W0.heap.size W0 W) (hb : Below W.heap.size W w1) :
    w1.cell? ⟨b0, o0, none⟩ = some v0 ∧ w1.cell? ⟨b1, o1, none⟩ = some v1 ∧ w1.cell? ⟨b2, o2, none⟩ = some v2 ∧ w1.cell? ⟨b3, o3, none⟩ = some v3 ∧ Below W0.heap.size W0 w1 :=
  ⟨cell_over h.1 hb, cell_over h.2.1 hb, cell_over h.2.2.1 hb, cell_over h.2.2.2.1 hb, h.2.2.2.2.trans (hb.mono h.2.2.2.2.size)⟩
theorem bxS {W W' : World} {b n : Nat} {t : TypeId} {v : Value} (h : Boxed W b t v) (hb : Below n W W') (hn : b < n) : Boxed W' b t v := (hb.block b hn).trans h
theorem box_other {W : World} {b a o : Nat} {t : TypeId} {u : Value} (h : Boxed W b t u) (hne : b ≠ a) (v : Value) : Boxed (W.setCell ⟨a, o, none⟩ v) b t u := (Below.heap_setCell W ⟨a, o, none⟩ v b hne).trans h
theorem keepsO {W w1 : World} (h : Below W.heap.size W w1) : KeepsOthers W w1 :=
  ⟨h.size, fun k _ hk _ => (h.block k (Array.getElem?_eq_some_iff.1 hk).1).trans hk⟩
theorem wpListIn_load_row {F : Fence} {n : Nat} {P : Program} {ops : Array Oper} {rest : List Oper} {o : Oper} {a : Act} {w : World} {Q : Exit → Act → World → Prop} (hg : o.guard = none) (ty : TypeId) (x : Operand) (ho : o.op = .load ty x) (g : Nat) (hx : a.eval x = .pointer (some ⟨g, 0, none⟩)) (A : Array Value)
    (hl : (loadVar ty ⟨g, 0, none⟩).run P w = .ok (.agg A) w) (h : wpListIn F n P ops Q rest (a.put o.dst (.agg A)) w) : wpListIn F n P ops Q (o :: rest) a w := by
  refine wpListIn_plain hg fun K hK => ?_
  unfold Oper.wpIn
  refine ⟨by simp [Oper.about, ho], ?_⟩
  rw [Oper.semAt_plain F _ _ (by rw [ho]; intro c hc; cases hc)]
  simp only [execOp, ho, hx, Instr.loadAt, Instr.sureAddr, Sem.run_bind, Sem.run_pure, Result.andThen_ok, hl]
  exact hK _ _ h
theorem infoMk : (Tryz.prog.info? 123).map (·.size) = some 64 := by kernel_rfl
theorem heap_newM (w : World) (o : Obj) : (w.alloc o).heap[w.heap.size]? = some o := World.alloc_heap_new w o
/-- What stands between the tries. -/
structure SeI (W0 W1 : World) (gm : Nat) (rv : Value) (n : Nat) (R : Nat → Nat) (ow : Nat → Option Nat) (pl : Nat → Nat) (V : World) : Prop where
  fr : Fr2 W1 V gm gm
  mat : MAt V gm rv pl ow
  st : Wst n R ow pl (fun r => r < n) No
theorem SeI.own {W0 W1 : World} {gm : Nat} {rv : Value} {n : Nat} {R : Nat → Nat} {ow : Nat → Option Nat} {pl : Nat → Nat} (hl : gm < W1.heap.size) {W W' : World} {row : Option Nat} (h : SeI W0 W1 gm rv n R ow pl W) (hg : W.grownBy W' row) (hr : ∀ r, row = some r → W1.heap.size ≤ r ∧ ∃ o : Obj, W.heap[r]? = some o ∧ o.isCells = false) : SeI W0 W1 gm rv n R ow pl W' :=
  ⟨h.fr.own hg fun r e => (hr r e).1, h.mat.own hl hg fun r e => (hr r e).1, h.st⟩
theorem SeI.mst {W0 W1 : World} {gm : Nat} {rv : Value} {n : Nat} {R : Nat → Nat} {ow : Nat → Option Nat} {pl : Nat → Nat} {V : World} (h : SeI W0 W1 gm rv n R ow pl V) (hb : Below W0.heap.size W0 W1) (hg : W0.heap.size ≤ gm) : MSt W0 V gm rv n R ow pl (fun r => r < n) :=
  ⟨h.fr.new hb hg hg hb.size, hg, h.mat, h.st⟩
theorem Fr2.cell {W W' : World} {gm b o : Nat} {v : Value} (h : Fr2 W W' gm gm) (hc : W.cell? ⟨b, o, none⟩ = some v) (hne : b ≠ gm) : W'.cell? ⟨b, o, none⟩ = some v := by
  rw [← hc]
  have := h.block b (cell_lt hc) hne hne
  simp only [World.cell?, this]
set_option maxRecDepth 100000 in
set_option maxHeartbeats 4000000 in
theorem settleC (W0 W : World) (gm : Nat) (rv : Value) (n : Nat) (R : Nat → Nat) (ow : Nat → Option Nat) (pl : Nat → Nat) (S : Nat → Bool) (row : Nat) (A : Array Value) (hV : MkV A S) (hA : RwA W0 rv n R) (hM : MSt W0 W gm rv n R ow pl (fun r => r < n)) (hn : n ≤ 12) (hr : row < n)
    (hS : ∀ v, S v = true → ∃ j, j < n ∧ pl j = v) (hSr : S (pl row) = false) :
    CallsIn Fence.wide 9 Tryz.prog 86 #[.pointer (some ⟨gm, 0, none⟩), .int .i64 (row : Int), .agg A] W fun e w' => ∃ ow' pl', e = .returned (.int .i64 (pl' row : Int)) ∧ Hid (MSt W0 w' gm rv n R ow' pl' (fun r => r < n)) ∧ Hid ((∀ v, S v = true → ow' v = ow v) ∧ ∀ u, u < pl' row → (R row).testBit u = true → NoM n R S pl row u) ∧ Hid (Fr2 W w' gm gm) := by
  have h3 := hA.tab.2
  have hmx : Tryz.prog.follows Departure.mixedOrders = true := by kernel_rfl
  obtain ⟨oa, cap, rfl, hrw⟩ := hA.rw
  obtain ⟨g, o, rfl, hcr⟩ := hrw row hr
  have hgm := hM.mat.lt
  refine callsIn_of_wp_marks Tryz.func86 rfl trivial ?_ rfl
  refine wpIn_wide.2 ?_
  simp only [Tryz.ntmps86, List.size_toArray, List.length_cons, List.length_nil, Nat.reduceAdd, Nat.reduceSub, Array.replicate_succ, Array.replicate_zero, List.push_toArray, List.append_toArray, List.nil_append, List.cons_append]
  go_wp2
  have hBa : Below W.heap.size W (((W.alloc (.cells #[.pointer (some ⟨gm, 0, none⟩)] 119)).alloc (.cells #[.int .i64 (row : Int)] 3)).alloc (.cells A 123)) := (((Below.refl _ W).alloc (Nat.le_refl _) _).alloc (by simp) _).alloc (by simp; omega) _
  have q0 := ((Boxed.new W 119 (.pointer (some ⟨gm, 0, none⟩))).alloc (.cells #[.int .i64 (row : Int)] 3)).alloc (.cells A 123)
  have q1 := (Boxed.new (W.alloc (.cells #[.pointer (some ⟨gm, 0, none⟩)] 119)) 3 (.int .i64 (row : Int))).alloc (.cells A 123)
  have q2 := heap_newM ((W.alloc (.cells #[.pointer (some ⟨gm, 0, none⟩)] 119)).alloc (.cells #[.int .i64 (row : Int)] 3)) (.cells A 123)
  simp only [World.size_alloc] at q1 q2
  generalize hWa : ((W.alloc (.cells #[.pointer (some ⟨gm, 0, none⟩)] 119)).alloc (.cells #[.int .i64 (row : Int)] 3)).alloc (.cells A 123) = Wa at *
  have hsa : Wa.heap.size = W.heap.size + 1 + 1 + 1 := by rw [← hWa]; simp
  clear hWa
  have hMa := hM.mat.below hBa
  have hOld : Below W0.heap.size W0 Wa := hM.old.trans (hBa.mono hM.old.size)
  have c0 := q0.cell
  have c1 := q1.cell
  have c2 := hMa.cell0
  have c3 := cell_over hcr hOld
  have hM' := hide' hM
  have hA' := hide' hA
  have hS' := hide' hS
  have hMa' := hide' hMa
  have hx := hA.word row
  have hbt := hide' hA.bit
  have hk0 : Hid (Wa.cell? ⟨W.heap.size, 0, none⟩ = some (.pointer (some ⟨gm, 0, none⟩)) ∧ Wa.cell? ⟨W.heap.size + 1, 0, none⟩ = some (.int .i64 (row : Int)) ∧ Wa.cell? ⟨gm, 0, none⟩ = some (.slice (some ⟨g, o, none⟩) n cap) ∧ Wa.cell? ⟨g, o + row, none⟩ = some (.int .u64 (R row : Int)) ∧ Below Wa.heap.size Wa Wa) := ⟨c0, c1, c2, c3, Below.refl _ _⟩
  have hrn : (row : Int) < (n : Int) := by omega
  clear hM hA hS hMa c0 c1 c2 c3 hcr hrw
  obtain ⟨x, hxe⟩ : ∃ x, x = R row := ⟨_, rfl⟩
  rw [← hxe] at hk0 hx
  have hxe' := hide' hxe
  clear hxe
  go_region_held3 (fun V => V.cell? ⟨W.heap.size, 0, none⟩ = some (.pointer (some ⟨gm, 0, none⟩)) ∧ V.cell? ⟨W.heap.size + 1, 0, none⟩ = some (.int .i64 (row : Int)) ∧ V.cell? ⟨gm, 0, none⟩ = some (.slice (some ⟨g, o, none⟩) n cap) ∧ V.cell? ⟨g, o + row, none⟩ = some (.int .u64 (x : Int)) ∧ Below Wa.heap.size Wa V) (first | (exact keepS (by assumption) hb) | (exact keepS (keepS hk0.out (Below.refl _ _).drew) hb) | (exact keepS hk0.out (Below.refl _ _).drew) | (exact hk0.out)) (first | (go_at_call 100; refine (ofC _ _).mono ?_; rintro e w1 ⟨rfl, hb⟩) | (go_at_call 101; refine (allSeq x _).mono ?_; rintro e w1 ⟨bb, rfl, hbox, hbb, hb⟩))
  all_goals go_wp2
  have hSS := ‹w1.cell? ⟨W.heap.size, 0, none⟩ = some (.pointer (some ⟨gm, 0, none⟩)) ∧ w1.cell? ⟨W.heap.size + 1, 0, none⟩ = some (.int .i64 (row : Int)) ∧ w1.cell? ⟨gm, 0, none⟩ = some (.slice (some ⟨g, o, none⟩) n cap) ∧ w1.cell? ⟨g, o + row, none⟩ = some (.int .u64 (x : Int)) ∧ Below Wa.heap.size Wa w1›.2.2.2.2
  have hz1 := hSS.size
  have hB1 : Below W.heap.size W w1 := hBa.trans (hSS.mono (by omega))
  have hO1 : Below W0.heap.size W0 w1 := hOld.trans (hSS.mono hOld.size)
  have z1 := hbox.lt
  have hb3 : Wa.heap.size ≤ bb := by
    rename_i V9 _
    exact Nat.le_trans (show Wa.heap.size ≤ _ from V9.size) hbb
  have hI0 : SeI W0 w1 gm (.slice (some ⟨g, o, none⟩) n cap) n R ow pl w1 := ⟨Fr2.refl _ _ _, hM'.out.mat.below hB1, hM'.out.st⟩
  have k0 := bxS q0 hSS (by omega)
  have k1 := bxS q1 hSS (by omega)
  have k2 := (hSS.block (W.heap.size + 1 + 1) (by omega)).trans q2
  have ht1 : Tab w1 := hA'.out.tab.over hO1
  have hMold := hM'.out.old.size
  have hMnew := hM'.out.new
  clear hSS hk0 hb hbb q0 q1 q2 hMa' hOld hBa
  refine (wpIn_wide (n := 9)).1 ?_
  refine wpIn_rangeFunc_ownG rfl (by decide) (gf := 109) (lb := #[.pointer (some ⟨bb, 0, none⟩)]) rfl trivial (enters_of Tryz.func109 (by kernel_rfl) rfl)
    (all_mem 8 bb x hx w1 z1 ht1 hbox.cell) KpB.t (KpB.b z1 (by omega)) (Below.refl _ _) (fun _ => rfl)
    (fun pre V => SeI W0 w1 gm (.slice (some ⟨g, o, none⟩) n cap) n R ow pl V ∧ Hid (∀ j ∈ pre, NoM n R S pl row j.val.val))
    (fun c pre V => c = .exit 0 ∧ ∃ ow' pl' p k, pre = p ++ [k] ∧ SeI W0 w1 gm (.slice (some ⟨g, o, none⟩) n cap) n R ow' pl' V ∧ Hid (pl' row = k.val.val ∧ (∀ v, S v = true → ow' v = ow v) ∧ ∀ j ∈ p, NoM n R S pl row j.val.val))
    (OwnFrom.and (fun _ X Y row h hg hr => h.own (by omega) hg hr) (fun _ _ _ _ h _ _ => h))
    (fun c pre X Y row h hg hr => by
      obtain ⟨h1, ow', pl', p, k, h2, h3, h4⟩ := h
      exact ⟨h1, ow', pl', p, k, h2, h3.own (by omega) hg hr, h4⟩)
    ⟨hI0, fun j h => by cases h⟩
    ?a1 ?assign ?body ?done ?stop
  case assign =>
    intro l j V K hK
    gi_wp2
    exact hK
  case body =>
    rintro l pre k V ⟨hI, hpre⟩ hlt
    have hk64 := k.val.isLt
    have hbk : (R row).testBit k.val.val = true := by rw [← hxe'.out]; exact (mem_nums _ _).1 k.property
    have d0 := hI.fr.cell k0.cell (by omega)
    have d1 := hI.fr.cell k1.cell (by omega)
    have hl : (loadVar 123 ⟨W.heap.size + 1 + 1, 0, none⟩).run Tryz.prog V = .ok (.agg A) V :=
      run_loadVar_row V _ _ _ A _ _ ((hI.fr.block _ (by have := k1.lt; omega) (by omega) (by omega)).trans k2) Tryz.underlying123 rfl (by rw [hV.1]; exact infoMk)
    have KM := hide' (moveF W0 V gm (.slice (some ⟨g, o, none⟩) n cap) n R ow pl S row k.val.val A hV hA'.out (hI.mst hO1 hMnew) hn hr hk64 hbk hS'.out hSr)
    have hI' := hide' hI
    have hin' : Hid (∀ j ∈ pre ++ [k], j ∈ pre ∨ j = k) := fun j hj => by
      rcases List.mem_append.1 hj with h | h
      · exact .inl h
      · exact .inr (List.mem_singleton.1 h)
    generalize hkk : k.val.val = kk at *
    have hkk' := hide' hkk
    clear hI hlt hkk
    gi_wp2_with (first | (refine wpListIn_load_row rfl 123 _ rfl (W.heap.size + 1 + 1) rfl A hl ?_) | (refine ⟨trivial, ?_⟩; gi_at_call 102; refine (CallsIn.inRound l (callsIn_wide.2 KM.out)).mono ?_; rintro e w3 ⟨hF3, (⟨rfl, ow', pl', hM3, hP3⟩ | ⟨rfl, hM3, hN3⟩)⟩))
    · refine ⟨((hF3.out.keeps hI'.out.mat)).from _, rfl, ow', pl', pre, k, rfl, ⟨hI'.out.fr.trans hF3.out, hM3.out.mat, hM3.out.st⟩, hP3.out.1.trans hkk'.out.symm, hP3.out.2, hpre.out⟩
    · refine ⟨((hF3.out.keeps hI'.out.mat)).from _, ⟨?_, fun h => Tab.fr2 h hF3.out (by omega) (by omega)⟩, ⟨hI'.out.fr.trans hF3.out, hM3.out.mat, hM3.out.st⟩, fun j hj => ?_⟩
      · have := hF3.out.block bb (Nat.lt_of_lt_of_le z1 hI'.out.fr.size) (by omega) (by omega)
        simp only [World.cell?, this]
      · rcases hin'.out j hj with h | h
        · exact hpre.out j h
        · subst h; rw [hkk'.out]; exact hN3.out
  case done =>
    rintro D ys V hD hys ⟨hI, hpre⟩ hK
    exfalso
    have hp := (hM'.out.st.own _ row id (hM'.out.st.has row hr).2)
    have hm : (⟨pl row, hp.1⟩ : Fin 64) ∈ plain ys := by rw [hys, mem_nums, hxe'.out]; exact hp.2.2.2.2
    obtain ⟨j, hj, hje⟩ := List.mem_map.1 hm
    have := hpre.out j hj pl hM'.out.st.full (fun _ _ _ => rfl)
    exact this (by rw [hje])
  case stop =>
    rintro D c pre V hD hSp ⟨rfl, ow', pl', p, k, rfl, hI, hP⟩ hK
    have d0 := hI.fr.cell k0.cell (by omega)
    have d1 := hI.fr.cell k1.cell (by omega)
    have d2 := hI.mat.cellP (r := row) (by omega)
    have hr12 : (row : Int) < 12 := by omega
    have hI' := hide' hI
    have hfin : Hid (∀ u, u < pl' row → (R row).testBit u = true → NoM n R S pl row u) := fun u hu hb => by
      have hSp' : plain p ++ [k.val] <+: nums x := by rw [← plain_snoc]; exact hSp
      obtain ⟨t, ht⟩ := hSp'
      have hs := sorted_nums x
      have hm : (⟨u, hbt.out row u hb⟩ : Fin 64) ∈ nums x := by rw [mem_nums, hxe'.out]; exact hb
      rw [← ht, List.append_assoc] at hm hs
      have hku : u < k.val.val := by rw [← hP.out.1]; exact hu
      rcases List.mem_append.1 hm with h | h
      · obtain ⟨j, hj, hje⟩ := List.mem_map.1 h
        have := hP.out.2.2 j hj
        rw [hje] at this
        exact this
      · exfalso
        rcases List.mem_append.1 h with h | h
        · have := List.mem_singleton.1 h
          have := congrArg Fin.val this
          simp only at this
          omega
        · have h2 : k.val < (⟨u, hbt.out row u hb⟩ : Fin 64) := (List.pairwise_append.1 (List.pairwise_append.1 hs).2.1).2.2 k.val (by simp) _ h
          have : k.val.val < u := h2
          omega
    clear hI hSp
    have hID : SeI W0 w1 gm (.slice (some ⟨g, o, none⟩) n cap) n R ow' pl' V.drew := ⟨hI'.out.fr.trans (Fr2.below (Below.refl _ _).drew), World.rowIs.drew hI'.out.mat, hI'.out.st⟩
    have hI2 := hide' (hID.own (row := some D) (by omega) (grownBy_putObj' V.drew D (.deferred none)) (fun r e => by cases e; exact ⟨hD, _, hK, rfl⟩))
    have hK' := hide' hK
    clear hID hK
    gi_wp2
    go_wp2
    go_region
    go_wp2
    refine ⟨by simp, .inl ⟨_, _, rfl, run_takeDeferred (w := V.drew) hK'.out, ?_⟩⟩
    refine ⟨.int .i64 (pl' row : Int), by simp [results, Tryz.results86, go_sem], ow', pl', rfl, hI2.out.mst hO1 hMnew, ⟨hP.out.2.1, hfin.out⟩, (Fr2.below hB1).trans hI2.out.fr⟩
/-- What settle answers. -/
def SetP (W0 W : World) (gm : Nat) (rv : Value) (n : Nat) (R : Nat → Nat) (ow : Nat → Option Nat) (pl : Nat → Nat) (S : Nat → Bool) (row : Nat) (e : Ending) (w' : World) : Prop :=
  ∃ ow' pl', e = .returned (.int .i64 (pl' row : Int)) ∧ Hid (MSt W0 w' gm rv n R ow' pl' (fun r => r < n)) ∧ Hid ((∀ v, S v = true → ow' v = ow v) ∧ ∀ u, u < pl' row → (R row).testBit u = true → NoM n R S pl row u) ∧ Hid (Fr2 W w' gm gm)
theorem settleF (W0 W : World) (gm : Nat) (rv : Value) (n : Nat) (R : Nat → Nat) (ow : Nat → Option Nat) (pl : Nat → Nat) (S : Nat → Bool) (row : Nat) (A : Array Value) (hV : MkV A S) (hA : RwA W0 rv n R) (hM : MSt W0 W gm rv n R ow pl (fun r => r < n)) (hn : n ≤ 12) (hr : row < n)
    (hS : ∀ v, S v = true → ∃ j, j < n ∧ pl j = v) (hSr : S (pl row) = false) :
    Calls Tryz.prog 86 #[.pointer (some ⟨gm, 0, none⟩), .int .i64 (row : Int), .agg A] W (SetP W0 W gm rv n R ow pl S row) := callsIn_wide.1 (settleC W0 W gm rv n R ow pl S row A hV hA hM hn hr hS hSr)
end Go.Proofs.YtlijlelejobchaaGreatDoor.M

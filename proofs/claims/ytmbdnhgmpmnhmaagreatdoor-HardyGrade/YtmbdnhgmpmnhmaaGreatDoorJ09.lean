/- Places: the numbers, rising, in new memory. -/
import Derived.Test.YtmbdnhgmpmnhmaaGreatDoorJ05
import Derived.Test.YtmbdnhgmpmnhmaaGreatDoorJ06
import Derived.Test.YtmbdnhgmpmnhmaaGreatDoorJ08
import Derived.RangeFuncNested
import Derived.RangeFuncBound
import Derived.RangeFuncCalls
import Derived.RangeFuncLeaves
import Derived.RangeFuncBox
import Derived.Shelf.Abstract
import Derived.Shelf.RegionOpen
import Derived.Laws.Rows
namespace Go.Proofs.YtmbdnhgmpmnhmaaGreatDoor.M
open Go.RowKit Go.Shelf
attribute [local go_sem] Oper.semAt_some
theorem allSeq (x : Nat) (w : World) :
    Calls Tryz.prog 46 #[.agg #[.int .u64 x]] w fun e w' => ∃ b, e = .returned (.func (.func 60) #[] #[.pointer (some ⟨b, 0, none⟩)]) ∧ Boxed w' b 50 (.int .u64 x) ∧ w.heap.size ≤ b ∧ Below w.heap.size w w' :=
  (all64 x w).mono fun _ _ ⟨h1, h2⟩ => ⟨_, h1, by subst h2; exact ⟨Boxed.new _ _ _, Nat.le_refl _, (Below.refl _ _).alloc (Nat.le_refl _) _⟩⟩
theorem Fr2.own {W1 W W' : World} {gm : Nat} {row : Option Nat} (h : Fr2 W1 W gm gm) (hg : W.grownBy W' row) (hr : ∀ r, row = some r → W1.heap.size ≤ r) : Fr2 W1 W' gm gm :=
  ⟨hg.os.trans h.os, hg.tape.trans h.tape, hg.output.trans h.output, Nat.le_trans h.size hg.size, fun k hk h1 h2 => (hg.block k (Nat.lt_of_lt_of_le hk h.size) (fun e => by have := hr k e.symm; omega)).trans (h.block k hk h1 h2)⟩
theorem MAt.own {W1 W W' : World} {gm : Nat} {rv : Value} {pl : Nat → Nat} {ow : Nat → Option Nat} {row : Option Nat} (h : MAt W gm rv pl ow) (hl : gm < W1.heap.size) (hg : W.grownBy W' row) (hr : ∀ r, row = some r → W1.heap.size ≤ r) : MAt W' gm rv pl ow :=
  h.of (hg.block gm h.lt (fun e => by have := hr gm e.symm; omega))
theorem Fr2.keeps {W W' : World} {gm : Nat} {rv : Value} {pl : Nat → Nat} {ow : Nat → Option Nat} (h : Fr2 W W' gm gm) (hm : MAt W gm rv pl ow) : KeepsOthers W W' :=
  ⟨h.size, fun k o hk ho => by
    obtain ⟨c, hb, _⟩ := hm
    have hne : k ≠ gm := fun e => by
      subst e
      rw [hb] at hk
      cases hk
      simp [Obj.isCells] at ho
    exact (h.block k (Array.getElem?_eq_some_iff.1 hk).1 hne hne).trans hk⟩
theorem keepS {W0 W w1 : World} {b0 b1 b2 b3 o0 o1 o2 o3 : Nat} {v0 v1 v2 v3 : Value} (h : W.cell? ⟨b0, o0, none⟩ = some v0 ∧ W.cell? ⟨b1, o1, none⟩ = some v1 ∧ W.cell? ⟨b2, o2, none⟩ = some v2 ∧ W.cell? ⟨b3, o3, none⟩ = some v3 ∧ Below W0.heap.size W0 W) (hb : Below W.heap.size W w1) :
    w1.cell? ⟨b0, o0, none⟩ = some v0 ∧ w1.cell? ⟨b1, o1, none⟩ = some v1 ∧ w1.cell? ⟨b2, o2, none⟩ = some v2 ∧ w1.cell? ⟨b3, o3, none⟩ = some v3 ∧ Below W0.heap.size W0 w1 :=
  ⟨cell_over h.1 hb, cell_over h.2.1 hb, cell_over h.2.2.1 hb, cell_over h.2.2.2.1 hb, h.2.2.2.2.trans (hb.mono h.2.2.2.2.size)⟩
theorem bxS {W W' : World} {b n : Nat} {t : TypeId} {v : Value} (h : Boxed W b t v) (hb : Below n W W') (hn : b < n) : Boxed W' b t v := (hb.block b hn).trans h
theorem box_other {W : World} {b a o : Nat} {t : TypeId} {u : Value} (h : Boxed W b t u) (hne : b ≠ a) (v : Value) : Boxed (W.setCell ⟨a, o, none⟩ v) b t u := (Below.heap_setCell W ⟨a, o, none⟩ v b hne).trans h
theorem keepsO {W w1 : World} (h : Below W.heap.size W w1) : KeepsOthers W w1 :=
  ⟨h.size, fun k _ hk _ => (h.block k (Array.getElem?_eq_some_iff.1 hk).1).trans hk⟩
theorem wpListIn_load_row {F : Fence} {n : Nat} {P : Program} {ops : Array Oper} {rest : List Oper} {o : Oper} {a : Act} {w : World} {Q : Exit → Act → World → Prop} (hg : o.guard = none) (ty : TypeId) (x : Operand) (ho : o.op = .load ty x) (g : Nat) (hx : a.eval x = .pointer (some ⟨g, 0, none⟩)) (A : Array Value)
    (hl : (loadVar ty ⟨g, 0, none⟩).run P w = .ok (.agg A) w) (h : wpListIn F n P ops Q rest (a.put o.dst (.agg A)) w) : wpListIn F n P ops Q (o :: rest) a w := by
  refine wpListIn_plain hg fun K hK => ?_
  unfold Oper.wpIn
  refine ⟨by simp [Oper.about, ho], ?_⟩
  rw [Oper.semAt_plain F _ _ (by rw [ho]; intro c hc; cases hc)]
  simp only [execOp, ho, hx, Instr.loadAt, Instr.sureAddr, Sem.run_bind, Sem.run_pure, Result.andThen_ok, hl]
  exact hK _ _ h
theorem infoMk : (Tryz.prog.info? 128).map (·.size) = some 64 := by kernel_rfl
theorem heap_newM (w : World) (o : Obj) : (w.alloc o).heap[w.heap.size]? = some o := World.alloc_heap_new w o
/-- What stands between the tries. -/
structure SeI (W0 W1 : World) (gm : Nat) (rv : Value) (n : Nat) (R : Nat → Nat) (ow : Nat → Option Nat) (pl : Nat → Nat) (V : World) : Prop where
  fr : Fr2 W1 V gm gm
  mat : MAt V gm rv pl ow
  st : Wst n R ow pl (fun r => r < n) No
theorem SeI.own {W0 W1 : World} {gm : Nat} {rv : Value} {n : Nat} {R : Nat → Nat} {ow : Nat → Option Nat} {pl : Nat → Nat} (hl : gm < W1.heap.size) {W W' : World} {row : Option Nat} (h : SeI W0 W1 gm rv n R ow pl W) (hg : W.grownBy W' row) (hr : ∀ r, row = some r → W1.heap.size ≤ r ∧ ∃ o : Obj, W.heap[r]? = some o ∧ o.isCells = false) : SeI W0 W1 gm rv n R ow pl W' :=
  ⟨h.fr.own hg fun r e => (hr r e).1, h.mat.own hl hg fun r e => (hr r e).1, h.st⟩
theorem SeI.mst {W0 W1 : World} {gm : Nat} {rv : Value} {n : Nat} {R : Nat → Nat} {ow : Nat → Option Nat} {pl : Nat → Nat} {V : World} (h : SeI W0 W1 gm rv n R ow pl V) (hb : Below W0.heap.size W0 W1) (hg : W0.heap.size ≤ gm) : MSt W0 V gm rv n R ow pl (fun r => r < n) :=
  ⟨h.fr.new hb hg hg hb.size, hg, h.mat, h.st⟩
theorem Fr2.cell {W W' : World} {gm b o : Nat} {v : Value} (h : Fr2 W W' gm gm) (hc : W.cell? ⟨b, o, none⟩ = some v) (hne : b ≠ gm) : W'.cell? ⟨b, o, none⟩ = some v := by
  rw [← hc]
  have := h.block b (cell_lt hc) hne hne
  simp only [World.cell?, this]
set_option maxRecDepth 100000 in
set_option maxHeartbeats 4000000 in
theorem settleC (W0 W : World) (gm : Nat) (rv : Value) (n : Nat) (R : Nat → Nat) (ow : Nat → Option Nat) (pl : Nat → Nat) (S : Nat → Bool) (row : Nat) (A : Array Value) (hV : MkV A S) (hA : RwA W0 rv n R) (hM : MSt W0 W gm rv n R ow pl (fun r => r < n)) (hn : n ≤ 12) (hr : row < n)
    (hS : ∀ v, S v = true → ∃ j, j < n ∧ pl j = v) (hSr : S (pl row) = false) :
    CallsIn Fence.wide 9 Tryz.prog 99 #[.pointer (some ⟨gm, 0, none⟩), .int .i64 (row : Int), .agg A] W fun e w' => ∃ ow' pl', e = .returned (.int .i64 (pl' row : Int)) ∧ Hid (MSt W0 w' gm rv n R ow' pl' (fun r => r < n)) ∧ Hid ((∀ v, S v = true → ow' v = ow v) ∧ ∀ u, u < pl' row → (R row).testBit u = true → NoM n R S pl row u) ∧ Hid (Fr2 W w' gm gm) := by
  have h3 := hA.tab.2
  have hmx : Tryz.prog.follows Departure.mixedOrders = true := by kernel_rfl
  obtain ⟨oa, cap, rfl, hrw⟩ := hA.rw
  obtain ⟨g, o, rfl, hcr⟩ := hrw row hr
  have hgm := hM.mat.lt
  refine callsIn_of_wp_marks Tryz.func99 rfl trivial ?_ rfl
  refine wpIn_wide.2 ?_
  simp only [Tryz.ntmps99, List.size_toArray, List.length_cons, List.length_nil, Nat.reduceAdd, Nat.reduceSub, Array.replicate_succ, Array.replicate_zero, List.push_toArray, List.append_toArray, List.nil_append, List.cons_append]
  go_wp2
  have hBa : Below W.heap.size W (((W.alloc (.cells #[.pointer (some ⟨gm, 0, none⟩)] 124)).alloc (.cells #[.int .i64 (row : Int)] 3)).alloc (.cells A 128)) := (((Below.refl _ W).alloc (Nat.le_refl _) _).alloc (by simp) _).alloc (by simp; omega) _
  have q0 := ((Boxed.new W 124 (.pointer (some ⟨gm, 0, none⟩))).alloc (.cells #[.int .i64 (row : Int)] 3)).alloc (.cells A 128)
  have q1 := (Boxed.new (W.alloc (.cells #[.pointer (some ⟨gm, 0, none⟩)] 124)) 3 (.int .i64 (row : Int))).alloc (.cells A 128)
  have q2 := heap_newM ((W.alloc (.cells #[.pointer (some ⟨gm, 0, none⟩)] 124)).alloc (.cells #[.int .i64 (row : Int)] 3)) (.cells A 128)
  simp only [World.size_alloc] at q1 q2
  generalize hWa : ((W.alloc (.cells #[.pointer (some ⟨gm, 0, none⟩)] 124)).alloc (.cells #[.int .i64 (row : Int)] 3)).alloc (.cells A 128) = Wa at *
  have hsa : Wa.heap.size = W.heap.size + 1 + 1 + 1 := by rw [← hWa]; simp
  clear hWa
  have hMa := hM.mat.below hBa
  have hOld : Below W0.heap.size W0 Wa := hM.old.trans (hBa.mono hM.old.size)
  have c0 := q0.cell
  have c1 := q1.cell
  have c2 := hMa.cell0
  have c3 := cell_over hcr hOld
  have hM' := hide' hM
  have hA' := hide' hA
  have hS' := hide' hS
  have hMa' := hide' hMa
  have hx := hA.word row
  have hbt := hide' hA.bit
  have hk0 : Hid (Wa.cell? ⟨W.heap.size, 0, none⟩ = some (.pointer (some ⟨gm, 0, none⟩)) ∧ Wa.cell? ⟨W.heap.size + 1, 0, none⟩ = some (.int .i64 (row : Int)) ∧ Wa.cell? ⟨gm, 0, none⟩ = some (.slice (some ⟨g, o, none⟩) n cap) ∧ Wa.cell? ⟨g, o + row, none⟩ = some (.int .u64 (R row : Int)) ∧ Below Wa.heap.size Wa Wa) := ⟨c0, c1, c2, c3, Below.refl _ _⟩
  have hrn : (row : Int) < (n : Int) := by omega
  clear hM hA hS hMa c0 c1 c2 c3 hcr hrw
  obtain ⟨x, hxe⟩ : ∃ x, x = R row := ⟨_, rfl⟩
  rw [← hxe] at hk0 hx
  have hxe' := hide' hxe
  clear hxe
  go_region_held3 (fun V => V.cell? ⟨W.heap.size, 0, none⟩ = some (.pointer (some ⟨gm, 0, none⟩)) ∧ V.cell? ⟨W.heap.size + 1, 0, none⟩ = some (.int .i64 (row : Int)) ∧ V.cell? ⟨gm, 0, none⟩ = some (.slice (some ⟨g, o, none⟩) n cap) ∧ V.cell? ⟨g, o + row, none⟩ = some (.int .u64 (x : Int)) ∧ Below Wa.heap.size Wa V) (first | (exact keepS (by assumption) hb) | (exact keepS (keepS hk0.out (Below.refl _ _).drew) hb) | (exact keepS hk0.out (Below.refl _ _).drew) | (exact hk0.out)) (first | (go_at_call 115; refine (ofC _ _).mono ?_; rintro e w1 ⟨rfl, hb⟩) | (go_at_call 46; refine (allSeq x _).mono ?_; rintro e w1 ⟨bb, rfl, hbox, hbb, hb⟩))
  all_goals go_wp2
  have hSS := ‹w1.cell? ⟨W.heap.size, 0, none⟩ = some (.pointer (some ⟨gm, 0, none⟩)) ∧ w1.cell? ⟨W.heap.size + 1, 0, none⟩ = some (.int .i64 (row : Int)) ∧ w1.cell? ⟨gm, 0, none⟩ = some (.slice (some ⟨g, o, none⟩) n cap) ∧ w1.cell? ⟨g, o + row, none⟩ = some (.int .u64 (x : Int)) ∧ Below Wa.heap.size Wa w1›.2.2.2.2
  have hz1 := hSS.size
  have hB1 : Below W.heap.size W w1 := hBa.trans (hSS.mono (by omega))
  have hO1 : Below W0.heap.size W0 w1 := hOld.trans (hSS.mono hOld.size)
  have z1 := hbox.lt
  have hb3 : Wa.heap.size ≤ bb := by
    rename_i V9 _
    exact Nat.le_trans (show Wa.heap.size ≤ _ from V9.size) hbb
  have hI0 : SeI W0 w1 gm (.slice (some ⟨g, o, none⟩) n cap) n R ow pl w1 := ⟨Fr2.refl _ _ _, hM'.out.mat.below hB1, hM'.out.st⟩
  have k0 := bxS q0 hSS (by omega)
  have k1 := bxS q1 hSS (by omega)
  have k2 := (hSS.block (W.heap.size + 1 + 1) (by omega)).trans q2
  have ht1 : Tab w1 := hA'.out.tab.over hO1
  have hMold := hM'.out.old.size
  have hMnew := hM'.out.new
  clear hSS hk0 hb hbb q0 q1 q2 hMa' hOld hBa
  refine (wpIn_wide (n := 9)).1 ?_
  refine wpIn_rangeFunc_ownG rfl (by decide) (gf := 60) (lb := #[.pointer (some ⟨bb, 0, none⟩)]) rfl trivial (enters_of Tryz.func60 (by kernel_rfl) rfl)
    (all_mem 8 bb x hx w1 z1 ht1 hbox.cell) KpB.t (KpB.b z1 (by omega)) (Below.refl _ _) (fun _ => rfl)
    (fun pre V => SeI W0 w1 gm (.slice (some ⟨g, o, none⟩) n cap) n R ow pl V ∧ Hid (∀ j ∈ pre, NoM n R S pl row j.val.val))
    (fun c pre V => c = .exit 0 ∧ ∃ ow' pl' p k, pre = p ++ [k] ∧ SeI W0 w1 gm (.slice (some ⟨g, o, none⟩) n cap) n R ow' pl' V ∧ Hid (pl' row = k.val.val ∧ (∀ v, S v = true → ow' v = ow v) ∧ ∀ j ∈ p, NoM n R S pl row j.val.val))
    (OwnFrom.and (fun _ X Y row h hg hr => h.own (by omega) hg hr) (fun _ _ _ _ h _ _ => h))
    (fun c pre X Y row h hg hr => by
      obtain ⟨h1, ow', pl', p, k, h2, h3, h4⟩ := h
      exact ⟨h1, ow', pl', p, k, h2, h3.own (by omega) hg hr, h4⟩)
    ⟨hI0, fun j h => by cases h⟩
    ?a1 ?assign ?body ?done ?stop
  case assign =>
    intro l j V K hK
    gi_wp2
    exact hK
  case body =>
    rintro l pre k V ⟨hI, hpre⟩ hlt
    have hk64 := k.val.isLt
    have hbk : (R row).testBit k.val.val = true := by rw [← hxe'.out]; exact (mem_nums _ _).1 k.property
    have d0 := hI.fr.cell k0.cell (by omega)
    have d1 := hI.fr.cell k1.cell (by omega)
    have hl : (loadVar 128 ⟨W.heap.size + 1 + 1, 0, none⟩).run Tryz.prog V = .ok (.agg A) V :=
      run_loadVar_row V _ _ _ A _ _ ((hI.fr.block _ (by have := k1.lt; omega) (by omega) (by omega)).trans k2) Tryz.underlying128 rfl (by rw [hV.1]; exact infoMk)
    have KM := hide' (moveF W0 V gm (.slice (some ⟨g, o, none⟩) n cap) n R ow pl S row k.val.val A hV hA'.out (hI.mst hO1 hMnew) hn hr hk64 hbk hS'.out hSr)
    have hI' := hide' hI
    have hin' : Hid (∀ j ∈ pre ++ [k], j ∈ pre ∨ j = k) := fun j hj => by
      rcases List.mem_append.1 hj with h | h
      · exact .inl h
      · exact .inr (List.mem_singleton.1 h)
    generalize hkk : k.val.val = kk at *
    have hkk' := hide' hkk
    clear hI hlt hkk
    gi_wp2_with (first | (refine wpListIn_load_row rfl 128 _ rfl (W.heap.size + 1 + 1) rfl A hl ?_) | (refine ⟨trivial, ?_⟩; gi_at_call 116; refine (CallsIn.inRound l (callsIn_wide.2 KM.out)).mono ?_; rintro e w3 ⟨hF3, (⟨rfl, ow', pl', hM3, hP3⟩ | ⟨rfl, hM3, hN3⟩)⟩))
    · refine ⟨((hF3.out.keeps hI'.out.mat)).from _, rfl, ow', pl', pre, k, rfl, ⟨hI'.out.fr.trans hF3.out, hM3.out.mat, hM3.out.st⟩, hP3.out.1.trans hkk'.out.symm, hP3.out.2, hpre.out⟩
    · refine ⟨((hF3.out.keeps hI'.out.mat)).from _, ⟨?_, fun h => Tab.fr2 h hF3.out (by omega) (by omega)⟩, ⟨hI'.out.fr.trans hF3.out, hM3.out.mat, hM3.out.st⟩, fun j hj => ?_⟩
      · have := hF3.out.block bb (Nat.lt_of_lt_of_le z1 hI'.out.fr.size) (by omega) (by omega)
        simp only [World.cell?, this]
      · rcases hin'.out j hj with h | h
        · exact hpre.out j h
        · subst h; rw [hkk'.out]; exact hN3.out
  case done =>
    rintro D ys V hD hys ⟨hI, hpre⟩ hK
    exfalso
    have hp := (hM'.out.st.own _ row id (hM'.out.st.has row hr).2)
    have hm : (⟨pl row, hp.1⟩ : Fin 64) ∈ plain ys := by rw [hys, mem_nums, hxe'.out]; exact hp.2.2.2.2
    obtain ⟨j, hj, hje⟩ := List.mem_map.1 hm
    have := hpre.out j hj pl hM'.out.st.full (fun _ _ _ => rfl)
    exact this (by rw [hje])
  case stop =>
    rintro D c pre V hD hSp ⟨rfl, ow', pl', p, k, rfl, hI, hP⟩ hK
    have d0 := hI.fr.cell k0.cell (by omega)
    have d1 := hI.fr.cell k1.cell (by omega)
    have d2 := hI.mat.cellP (r := row) (by omega)
    have hr12 : (row : Int) < 12 := by omega
    have hI' := hide' hI
    have hfin : Hid (∀ u, u < pl' row → (R row).testBit u = true → NoM n R S pl row u) := fun u hu hb => by
      have hSp' : plain p ++ [k.val] <+: nums x := by rw [← plain_snoc]; exact hSp
      obtain ⟨t, ht⟩ := hSp'
      have hs := sorted_nums x
      have hm : (⟨u, hbt.out row u hb⟩ : Fin 64) ∈ nums x := by rw [mem_nums, hxe'.out]; exact hb
      rw [← ht, List.append_assoc] at hm hs
      have hku : u < k.val.val := by rw [← hP.out.1]; exact hu
      rcases List.mem_append.1 hm with h | h
      · obtain ⟨j, hj, hje⟩ := List.mem_map.1 h
        have := hP.out.2.2 j hj
        rw [hje] at this
        exact this
      · exfalso
        rcases List.mem_append.1 h with h | h
        · have := List.mem_singleton.1 h
          have := congrArg Fin.val this
          simp only at this
          omega
        · have h2 : k.val < (⟨u, hbt.out row u hb⟩ : Fin 64) := (List.pairwise_append.1 (List.pairwise_append.1 hs).2.1).2.2 k.val (by simp) _ h
          have : k.val.val < u := h2
          omega
    clear hI hSp
    have hID : SeI W0 w1 gm (.slice (some ⟨g, o, none⟩) n cap) n R ow' pl' V.drew := ⟨hI'.out.fr.trans (Fr2.below (Below.refl _ _).drew), World.rowIs.drew hI'.out.mat, hI'.out.st⟩
    have hI2 := hide' (hID.own (row := some D) (by omega) (grownBy_putObj' V.drew D (.deferred none)) (fun r e => by cases e; exact ⟨hD, _, hK, rfl⟩))
    have hK' := hide' hK
    clear hID hK
    gi_wp2
    go_wp2
    go_region
    go_wp2
    refine ⟨by simp, .inl ⟨_, _, rfl, run_takeDeferred (w := V.drew) hK'.out, ?_⟩⟩
    refine ⟨.int .i64 (pl' row : Int), by simp [results, Tryz.results99, go_sem], ow', pl', rfl, hI2.out.mst hO1 hMnew, ⟨hP.out.2.1, hfin.out⟩, (Fr2.below hB1).trans hI2.out.fr⟩
/-- What settle answers. -/
def SetP (W0 W : World) (gm : Nat) (rv : Value) (n : Nat) (R : Nat → Nat) (ow : Nat → Option Nat) (pl : Nat → Nat) (S : Nat → Bool) (row : Nat) (e : Ending) (w' : World) : Prop :=
  ∃ ow' pl', e = .returned (.int .i64 (pl' row : Int)) ∧ Hid (MSt W0 w' gm rv n R ow' pl' (fun r => r < n)) ∧ Hid ((∀ v, S v = true → ow' v = ow v) ∧ ∀ u, u < pl' row → (R row).testBit u = true → NoM n R S pl row u) ∧ Hid (Fr2 W w' gm gm)
theorem settleF (W0 W : World) (gm : Nat) (rv : Value) (n : Nat) (R : Nat → Nat) (ow : Nat → Option Nat) (pl : Nat → Nat) (S : Nat → Bool) (row : Nat) (A : Array Value) (hV : MkV A S) (hA : RwA W0 rv n R) (hM : MSt W0 W gm rv n R ow pl (fun r => r < n)) (hn : n ≤ 12) (hr : row < n)
    (hS : ∀ v, S v = true → ∃ j, j < n ∧ pl j = v) (hSr : S (pl row) = false) :
    Calls Tryz.prog 99 #[.pointer (some ⟨gm, 0, none⟩), .int .i64 (row : Int), .agg A] W (SetP W0 W gm rv n R ow pl S row) := callsIn_wide.1 (settleC W0 W gm rv n R ow pl S row A hV hA hM hn hr hS hSr)
end Go.Proofs.YtmbdnhgmpmnhmaaGreatDoor.M
namespace Go.Proofs.YtmbdnhgmpmnhmaaGreatDoor.M
open Go.RowKit Go.Shelf
attribute [local go_sem] Oper.semAt_some
def intsOf (l : List (Fin 64)) : List Value := l.map fun k => Value.int .i64 (k.val : Int)
theorem info3 : (Tryz.prog.info? 3).map (fun i => (i.zero, i.size, i.bytes)) = some (some (.int .i64 0), 1, 8) := by kernel_rfl
theorem nums_len (x : Nat) : (nums x).length ≤ 64 := by
  unfold nums
  exact Nat.le_trans (List.length_filter_le _ _) (by simp)
theorem cell_al {W : World} {b i : Nat} {v : Value} (h : W.cell? ⟨b, i, none⟩ = some v) (o : Obj) : (W.alloc o).cell? ⟨b, i, none⟩ = some v :=
  (((Below.refl W.heap.size W).alloc (Nat.le_refl _) o).cell (p := ⟨b, i, none⟩) (cell_lt h)).trans h
theorem owns_shape {W : World} {base : Nat} {e : TypeId} {size : Nat} {v : Value} {n : Nat} {xs : List Value} (h : W.ownsRow base e size v n xs) : ∃ oa cap, v = .slice oa n cap := by
  rcases h.2 with ⟨rfl, rfl⟩ | ⟨g, cap, _, rfl, _⟩
  · exact ⟨none, 0, rfl⟩
  · exact ⟨_, cap, rfl⟩
theorem intsOf_snoc (l : List (Fin 64)) (k : Fin 64) : intsOf (l ++ [k]) = intsOf l ++ [.int .i64 (k.val : Int)] := by simp [intsOf]
theorem cell_grown {w1 w2 : World} {b i : Nat} {v : Value} {u : Option Value} (h : w1.cell? ⟨b, i, none⟩ = u) (hg : w1.grownBy w2 none) (hb : b < w1.heap.size) (hu : u = some v) : w2.cell? ⟨b, i, none⟩ = some v := by
  have := hg.block b hb (by simp)
  rw [← hu, ← h]
  simp [World.cell?, this]
theorem box_grown {W w1 : World} {n₀ B Bx : Nat} {t tx e : TypeId} {size : Nat} {v v' vx : Value} {k m : Nat} {xs ys : List Value}
    (hv : Boxed W B t v) (hx : Boxed W Bx tx vx) (hte : t ≠ e) (htx : tx ≠ e) (hne : Bx ≠ B) (hrow : W.ownsRow n₀ e size v k xs) (hn₀ : n₀ ≤ W.heap.size) (hB : n₀ ≤ B)
    (hown' : w1.ownsRow n₀ e size v' m ys) (hgrow : W.grownBy w1 v.ownBlock) :
    Boxed w1 B t v ∧ Boxed (w1.setCell ⟨B, 0, none⟩ v') B t v' ∧ (w1.setCell ⟨B, 0, none⟩ v').ownsRow n₀ e size v' m ys ∧ Boxed (w1.setCell ⟨B, 0, none⟩ v') Bx tx vx ∧ KeepsOthers W (w1.setCell ⟨B, 0, none⟩ v') ∧ Below n₀ W (w1.setCell ⟨B, 0, none⟩ v') := by
  have hv1 : Boxed w1 B t v := hv.kept hgrow (hv.not_row hte hrow)
  have hx1 : Boxed w1 Bx tx vx := hx.kept hgrow (hx.not_row htx hrow)
  refine ⟨hv1, hv1.set v', hown'.kept (grownBy_setCell' w1 B v') (.inr (hv1.not_row hte hown').symm), hx1.other hne v', ?_, ?_⟩
  · refine (KeepsOthers.of_grownBy hgrow fun j o ej hj => ?_).trans (KeepsOthers.setCell _ _ _)
    rcases hrow.2 with ⟨rfl, _⟩ | ⟨g, cap, cur, rfl, _, hgb, _⟩
    · simp [Value.ownBlock] at ej
    · obtain rfl : g = j := by simpa [Value.ownBlock] using ej
      rw [hgb] at hj; cases hj; rfl
  · refine ((Below.refl n₀ W).grown hgrow hn₀ fun j ej => ?_).setCell (p := ⟨B, 0, none⟩) hB v'
    rcases hrow.2 with ⟨rfl, _⟩ | ⟨g, cap, cur, rfl, hb, _, _⟩
    · simp [Value.ownBlock] at ej
    · obtain rfl : g = j := by simpa [Value.ownBlock] using ej
      exact hb
set_option maxRecDepth 100000 in
set_option maxHeartbeats 4000000 in
theorem placesC64 (x : Nat) (hx : x < 18446744073709551616) (w : World) (ht : Tab w) :
    CallsIn Fence.wide 9 Tryz.prog 27 #[.agg #[.int .u64 x]] w fun e W' => ∃ v, e = .returned v ∧ W'.ownsRow w.heap.size 3 1 v (nums x).length (intsOf (nums x)) ∧ Below w.heap.size w W' := by
  obtain ⟨i0, hi, hz0, hz1, hz2⟩ := info_parts info3
  have hnl := nums_len x
  have h3 := ht.2
  have KL := hide' (len64 x hx)
  obtain ⟨m, hm⟩ : ∃ m, (nums x).length = m := ⟨_, rfl⟩
  rw [hm] at KL hnl
  refine callsIn_of_wp_marks Tryz.func27 rfl trivial ?_ rfl
  simp only [Tryz.ntmps27, List.size_toArray, List.length_cons, List.length_nil, Nat.reduceAdd, Nat.reduceSub, Array.replicate_succ, Array.replicate_zero, List.push_toArray, List.append_toArray, List.nil_append, List.cons_append]
  have Hm := hide' hm
  clear hm
  gi_wp2_with (first | (refine ⟨trivial, ?_⟩; gi_at_call 45; refine (callsIn_wide.2 (KL.out _)).mono ?_; rintro e w1 ⟨rfl, hb1⟩; have z1 : w.heap.size < w1.heap.size := (by have := hb1.size; simp at this; omega)) | (gi_at_make; refine wpListIn_make_own _ rfl _ _ 23 rfl w.heap.size 3 i0 (.int .i64 0) 1 Tryz.underlying23 hi hz0 hz1 .i64 .i64 _ m rfl rfl rfl (by rw [hz2]; omega) (by unfold maxLen; omega) (by omega) ?_; intro w2 hown hgrow; have cs : w2.cell? ⟨w.heap.size, 0, none⟩ = some (.int .u64 x) := cell_grown (hb1.cell (p := ⟨w.heap.size, 0, none⟩) (by show w.heap.size < _; simp)) hgrow z1 (by simp); have cs' := fun o => cell_al cs o) | (refine ⟨trivial, ?_⟩; gi_at_call 46; refine (callsIn_wide.2 (all64 _ _)).mono ?_; rintro e w' ⟨rfl, rfl⟩))
  have z2 : w1.heap.size ≤ w2.heap.size := hgrow.size
  have B2 : Below w.heap.size w w2 := (((Below.refl _ w).alloc (Nat.le_refl _) _).trans (hb1.mono (by simp))).grown hgrow (by omega) (fun j ej => by cases ej)
  have hB0 : Below w.heap.size w ((w2.alloc (.cells #[.slice (some ⟨w1.heap.size, 0, none⟩) 0 m] 23)).alloc (.cells #[.int .u64 x] 50)) := (B2.alloc (by omega) _).alloc (by simp; omega) _
  have bP := (Boxed.new w2 23 (.slice (some ⟨w1.heap.size, 0, none⟩) 0 m)).alloc (.cells #[.int .u64 x] 50)
  have bN := Boxed.new (w2.alloc (.cells #[.slice (some ⟨w1.heap.size, 0, none⟩) 0 m] 23)) 50 (.int .u64 x)
  have bR := (hown.alloc (.cells #[.slice (some ⟨w1.heap.size, 0, none⟩) 0 m] 23)).alloc (.cells #[.int .u64 x] 50)
  simp only [World.size_alloc] at bN
  generalize hW0 : ((w2.alloc (.cells #[.slice (some ⟨w1.heap.size, 0, none⟩) 0 m] 23)).alloc (.cells #[.int .u64 x] 50)) = W0 at *
  have hs0 : W0.heap.size = w2.heap.size + 1 + 1 := by rw [← hW0]; simp
  clear hW0 cs cs' hown hgrow hb1 B2
  refine wpIn_rangeFunc_ownG rfl (by decide) (gf := 60) (lb := #[.pointer (some ⟨w2.heap.size + 1, 0, none⟩)]) rfl trivial (enters_of Tryz.func60 (by kernel_rfl) rfl)
    (all_stops64 8 (w2.heap.size + 1) x hx W0 (by omega) (ht.over hB0) bN.cell) KpB.t (KpB.b (by omega) (by omega)) (Below.refl _ _) (fun _ => rfl)
    (fun pre W => (∃ v, Boxed W w2.heap.size 23 v ∧ W.ownsRow w.heap.size 3 1 v pre.length (intsOf pre) ∧ True) ∧ Boxed W (w2.heap.size + 1) 50 (.int .u64 x) ∧ Below w.heap.size w W)
    (fun _ _ _ => False)
    (OwnFrom.and (Own.from (holdsRow_own w.heap.size w2.heap.size 23 3 1 (fun pre => pre.length) (fun pre => intsOf pre) (fun _ _ => True)) _) (OwnFrom.and (Own.from (boxed_own _ _ _) _) (ownFrom_below (Nat.le_refl _) (by omega))))
    (fun _ _ _ _ _ hs _ _ => hs)
    ⟨⟨_, bP, bR, trivial⟩, bN, hB0⟩
    (fun k => { tmps := #[.agg #[.int .u64 x], .pointer (some ⟨w.heap.size, 0, none⟩), .slice none 0 0, .pointer (some ⟨w2.heap.size, 0, none⟩), .int .i64 (k.val : Int), .agg #[.int .u64 x], .int .i64 m, .slice (some ⟨w1.heap.size, 0, none⟩) 0 m, .agg #[.int .u64 x], .func (.func 60) #[] #[.pointer (some ⟨w2.heap.size + 1, 0, none⟩)], .int .i64 (k.val : Int), undef, undef, undef, undef, undef], defers := [] }) ?assign ?body ?done ?stop
  case assign =>
    intro l k W K hK
    gi_wp2
    exact hK
  case body =>
    rintro l pre k W ⟨⟨v, hv, hrow, _⟩, hbx, hB⟩ hlt
    rw [Hm.out] at hlt
    have hk := k.isLt
    have hc := hv.cell
    have hf := hv.frozen
    have hBs := hB.size
    have hT := hide' (intsOf_snoc pre k)
    have hT2 : Hid ((pre ++ [k]).length = pre.length + 1) := by show _ = _; simp
    generalize pre.length = N at *
    generalize hrw : intsOf pre = R at *
    clear hrw bP bN bR hB0
    obtain ⟨oa, cap, rfl⟩ := owns_shape hrow
    gi_wp2_with (gi_at_builtin; refine wpListIn_append_own _ rfl _ _ 23 rfl w.heap.size 3 i0 (.int .i64 0) 1 8 Tryz.underlying23 hi hz0 hz1 hz2 rfl (by decide) (.slice oa N cap) N R rfl (hrow.alloc _) ⟨W.heap.size, 0, none⟩ 1 1 [.int .i64 (k.val : Int)] rfl rfl (cell_one_new _ _ _) (by simp [Value.oneCell']) (by unfold maxLen; omega) (by omega) (by simp; omega) ?_; intro v1 w3 hown1 hgrow1 hnil; clear hnil; obtain ⟨oa1, cap1, rfl⟩ := owns_shape hown1; obtain ⟨hv1, hv2, hr2, hx2, hk2, hb2⟩ := box_grown (hv.alloc _) (hbx.alloc _) (by decide) (by decide) (by omega) (hrow.alloc _) (by simp; omega) (by omega) hown1 hgrow1; have hc1 := hv1.cell; have hf1 := hv1.frozen)
    have hbW : Below w.heap.size W (W.alloc (.cells #[.int .i64 (k.val : Int)] 3)) := (Below.refl _ W).alloc hB.size _
    exact ⟨((KeepsOthers.alloc W _).trans hk2).from _, ⟨hx2.cell.trans hbx.cell.symm, fun h => h.below h3 (hbW.trans hb2)⟩, ⟨⟨_, hv2, by rw [hT.out, hT2.out]; exact hr2, trivial⟩, hx2, hB.trans (hbW.trans hb2)⟩⟩
  case done =>
    rintro D ys W hD rfl ⟨⟨v, hv, hrow, _⟩, hbx, hB⟩ hK
    have hc := hv.cell
    obtain ⟨oa, cap, rfl⟩ := owns_shape hrow
    generalize hN : (nums x).length = N at *
    generalize hrw : intsOf (nums x) = R at *
    gi_wp2
    refine ⟨by simp, .inl ⟨_, _, rfl, run_takeDeferred hK, ?_⟩⟩
    refine ⟨_, results_tmp rfl _ _ _, ⟨_, rfl, ?_, hB.trans (belowK_b (w := w) (Nat.le_refl _) W D _ _ (by omega) hK rfl rfl)⟩⟩
    have hq := ownsRow_putObj hrow (.deferred none) hK rfl
    rw [hN, hrw]
    exact hq
  case stop =>
    rintro D c pre W _ _ h _
    exact h.elim
theorem places64 (x : Nat) (hx : x < 18446744073709551616) (w : World) (ht : Tab w) :
    Calls Tryz.prog 27 #[.agg #[.int .u64 x]] w fun e W' => ∃ v, e = .returned v ∧ W'.ownsRow w.heap.size 3 1 v (nums x).length (intsOf (nums x)) ∧ Below w.heap.size w W' := callsIn_wide.1 (placesC64 x hx w ht)
end Go.Proofs.YtmbdnhgmpmnhmaaGreatDoor.M

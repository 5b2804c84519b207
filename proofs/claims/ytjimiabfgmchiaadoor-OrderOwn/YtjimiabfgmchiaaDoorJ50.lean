/- For every input OrderOwn returns true and leaves its argument as it read; the library's listed table starts as its own text lays it (tied). -/
import Derived.Test.YtjimiabfgmchiaaDoorJ26
import Derived.Test.YtjimiabfgmchiaaDoorJ49
import Derived.Test.YtjimiabfgmchiaaDoorCards
import Derived.Test.YtjimiabfgmchiaaDoorTie
import Derived.SevenTiedAt
namespace Go.Proofs.YtjimiabfgmchiaaDoor
open Go.ChangeShapes Go.WideShapes Go.ChangeAt Go.RowKit Go.Joins
section
variable {H : Type} {enc : TypeId × Value → H} {W : World}
/-- The priorities, opened. -/
theorem open_prioV {c5 : Value} {y5 : DataW H × List MemPlace} {n : Nat} (hy : DataW.trod enc Tryd.prog W 0 (fun _ => true) true n 24 [c5] = some y5) :
    ∃ ob lb cb, c5 = .slice ob lb cb := by
  rcases open_ints Tryd.underlying24 Tryd.underlying3 cI hy with ⟨hcs, _⟩ | ⟨a, len, cap, zs, hcs, _⟩
  · simp only [List.cons.injEq, and_true] at hcs
    exact ⟨none, 0, 0, hcs⟩
  · simp only [List.cons.injEq, and_true] at hcs
    exact ⟨some a, len, cap, hcs⟩
end
set_option maxRecDepth 100000 in
theorem orderOwn_lifted (os : Os) (started : os.Started) (H : Type) (enc : TypeId × Value → H) :
    ReturnsInHanded {} Tryd.checked os 3 .any (fun w args => (Rows.orderOwnSpec.pre enc Tryd.prog Tryd.f3 [] false w args ∧ laidMetH Tryd.prog laid1 w) ∧ sizedMet enc Tryd.prog Tryd.f3 (OpenSpec.ofChange Rows.orderOwnSpec) false w args)
      (Rows.orderOwnSpec.post enc Tryd.prog Tryd.f3 false true false false) := by
  refine returnsInHanded_of_change_and (C := Tryd.checked) (X := fun w _ => laidMetH Tryd.prog laid1 w) (fun _ _ _ hh h => h.of_heap hh) own started (by kernel_rfl) Tryd.func3
    (ChangeSpec.witness_shaped (enc := enc) (C := Tryd.checked) (os := os) (X := fun w _ => laidMetH Tryd.prog laid1 w) false (World.doorLaid Tryd.prog 24 os) #[.agg #[.int .i64 0, .slice none 0 0, .int .i64 0, .int .i64 0, .int .u64 0, .slice none 0 0, .int .u64 0]] 8 rfl (World.shaped_of_RefB (by kernel_rfl) (by kernel_rfl)) (by kernel_rfl) (by kernel_rfl) (by kernel_rfl) (door_met os _)) ?_
  intro W base args ds gs before hval0 hW _ hsz0 hL _
  have hval : ∀ (j : Nat) t v, Tryd.f3.params[j]? = some t → args[j]? = some v → Value.okWide Tryd.prog W .any base t v := hval0
  have hW' := hW
  obtain ⟨p, q, hA0, hV, rfl, hfz, hnd⟩ := hW
  have hA : DataW.TrodAll enc Tryd.prog W 0 (fun _ => true) true Tryd.f3.params.toList args.toList ds p := hA0
  have hsz : (DataW.weightsEach Tryd.prog (Tryd.f3.params.toList ++ Rows.orderOwnSpec.plain.varTypes Tryd.prog) (ds ++ gs)).all (· ≤ reachBytes) = true := hsz0
  rw [Tryd.params3] at hA hval hsz
  obtain ⟨v0, d0, rfl, rfl, h0⟩ := trodAll_one hA
  obtain ⟨rfl, rfl⟩ := trodVars_none hV
  have hlt : ∀ x ∈ p, x.block < W.heap.size := fun x hx => by simpa using hW'.lt x (by simpa using hx)
  obtain ⟨c0, c1, c2, c3, c4, c5, c6, y0, y1, y2, y3, y4, y5, y6, nf, rfl, rfl, hy0, hy1, hy2, hy3, hy4, hy5, hy6⟩ := open_ask (hval 0 26 v0 rfl rfl) h0
  have hall : ∀ x ∈ DataW.weights Tryd.prog 26 (.agg [y0.1, y1.1, y2.1, y3.1, y4.1, y5.1, y6.1]), x ≤ reachBytes := fun x hx => by
    have := List.all_eq_true.1 hsz x (DataW.weights_mem_each (j := 0) rfl rfl x hx)
    simpa using this
  have hw1 : ∀ x ∈ y1.1.weights Tryd.prog 22, x ≤ reachBytes := fun x hx => hall x (by
    simp only [DataW.weights, Tryd.underlying26]
    exact DataW.weights_mem_each (j := 1) rfl rfl x hx)
  obtain ⟨n, e0, _, _⟩ := DataW.trod_int Tryd.underlying3 hy0
  obtain ⟨A, e2, _, _⟩ := DataW.trod_int Tryd.underlying3 hy2
  obtain ⟨B, e3, _, _⟩ := DataW.trod_int Tryd.underlying3 hy3
  obtain ⟨s, e4, _, _⟩ := DataW.trod_int Tryd.underlying23 hy4
  obtain ⟨mo, e6, _, _⟩ := DataW.trod_int Tryd.underlying23 hy6
  simp only [List.cons.injEq, and_true] at e0 e2 e3 e4 e6
  subst e0 e2 e3 e4 e6
  obtain ⟨L, hp, hn⟩ := open_pairs hy1 hw1
  obtain ⟨ob, lb, cb, rfl⟩ := open_prioV hy5
  refine (orderOwn_walk n _ L A B s ob lb cb mo W hp hn (tab_of_laid hL)).mono fun e W' ⟨he, hB⟩ => ?_
  subst he
  refine ⟨_, rfl, _, _, _, [], p, [], hW', ?_, ?_, ?_, hB.frame _, fun h => by cases h⟩
  · exact trodAll_mk1 (shut_bool Tryd.underlying4 true)
  · exact trodAll_mk1 (Below.trod laidOut (by kernel_rfl) (of_decide_eq_true (by kernel_rfl)) h0 hB hlt)
  · rfl
theorem orderOwn_row : Rows.OrderOwnSaid :=
  OpenClaim.holds_of_wide 3 Tryd.f3 rfl rfl rfl rfl rfl rfl rfl ⟨rfl, rfl, rfl, rfl, rfl⟩ rfl rfl rfl rfl rfl (by kernel_rfl) Tryd.func3 (by kernel_rfl)
    (of_decide_eq_true (by kernel_rfl)) (by unfold Func.isWrapper; rw [if_neg (of_decide_eq_false (by kernel_rfl))]; exact ⟨rfl, rfl⟩)
    (fun os started H enc _ => orderOwn_lifted os started H enc)
theorem orderOwn_holds : Rows.OrderOwnCardSaid :=
  Claim7.holds_tied_plain_at .later [] [.data] true Rows.orderOwnCard.stood.harness true
    orderOwn_row (fun _ h => by cases h) (by kernel_rfl) (fun _ h => by cases h) orderOwn_row_tie rfl ⟨rfl, rfl⟩ (by kernel_rfl) rfl
    (fun f fn hf hfn => by
      obtain rfl : f = 3 := Option.some.inj ((show Tryd.prog.funcNamed "provost/provostlaw03.OrderOwn" = some 3 by kernel_rfl).symm.trans hf) |>.symm
      obtain rfl : fn = Tryd.f3 := (Option.some.inj (Tryd.func3.symm.trans hfn)).symm
      exact ⟨by kernel_rfl, fun j t ht => by
        rw [Tryd.params3] at ht
        have hm : t ∈ [26] := by simpa using Array.mem_of_getElem? ht
        have hall : ([26].all fun u => !Tryd.prog.wantsStandIn u) = true := by kernel_rfl
        exact (show Tryd.prog.wantsStandIn t = false by simpa using List.all_eq_true.1 hall t hm)⟩)
    (by kernel_rfl)
#print axioms orderOwn_holds
end Go.Proofs.YtjimiabfgmchiaaDoor

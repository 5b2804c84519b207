/- For every input of bulk up to 1048576 RuleText returns true and leaves its argument as it read; the library's listed tables start as its own text lays them (tied). -/
import Derived.Test.YtkfopeeegbdhlaaDoorXLaw
import Derived.Test.YtkfopeeegbdhlaaDoorXDig
import Derived.Test.YtkfopeeegbdhlaaDoorXLay
import Derived.Test.YtkfopeeegbdhlaaDoorRFrame
import Derived.Test.YtkfopeeegbdhlaaDoorCards
import Derived.Test.YtkfopeeegbdhlaaDoorTie
import Derived.Deep.DeepHandedRow
import Derived.Deep.Strs
import Derived.Lib.LaidTab
import Derived.Lib.AppendIntMem
import Derived.LaidMore
import Derived.Stop.LaidErr
import Derived.SevenTiedAt
namespace Go.Proofs.YtkfopeeegbdhlaaDoor
open Go.ChangeShapes Go.WideShapes Go.ChangeAt Go.RowKit Go.Joins
theorem gPow : Tryd.prog.globalNamed "internal/strconv.uint64pow10" = some 1 := by kernel_rfl
theorem tPow : (Tryd.prog.globals[1]?).map (·.type) = some 78 := by kernel_rfl
theorem cU : Tryd.prog.cellsOf 71 = 1 := by kernel_rfl
theorem cPow : Tryd.prog.cellsOf 78 = 20 := by kernel_rfl
theorem cSt : Tryd.prog.cellsOf 9 = 1 := by kernel_rfl
theorem pow_eq {H : Type} : (Rows.laid_internal_strconv_uint64pow10 : DataW H) = Lib.tabData .u64 Lib.pow10Tab := rfl
/-- From the row's condition to what Itoa asks. -/
theorem pow_of_laid {W : World} (h : laidMetH Tryd.prog Rows.ruleTextUptoRow.laid W) : Lib.TabIs Tryd.prog W "internal/strconv.uint64pow10" .u64 Lib.pow10Tab := by
  rw [MakeChecks.laidMetH_plain _ _ _ (by kernel_rfl)] at h
  have h3 := h.tail.tail
  rw [pow_eq] at h3
  exact Lib.tabIs_of_head gPow tPow Tryd.underlying78 Tryd.underlying71 cU cPow h3
theorem tab_below {w w' : World} (h : Lib.TabIs Tryd.prog w "internal/strconv.uint64pow10" .u64 Lib.pow10Tab) (hb : Below w.heap.size w w') : Lib.TabIs Tryd.prog w' "internal/strconv.uint64pow10" .u64 Lib.pow10Tab := by
  unfold Lib.TabIs World.var? at h ⊢
  rw [gPow] at h ⊢
  simp only [Option.bind_some] at h ⊢
  have hlt : 1 < w.heap.size := by
    rcases Nat.lt_or_ge 1 w.heap.size with h' | h'
    · exact h'
    · rw [Array.getElem?_eq_none h'] at h; cases h
  rw [hb.block _ hlt]
  exact h
theorem itoaOk_of {w : World} (h : Lib.TabIs Tryd.prog w "internal/strconv.uint64pow10" .u64 Lib.pow10Tab) : ItoaOk w := fun W k hW h1 h2 =>
  (Tryd.strconv_Itoa k (by omega) (by omega) W (tab_below h hW)).mono fun e w' ⟨he, n, os, hw⟩ => by
    subst hw
    refine ⟨?_, Lib.below_grow _ W (Nat.le_refl _) n os⟩
    rw [he]
    unfold Lib.itoa
    rw [if_neg (by omega)]
theorem joinOk : JoinOk := fun bk xs W h1 h2 h3 h4 => by
  have h := Tryd.strings_Join bk 0 xs.length xs ⟨#[44, 32]⟩ W (fun j x hj => by rw [Nat.zero_add]; exact h1 j x hj) h2 (by omega) (Nat.le_refl _) (by
    have h5 := join_len (xs.map (·.data.toList)) (fun y hy => by
      obtain ⟨x, hx, rfl⟩ := List.mem_map.1 hy
      have h6 := h4 x hx
      have e : x.data.toList.length = x.size := Array.length_toList
      omega)
    rw [List.length_map] at h5
    show (Lib.join (xs.map (·.data.toList)) [44, 32]).length ≤ _
    omega)
  exact h
theorem digOk : DigOk := fun W k h1 h2 => by
  have h := digitsF k.toNat (by omega) W
  rwa [show ((k.toNat : Nat) : Int) = k by omega] at h
theorem bulk_le {H : Type} {d : DataW H} {l : List (DataW H)} (h : d ∈ l) : Rows.uptoBulk d ≤ Rows.uptoBulkAll l := by
  induction l with
  | nil => cases h
  | cons x r ih =>
    rw [Rows.uptoBulkAll]
    rcases List.mem_cons.1 h with e | e
    · subst e; omega
    · have := ih e; omega
/-- The names, opened. -/
theorem open_strsN {H : Type} {enc : TypeId × Value → H} {W : World} {v : Value} {y : DataW H × List MemPlace} {fuel : Nat} (hf : DataW.trod enc Tryd.prog W 0 (fun _ => true) true fuel 24 [v] = some y) : ∃ N, RowN W v N ∧ ∀ x ∈ N, x.size ≤ Rows.uptoBulk y.1 := by
  rcases Deep.open_strs Tryd.underlying24 Tryd.underlying9 cSt hf with ⟨hcs, _⟩ | ⟨a, len, cap, m, Sx, hcs, _, hl, _, hm, hx, hcell⟩
  · simp only [List.cons.injEq, and_true] at hcs
    subst hcs
    exact ⟨[], ⟨none, 0, rfl, ⟨Nat.le_refl _, fun _ => rfl⟩, fun i z h => by cases h⟩, fun x h => by cases h⟩
  · simp only [List.cons.injEq, and_true] at hcs
    subst hcs
    simp only [if_true] at hm
    subst hm
    refine ⟨(List.range len).map Sx, ⟨some a, m, by simp, ⟨by simpa using hl, fun e => by cases e⟩, fun i z hi => ?_⟩, fun x hx' => ?_⟩
    · rw [List.getElem?_map] at hi
      obtain ⟨j, hj, rfl⟩ := Option.map_eq_some_iff.1 hi
      have hil : i < len := by
        have := (List.getElem?_eq_some_iff.1 hj).1
        simpa using this
      have : j = i := by
        rw [List.getElem?_range hil] at hj
        exact (Option.some.inj hj).symm
      subst this
      have hc := (hcell j (by omega)).1
      obtain ⟨b, off, spot⟩ := a
      have hspot : spot = none := by simpa [Addr.add] using World.cell?_spot (hcell 0 (by omega)).1
      subst hspot
      rw [Addr.add_lit] at hc
      exact ⟨b, off, rfl, hc⟩
    · obtain ⟨i, hi, rfl⟩ := List.mem_map.1 hx'
      have hmem : (DataW.lit (.string (Sx i).data.toList) : DataW H) ∈ (List.range len).map fun i => (DataW.lit (.string (Sx i).data.toList) : DataW H) := List.mem_map.2 ⟨i, hi, rfl⟩
      have h1 := bulk_le hmem
      have h2 : Rows.uptoBulk (DataW.lit (.string (Sx i).data.toList) : DataW H) = (Sx i).data.toList.length + 1 := by rw [Rows.uptoBulk]
      have e : (Sx i).data.toList.length = (Sx i).size := Array.length_toList
      rw [hx]
      simp only [Rows.uptoBulk]
      omega
noncomputable def laidW (os : Os) : World := World.doorLaid Tryd.prog 24 os
def arg0 : Value := .agg #[.int .i64 0, .slice none 0 0, .slice none 0 0, .slice none 0 0]
theorem laid_met (os : Os) : laidMetH Tryd.prog Rows.ruleTextUptoRow.laid ((laidW os).forCall (fun _ _ => 0) ⟨#[], #[arg0], []⟩).memory :=
  laidMetH_of_parts3 (fuel := 8) (laidMet_of_run' 8 (by kernel_rfl) (by kernel_rfl)) (by kernel_rfl) (by kernel_rfl)
theorem reads (os : Os) {H : Type} (enc : TypeId × Value → H) : ∃ places, DataW.whole enc Tryd.prog ((laidW os).forCall (fun _ _ => 0) ⟨#[], #[arg0], []⟩).memory Tryd.f3.params.toList Rows.ruleTextSpec.vars false #[arg0].toList 8 = some ([.agg [.lit (.int .i64 0), .nil, .nil, .nil]], [], places) :=
  ⟨[], by kernel_rfl⟩
set_option maxRecDepth 100000 in
theorem ruleText_lifted (os : Os) (started : os.Started) (H : Type) (enc : TypeId × Value → H) (F : Stop.Interp) :
    ReturnsInHanded {} Tryd.checked os 3 .any ((Rows.OpenSpec.upto Rows.ruleTextSpec).preRow enc Tryd.prog Tryd.f3 Rows.ruleTextUptoRow.domain false Rows.ruleTextUptoRow.laid) (((Rows.OpenSpec.upto Rows.ruleTextSpec).at F).post enc Tryd.prog Tryd.f3 false true false false) := by
  obtain ⟨places, hx⟩ := reads os enc
  refine returnsInHanded_of_row (C := Tryd.checked) (s := Rows.OpenSpec.upto Rows.ruleTextSpec) own started (by kernel_rfl) Tryd.func3
    (witness_row_at (enc := enc) (C := Tryd.checked) false (laidW os) #[arg0] rfl (by kernel_rfl) (by kernel_rfl) (by kernel_rfl)
      (OpenSpec.preRow_of_cond 8 hx (by kernel_rfl) (fun k hk => by cases hk; kernel_rfl) (by kernel_rfl) (laid_met os))) ?_
  intro W base args ds gs before hval0 hW _ hcond _ hL _ _
  have hval : ∀ (j : Nat) t v, Tryd.f3.params[j]? = some t → args[j]? = some v → Value.okWide Tryd.prog W .any base t v := hval0
  have hk := hcond _ rfl
  have hW' := hW
  obtain ⟨p, q, hA0, hV, rfl, hfz, hnd⟩ := hW
  have hA : DataW.TrodAll enc Tryd.prog W 0 (fun _ => true) true Tryd.f3.params.toList args.toList ds p := hA0
  rw [Tryd.params3] at hA hval
  obtain ⟨v0, d0, rfl, rfl, h0⟩ := trodAll_one hA
  obtain ⟨rfl, rfl⟩ := trodVars_none hV
  have hlt : ∀ x ∈ p, x.block < W.heap.size := fun x hx => by simpa using hW'.lt x (by simpa using hx)
  have h0' := h0
  obtain ⟨c0, c1, c2, c3, y0, y1, y2, y3, m, rfl, rfl, rfl, hy0, hy1, hy2, hy3⟩ := open_agg4 Tryd.underlying26 (by kernel_rfl) cA (hval 0 26 v0 rfl rfl) h0'
  obtain ⟨n, e0, _, wn⟩ := DataW.trod_int Tryd.underlying3 hy0
  obtain ⟨L, rL⟩ := open_rules hy1
  obtain ⟨B, rB, wB⟩ := row_of_cell hy2
  obtain ⟨N, rN, hN⟩ := open_strsN hy3
  simp at e0
  subst e0
  obtain ⟨or, cr, rfl⟩ := rL.shapeT
  obtain ⟨oB, cB, rfl⟩ := rB.shapeT
  obtain ⟨on, cn, rfl⟩ := rN.shape
  have hbulk : Rows.uptoBulk y3.1 ≤ 1048576 := by
    have h1 := of_decide_eq_true hk
    simp only [List.append_nil, Rows.uptoBulkAll, Rows.uptoBulk] at h1
    omega
  refine (ruleText_walk n L N or cr oB _ cB on cn W rL rN (fun x hx => Nat.le_trans (hN x hx) hbulk) (itoaOk_of (pow_of_laid hL)) joinOk digOk).mono fun e W' ⟨he, hB⟩ => ?_
  subst he
  refine ⟨_, rfl, _, _, _, [], y0.2 ++ (y1.2 ++ (y2.2 ++ y3.2)), [], hW', ?_, ?_, ?_, hB.frame _, fun h => by cases h⟩
  · exact trodAll_mk1 (shut_bool Tryd.underlying4 true)
  · exact trodAll_mk1 (Below.trod laidOut (by kernel_rfl) (of_decide_eq_true (by kernel_rfl)) h0 hB hlt)
  · rfl
theorem ruleText_row : Rows.RuleTextUptoSaid :=
  OpenClaim.holds_of_cond 3 Tryd.f3 rfl rfl rfl rfl rfl rfl rfl ⟨rfl, rfl, rfl, rfl, rfl⟩ rfl rfl rfl rfl rfl (by kernel_rfl) Tryd.func3 (by kernel_rfl)
    (of_decide_eq_true (by kernel_rfl)) (by unfold Func.isWrapper; rw [if_neg (of_decide_eq_false (by kernel_rfl))]; exact ⟨rfl, rfl⟩)
    (fun os started H enc _ F => by rw [OpenClaim.pre_eq_preRow]; exact ruleText_lifted os started H enc F)
theorem ruleTextUpto_holds : Rows.RuleTextUptoCardSaid :=
  Claim7.holds_tied_plain_at .later [] [.data, .data, .data] true Rows.ruleTextUptoCard.stood.harness false
    ruleText_row (fun _ h => by cases h) (by kernel_rfl) (fun _ h => by cases h) ruleTextUpto_row_tie rfl ⟨rfl, rfl⟩ (by kernel_rfl) rfl
    (fun f fn hf hfn => by
      obtain rfl : f = 3 := Option.some.inj ((show Tryd.prog.funcNamed "provost/provostlaw06.RuleText" = some 3 by kernel_rfl).symm.trans hf) |>.symm
      obtain rfl : fn = Tryd.f3 := (Option.some.inj (Tryd.func3.symm.trans hfn)).symm
      exact ⟨by kernel_rfl, fun j t ht => by
        rw [Tryd.params3] at ht
        have hm : t ∈ [26] := by simpa using Array.mem_of_getElem? ht
        have hall : ([26].all fun u => !Tryd.prog.wantsStandIn u) = true := by kernel_rfl
        exact (show Tryd.prog.wantsStandIn t = false by simpa using List.all_eq_true.1 hall t hm)⟩)
    (by kernel_rfl)
#print axioms ruleTextUpto_holds
end Go.Proofs.YtkfopeeegbdhlaaDoor

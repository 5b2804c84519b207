/- Count: how many full matchings there are. -/
import Derived.Test.YtmoiedlchcceaaaDoorJ22
import Derived.Test.YtmoiedlchcceaaaDoorJ23
import Derived.Deep.WholeRow
namespace Go.Proofs.YtmoiedlchcceaaaDoor.M
open Go.RowKit Go.Shelf
def zcC : Array Value := (List.replicate 4097 (Value.int .u64 0)).toArray
theorem zcC_size : zcC.size = 4097 := by unfold zcC; rw [List.size_toArray, List.length_replicate]
theorem zcC_ne : ¬ zcC = #[] := fun e => by have := congrArg Array.size e; rw [zcC_size] at this; cases this
theorem zcC_info : (Tryd.prog.info? 71).map (fun i => (i.zero, i.size)) = some (some (.agg zcC), 4097) := by kernel_rfl
theorem zeroC (w : World) : (zeroValue 71).run Tryd.prog w = .ok (.agg zcC) w := (zero_of_info zcC_info).1 w
/-- A new table, its bound told. -/
def bcC (v : Value) : Array Value := zcC.setIfInBounds 0 v
theorem bcC_size (v : Value) : (bcC v).size = 4097 := by unfold bcC; rw [Array.size_setIfInBounds, zcC_size]
theorem bcC_at (v : Value) (i : Nat) (hi : i < 4097) : (bcC v)[i]? = some (if i = 0 then v else .int .u64 0) := by
  unfold bcC zcC
  rw [Array.getElem?_setIfInBounds, List.getElem?_toArray, List.getElem?_replicate, List.size_toArray, List.length_replicate]
  by_cases h : i = 0
  · subst h; rw [if_pos rfl, if_pos (by decide), if_pos rfl]
  · rw [if_neg (fun e => h e.symm), if_pos hi, if_neg h]
theorem bcC_one (v : Value) (hv : v.oneCell' = true) : (bcC v).all (·.oneCell') = true := by
  rw [Array.all_eq_true]
  intro i hi
  rw [bcC_size] at hi
  have h := bcC_at v i hi
  rw [Array.getElem?_eq_some_iff] at h
  obtain ⟨_, h⟩ := h
  rw [h]
  split
  · exact hv
  · rfl
theorem storeC (w : World) (v : Value) (hv : v.oneCell' = true) : (Instr.storeAt 71 (.pointer (some ⟨w.heap.size, 0, none⟩)) (.agg (bcC v))).run Tryd.prog (w.alloc (.cells zcC 71)) = .ok () (w.alloc (.cells (bcC v) 71)) :=
  run_storeAt_new w _ zcC (bcC v) (by rw [(zero_of_info zcC_info).2, bcC_size]) (by rw [zcC_size, bcC_size]) (bcC_one v hv)
theorem buildC (w : World) (M : Nat) : (Instr.build 71 #[(0, .int .u64 (M : Int))]).run Tryd.prog w = .ok (.agg (bcC (.int .u64 (M : Int)))) w := by
  have z := zeroC w
  have z2 := zcC_ne
  simp [Instr.build, go_sem, z, z2, bcC]
theorem storeCs (w : World) (v : Value) (hv : v.oneCell' = true) : (storeCells ⟨w.heap.size, 0, none⟩ (bcC v).toList 0).run Tryd.prog (w.alloc (.cells zcC 71)) = .ok () (w.alloc (.cells (bcC v) 71)) :=
  run_storeCells_new w _ zcC (bcC v) (by rw [(zero_of_info zcC_info).2, bcC_size]) (by rw [zcC_size, bcC_size]) (bcC_one v hv)
theorem CAt.start (w : World) (M : Nat) : CAt (w.alloc (.cells (bcC (.int .u64 (M : Int))) 71)) w.heap.size M (fun _ => 0) :=
  ⟨_, I.heap_new w _, bcC_size _, fun i hi => by
    rw [bcC_at _ i hi]
    unfold cval
    split <;> rfl⟩
/-- The start: no place has been offered. -/
theorem wA_start (R : Nat → Nat) (M s : Nat) (hs : s < 18446744073709551616) : wA R M 0 s = upd (fun _ => 0) 0 (min 1 M) s := by
  unfold wA rowsS
  by_cases h : s = 0
  · subst h
    rw [upd_same, nums_zero]
    rfl
  · rw [upd_ne _ _ h]
    cases hn : nums s with
    | nil => exact absurd (nums_eq_nil hs hn) h
    | cons j l => show min 0 M = 0; omega
theorem rowsS_all (L : List Nat) (hL : L.length ≤ 12) : rowsS (fn L) (2 ^ L.length - 1) = bitsOf L := by
  have e : nums (2 ^ L.length - 1) = (List.finRange 64).filter fun k => decide (k.val < L.length) := by
    unfold nums
    exact List.filter_congr fun k _ => by rw [Nat.testBit_two_pow_sub_one]
  unfold rowsS bitsOf
  rw [e]
  have h2 : ∀ (l : List (Fin 64)), (l.filter fun k => decide (k.val < L.length)).map (fun r => (fn L r.val).testBit) = ((l.map Fin.val).filter fun k => decide (k < L.length)).map fun r => (fn L r).testBit := fun l => by
    induction l with
    | nil => rfl
    | cons a l ih =>
      rw [List.map_cons, List.filter_cons, List.filter_cons]
      by_cases h : decide (a.val < L.length) = true
      · rw [if_pos h, if_pos h, List.map_cons, List.map_cons, ih]
      · rw [if_neg h, if_neg h, ih]
  rw [h2]
  have e3 : (List.finRange 64).map Fin.val = List.range 64 := by decide +kernel
  rw [e3]
  have e4 : ∀ n, n ≤ 64 → (List.range 64).filter (fun k => decide (k < n)) = List.range n := by
    intro n hn
    have : ∀ m, n ≤ m → (List.range m).filter (fun k => decide (k < n)) = List.range n := fun m => by
      induction m with
      | zero => intro h; rw [Nat.le_zero.1 h]; rfl
      | succ m ih =>
        intro h
        rw [List.range_succ, List.filter_append]
        rcases Nat.lt_or_ge m n with h1 | h1
        · obtain rfl : n = m + 1 := by omega
          rw [List.range_succ, List.filter_eq_self.2 (fun k hk => by have := List.mem_range.1 hk; simp; omega)]
          simp
        · rw [ih h1]; simp; omega
    exact this 64 hn
  rw [e4 _ (by omega)]
  apply List.ext_getElem?
  intro i
  rw [List.getElem?_map, List.getElem?_map]
  rcases Nat.lt_or_ge i L.length with h | h
  · rw [List.getElem?_range h, fn_get h]; rfl
  · rw [List.getElem?_eq_none (by simpa using h), List.getElem?_eq_none h]; rfl
set_option maxRecDepth 100000 in
set_option maxHeartbeats 4000000 in
theorem countF (L : List Nat) (oa : Option Addr) (cap : Nat) (m : Nat) (hm : m < 18446744073709551616) (w : World) (hA : RwA w (.slice oa L.length cap) L.length (fn L)) (hw : ∀ z ∈ L, z < 18446744073709551616) (ht : Tab w) :
    Calls Tryd.prog 11 #[.slice oa L.length cap, .int .u64 (m : Int)] w fun e w' => e = .returned (.int .u64 (cntL L (min m 65536) : Int)) ∧ Below w.heap.size w w' := by
  have KF := hide' (fullF hA)
  have hA' := hide' hA
  have ht' := hide' ht
  have hw' := hide' hw
  clear hA hw ht
  go_enter Tryd.func11, Tryd.ntmps11
  go_wp2_with fail
  refine KF.out.mono ?_
  rintro e w1 (⟨hn, gm, ow, pl, rfl, hS⟩ | ⟨rfl, hb, hno⟩)
  · have hB1 : Hid (Below w.heap.size w w1) := hS.out.old
    have hfull := hS.out.st.full
    clear hS KF
    have z0 := zeroC
    have z1 := zcC_size
    have z2 := zcC_ne
    have hmM : min (m : Int) 65536 = ((min m 65536 : Nat) : Int) := by omega
    have hML : min m 65536 ≤ 65536 := Nat.min_le_right _ _
    generalize hMe : min m 65536 = M at *
    have HMe := hide' hMe
    clear hMe
    have hbc : zcC.setIfInBounds 0 (.int .u64 (M : Int)) = bcC (.int .u64 (M : Int)) := rfl
    have hsc := storeCs w1 (.int .u64 (M : Int)) rfl
    have hsa := storeC w1 (.int .u64 (M : Int)) rfl
    go_upto_region 5 with fail
    have hC0 : Hid (CAt (w1.alloc (.cells (bcC (.int .u64 (M : Int))) 71)) w1.heap.size M (fun _ => 0)) := CAt.start w1 M
    have hB2 : Hid (Below w.heap.size w (w1.alloc (.cells (bcC (.int .u64 (M : Int))) 71))) := hB1.out.alloc hB1.out.size _
    have hgc : w.heap.size ≤ w1.heap.size := hB1.out.size
    clear hbc hsc hsa z0 z1 z2 hmM hB1
    generalize w1.alloc (.cells (bcC (.int .u64 (M : Int))) 71) = w2 at *
    generalize w1.heap.size = gc at *
    generalize bcC (.int .u64 (M : Int)) = bc at *
    have c0 := hC0.out.cell0
    have c1 : w2.cell? ⟨gc, 1, none⟩ = some (.int .u64 0) := hC0.out.cellW (s := 0) (by decide)
    have f1 := hC0.out.frz 1
    have hm1 : min (1 : Int) (M : Int) = ((min 1 M : Nat) : Int) := by omega
    have hC1 : Hid (CAt (w2.setCell ⟨gc, 1, none⟩ (.int .u64 ((min 1 M : Nat) : Int))) gc M (upd (fun _ => 0) 0 (min 1 M))) := hC0.out.setW 0 _
    have hB3 : Hid (Below w.heap.size w (w2.setCell ⟨gc, 1, none⟩ (.int .u64 ((min 1 M : Nat) : Int)))) := hB2.out.setCell (p := ⟨gc, 1, none⟩) hgc _
    have hst : Hid (∀ s, s < 2 ^ L.length → upd (fun _ => 0) 0 (min 1 M) s = wA (fn L) M 0 s) := fun s hs => (wA_start (fn L) M s (Nat.lt_of_lt_of_le hs (show 2 ^ L.length ≤ 2 ^ 64 from Nat.pow_le_pow_right (by decide) (by omega)))).symm
    clear hC0 hB2
    go_wp2
    generalize w2.setCell ⟨gc, 1, none⟩ (.int .u64 ((min 1 M : Nat) : Int)) = w3 at *
    have hend : Hid (∀ f : Nat → Nat, (∀ s, s < 2 ^ L.length → f s = wA (fn L) M 64 s) → f (2 ^ L.length - 1) = cntL L M) := fun f hf => by
      have h1 : 0 < 2 ^ L.length := Nat.pow_pos (by decide)
      rw [hf _ (by omega)]
      unfold wA cntL
      rw [if_pos hn, rowsS_all L hn]
    clear c0 c1 f1 hm1 hfull
    go_loopw [8, 24] (fun _ p wr => ∃ (u : Nat) (f : Nat → Nat), u ≤ 64 ∧ p = .int .i64 (u : Int) ∧ Hid (CAt wr gc M f) ∧ Hid (Below w.heap.size w wr) ∧ Hid (∀ s, s < 2 ^ L.length → f s = wA (fn L) M u s)) (fun _ p _ => (64 - intOf p).toNat)
    case atStart => exact ⟨0, _, by omega, rfl, hC1, hB3, hst⟩
    case round =>
      clear hC1 hB3 hst
      obtain ⟨u, f, hu, rfl, hC, hB, hf⟩ := hrel
      have h12 : (2 : Nat) ^ L.length ≤ 2 ^ 12 := Nat.pow_le_pow_right (by decide) hn
      have h1p : 0 < 2 ^ L.length := Nat.pow_pos (by decide)
      have hsh : IntKind.i64.wrap (2 ^ L.length) = ((2 ^ L.length : Nat) : Int) := by
        have h2 : ((2 : Int) ^ L.length) = ((2 ^ L.length : Nat) : Int) := by simp
        rw [h2, IntKind.wrap_i64]
        generalize (2 ^ L.length : Nat) = q at h12 ⊢
        omega
      have hsu : IntKind.i64.wrap (((2 ^ L.length : Nat) : Int) - 1) = ((2 ^ L.length - 1 : Nat) : Int) := by
        rw [IntKind.wrap_i64]
        generalize (2 ^ L.length : Nat) = q at h12 h1p ⊢
        omega
      have hn64 : L.length < 64 := by omega
      by_cases hu64 : u < 64
      · have hu' : (u : Int) < 64 := by omega
        have KA : Hid (∀ V, Below w.heap.size w V → Calls Tryd.prog 30 #[.slice oa L.length cap, .int .i64 (u : Int)] V fun e w' => e = .returned (.agg #[.int .u64 (askN (fn L) u L.length : Int)]) ∧ Below V.heap.size V w') := fun V hV => askersF (hA'.out.over hV) u hn
        have KO : Hid (∀ V, Below wr.heap.size wr V → Calls Tryd.prog 29 #[.pointer (some ⟨gc, 0, none⟩), .agg #[.int .u64 (askN (fn L) u L.length : Int)], .int .i64 ((2 ^ L.length - 1 : Nat) : Int)] V fun e W' => e = .returned (.tuple #[]) ∧ ∃ f', Hid (Below w.heap.size w W') ∧ Hid (CAt W' gc M f') ∧ Hid (∀ s, s < 2 ^ L.length → f' s = wA (fn L) M (u + 1) s)) := fun V hV => offerF w V gc M L.length u (fn L) f ht'.out (hB.out.trans (hV.mono hB.out.size)) hgc (hC.out.below hV) hML hn hf.out
        have hd0 : Hid (Below w.heap.size w wr.drew) := hB.out.drew
        clear hf hC h12 h1p hend
        generalize askN (fn L) u L.length = who at *
        generalize hN1 : (2 ^ L.length - 1 : Nat) = N1 at *
        generalize (2 ^ L.length : Nat) = N at *
        clear hN1
        go_wp2
        go_region_with (first | (go_at_call 30; refine (KA.out _ hd0.out).mono ?_; rintro e w4 ⟨rfl, hb4⟩; have hb4' : Below wr.heap.size wr w4 := ((Below.refl _ wr).drew).trans hb4) | (go_at_call 29; refine (KO.out _ hb4').mono ?_; rintro e w5 ⟨rfl, f', hB5, hC5, hf5⟩))
        all_goals
          go_wp2
          exact ⟨⟨u + 1, f', by omega, by go_num, hC5, hB5, hf5⟩, by simp [intOf]; omega⟩
      · obtain rfl : u = 64 := by omega
        have hq := hend.out f hf.out
        have cE := hC.out.cellW (s := 2 ^ L.length - 1) (by have : (2 : Nat) ^ 12 = 4096 := rfl; omega)
        rw [hq] at cE
        have hi0 : ¬ ((2 ^ L.length - 1 : Nat) : Int) < 0 := by omega
        have hi1 : ((2 ^ L.length - 1 : Nat) : Int) < 4096 := by have : (2 : Nat) ^ 12 = 4096 := rfl; omega
        clear hend hf hq h12 h1p
        generalize (2 ^ L.length - 1 : Nat) = N1 at *
        generalize (2 ^ L.length : Nat) = N at *
        generalize hre : cntL L M = r at *
        have Hre := hide' hre
        clear hre
        go_wp2
        go_ret
        exact ⟨by rw [HMe.out, Hre.out]; rfl, hB.out⟩
  · have hc : cntL L (min m 65536) = 0 := by
      unfold cntL
      split
      · rename_i h12
        rw [wy_none fun h => hno.out h12 (full_iff.1 h)]
        omega
      · rfl
    have hc' := hide' hc
    clear hc
    go_wp2
    go_ret
    exact ⟨by rw [hc'.out]; rfl, hb.out⟩
end Go.Proofs.YtmoiedlchcceaaaDoor.M

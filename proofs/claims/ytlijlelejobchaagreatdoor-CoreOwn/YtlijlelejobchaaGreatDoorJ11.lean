/- A look in memory: whom it asks, its levels, its gauge. -/
import Derived.Test.YtlijlelejobchaaGreatDoorJ02
import Derived.Test.YtlijlelejobchaaGreatDoorJ05
import Derived.Test.YtlijlelejobchaaGreatDoorJ10
import Derived.Deep.WholeRow
import Derived.Deep.RegionHeld3
namespace Go.Proofs.YtlijlelejobchaaGreatDoor.S
open Go.RowKit Go.Shelf
/-- A level's cells. -/
def lvF (f : Nat → Nat) (b : Nat) : Nat → Value := fun i => if i < 12 then .int .u64 (f i : Int) else .int .i64 (b : Int)
def lvA (f : Nat → Nat) (b : Nat) : Array Value := ((List.range 13).map (lvF f b)).toArray
theorem lvA_size (f : Nat → Nat) (b : Nat) : (lvA f b).size = 13 := by simp [lvA]
theorem lvA_at (f : Nat → Nat) (b : Nat) (i : Nat) (hi : i < 13) : (lvA f b)[i]? = some (lvF f b i) := by simp [lvA, hi]
theorem lvA_one (f : Nat → Nat) (b : Nat) : (lvA f b).all (·.oneCell') = true := by
  rw [Array.all_eq_true]
  intro i hi
  rw [lvA_size] at hi
  have h := lvA_at f b i hi
  rw [Array.getElem?_eq_some_iff] at h
  obtain ⟨_, h⟩ := h
  rw [h]
  unfold lvF
  split <;> rfl
theorem lvA_of {cs : Array Value} {f : Nat → Nat} {b : Nat} (h1 : cs.size = 13) (h2 : ∀ i, i < 13 → cs[i]? = some (lvF f b i)) : cs = lvA f b := by
  apply Array.ext_getElem?
  intro i
  rcases Nat.lt_or_ge i 13 with h | h
  · rw [h2 i h, lvA_at f b i h]
  · rw [Array.getElem?_eq_none (by omega), Array.getElem?_eq_none (by rw [lvA_size]; exact h)]
theorem lv_info : (Tryz.prog.info? 90).map (·.size) = some 13 := by kernel_rfl
theorem lv_under : ∃ fs, Tryz.prog.underlying 90 = some (.struct fs) := ⟨_, Tryz.underlying90⟩
def LvAt (W : World) (g : Nat) (f : Nat → Nat) (b : Nat) : Prop := W.rowIs g 90 13 (lvF f b)
section
variable {W W' : World} {g : Nat} {f : Nat → Nat} {b : Nat}
theorem LvAt.start (w : World) (f : Nat → Nat) (b : Nat) : LvAt (w.alloc (.cells (lvA f b) 90)) w.heap.size f b := ⟨_, I.heap_new w _, lvA_size f b, fun i hi => lvA_at f b i hi⟩
theorem LvAt.load (h : LvAt W g f b) : (loadVar 90 ⟨g, 0, none⟩).run Tryz.prog W = .ok (.agg (lvA f b)) W := by
  obtain ⟨cs, h1, h2, h3⟩ := h
  obtain ⟨fs, hu⟩ := lv_under
  rw [← lvA_of h2 h3]
  exact run_loadVar_row W g _ _ cs (0, 0) _ h1 hu rfl (by rw [lv_info, h2])
theorem LvAt.loadAt (h : LvAt W g f b) : (Instr.loadAt 90 (.pointer (some ⟨g, 0, none⟩))).run Tryz.prog W = .ok (.agg (lvA f b)) W := by
  simp only [Instr.loadAt, Instr.sureAddr, Sem.run_bind, Sem.run_pure, Result.andThen]
  exact h.load
theorem LvAt.cellW (h : LvAt W g f b) {i : Nat} (hi : i < 12) : W.cell? ⟨g, i, none⟩ = some (.int .u64 (f i : Int)) := by
  have := World.rowIs.cell h (i := i) (by omega)
  rw [this]; unfold lvF; rw [if_pos hi]
theorem LvAt.cellB (h : LvAt W g f b) : W.cell? ⟨g, 12, none⟩ = some (.int .i64 (b : Int)) := World.rowIs.cell h (i := 12) (by decide)
theorem LvAt.frz (h : LvAt W g f b) (i : Nat) : W.frozen? ⟨g, i, none⟩ = false := World.rowIs.frozen h i
theorem LvAt.lt (h : LvAt W g f b) : g < W.heap.size := World.rowIs.lt h
theorem LvAt.of (h : LvAt W g f b) (e : W'.heap[g]? = W.heap[g]?) : LvAt W' g f b := World.rowIs.of_block h e
theorem LvAt.below (h : LvAt W g f b) (hb : Below W.heap.size W W') : LvAt W' g f b := h.of (hb.block g h.lt)
theorem LvAt.setW (h : LvAt W g f b) {i : Nat} (hi : i < 12) (z : Nat) : LvAt (W.setCell ⟨g, i, none⟩ (.int .u64 (z : Int))) g (M.upd f i z) b :=
  World.rowIs.congr (World.rowIs.set h i _) fun j hj => by
    unfold lvF
    by_cases e : j = i
    · subst e; rw [if_pos rfl, if_pos hi, M.upd_same]
    · rw [if_neg e]
      split
      · rw [M.upd_ne _ _ e]
      · rfl
theorem LvAt.setB (h : LvAt W g f b) (c : Nat) : LvAt (W.setCell ⟨g, 12, none⟩ (.int .i64 (c : Int))) g f c :=
  World.rowIs.congr (World.rowIs.set h 12 _) fun j hj => by
    unfold lvF
    by_cases e : j = 12
    · subst e; rw [if_pos rfl, if_neg (by decide)]
    · rw [if_neg e, if_pos (by omega), if_pos (by omega)]
end
theorem wpList_load_row {P : Program} {ops : Array Oper} {rest : List Oper} {o : Oper} {a : Act} {w : World} {Q : Exit → Act → World → Prop} (hg : o.guard = none) (ty : TypeId) (x : Operand) (ho : o.op = .load ty x) (ad : Addr) (hx : a.eval x = .pointer (some ad)) (A : Array Value)
    (hl : (loadVar ty ad).run P w = .ok (.agg A) w) (h : wpList P ops Q rest (a.put o.dst (.agg A)) w) : wpList P ops Q (o :: rest) a w := by
  refine wpList_plain hg fun K hK => ?_
  unfold Oper.wp
  simp only [execOp, ho, hx, Instr.loadAt, Instr.sureAddr, Sem.run_bind, Sem.run_pure, Result.andThen_ok, hl]
  exact hK _ _ h
theorem wpList_store_row {P : Program} {ops : Array Oper} {rest : List Oper} {o : Oper} {a : Act} {w w' : World} {Q : Exit → Act → World → Prop} (hg : o.guard = none) (ty : TypeId) (x y : Operand) (ho : o.op = .store ty x y) (ad : Addr) (hx : a.eval x = .pointer (some ad)) (A : Array Value) (hy : a.eval y = .agg A)
    (hl : (storeVar ty ad (.agg A)).run P w = .ok () w') (h : wpList P ops Q rest (a.put o.dst undef) w') : wpList P ops Q (o :: rest) a w := by
  refine wpList_plain hg fun K hK => ?_
  unfold Oper.wp
  simp only [execOp, ho, hx, hy, Instr.storeAt, Instr.sureAddr, Sem.run_bind, Sem.run_pure, Result.andThen_ok, hl]
  exact hK _ _ h
theorem LvAt.store {W : World} {g : Nat} {f f' : Nat → Nat} {b b' : Nat} (h : LvAt W g f b) : (storeVar 90 ⟨g, 0, none⟩ (.agg (lvA f' b'))).run Tryz.prog W = .ok () (W.setRow g (lvA f' b')) := by
  obtain ⟨cs, h1, h2, _⟩ := h
  exact run_storeVar_row W g _ _ cs (lvA f' b') h1 (by rw [lv_info, lvA_size]) (by rw [h2, lvA_size]) (lvA_one f' b')
theorem heap_setRow (W : World) (g : Nat) (cs : Array Value) (k : Nat) (h : k ≠ g) : (W.setRow g cs).heap[k]? = W.heap[k]? := by
  simp only [World.setRow]
  rw [Array.getElem?_modify, if_neg (by omega)]
theorem LvAt.row {W : World} {g : Nat} {f f' : Nat → Nat} {b b' : Nat} (h : LvAt W g f b) : LvAt (W.setRow g (lvA f' b')) g f' b' := by
  obtain ⟨cs, h1, h2, _⟩ := h
  refine ⟨lvA f' b', ?_, lvA_size _ _, fun i hi => lvA_at _ _ i hi⟩
  simp only [World.setRow]
  rw [Array.getElem?_modify, if_pos rfl, h1]
  rfl
theorem below_setRow {n : Nat} {w W : World} (h : Below n w W) {g : Nat} (hg : n ≤ g) (cs : Array Value) : Below n w (W.setRow g cs) :=
  ⟨h.os, h.tape, h.output, by simpa [World.setRow] using h.size, fun k hk => (heap_setRow W g cs k (by omega)).trans (h.block k hk)⟩
/-- One step more, in that block. -/
def wiF (f : Nat → Nat) (b k m : Nat) : Nat → Nat := if k = b then M.upd f k m else M.upd f k (f k &&& m)
def wiB (b k : Nat) : Nat := if k = b then b + 1 else b
set_option maxRecDepth 100000 in
set_option maxHeartbeats 2000000 in
theorem withF (f : Nat → Nat) (b k m : Nat) (hb : b ≤ 12) (hk : k < 12) (hf : f k < 18446744073709551616) (hm : m < 18446744073709551616) (w : World) :
    Calls Tryz.prog 95 #[.agg (lvA f b), .int .i64 (k : Int), .int .u64 (m : Int)] w fun e w' => e = .returned (.agg (lvA (wiF f b k m) (wiB b k))) ∧ Below w.heap.size w w' := by
  have hL0 := hide' (LvAt.start w f b)
  have hand := u64_and_nat (f k) m hf hm
  clear hf hm
  generalize lvA f b = ca at *
  go_enter Tryz.func95, Tryz.ntmps95
  go_upto_region 1 with fail
  have hL1 : Hid (LvAt ((w.alloc (.cells ca 90)).alloc (.cells (lvA (fun _ => 0) 0) 90)) w.heap.size f b) := hL0.out.below ((Below.refl _ _).alloc (Nat.le_refl _) _)
  have hL2 : Hid (LvAt ((w.alloc (.cells ca 90)).alloc (.cells (lvA (fun _ => 0) 0) 90)) (w.heap.size + 1) (fun _ => 0) 0) := by
    have := LvAt.start (w.alloc (.cells ca 90)) (fun _ => 0) 0
    rwa [World.size_alloc] at this
  have hB : Hid (Below w.heap.size w ((w.alloc (.cells ca 90)).alloc (.cells (lvA (fun _ => 0) 0) 90))) := ((Below.refl _ w).alloc (Nat.le_refl _) _).alloc (by simp) _
  rw [show (w.alloc (.cells ca 90)).alloc (.cells #[.int .u64 0, .int .u64 0, .int .u64 0, .int .u64 0, .int .u64 0, .int .u64 0, .int .u64 0, .int .u64 0, .int .u64 0, .int .u64 0, .int .u64 0, .int .u64 0, .int .i64 0] 90) = (w.alloc (.cells ca 90)).alloc (.cells (lvA (fun _ => 0) 0) 90) from rfl]
  clear hL0
  generalize (w.alloc (.cells ca 90)).alloc (.cells (lvA (fun _ => 0) 0) 90) = w2 at *
  have cb := hL1.out.cellB
  have hk0 : ¬ (k : Int) < 0 := by omega
  have hk1 : (k : Int) < 12 := by omega
  by_cases he : k = b
  · subst he
    have hkk : ((k : Int) == (k : Int)) = true := by simp
    have hA1 : Hid (LvAt ((w2.setCell ⟨w.heap.size, k, none⟩ (.int .u64 (m : Int))).setCell ⟨w.heap.size, 12, none⟩ (.int .i64 ((k : Int) + 1))) w.heap.size (wiF f k k m) (wiB k k)) := by
      have h9 := (hL1.out.setW hk m).setB (k + 1)
      rw [show ((k + 1 : Nat) : Int) = (k : Int) + 1 by omega] at h9
      unfold wiF wiB
      rw [if_pos rfl, if_pos rfl]; exact h9
    have hA2 : Hid (LvAt ((w2.setCell ⟨w.heap.size, k, none⟩ (.int .u64 (m : Int))).setCell ⟨w.heap.size, 12, none⟩ (.int .i64 ((k : Int) + 1))) (w.heap.size + 1) (fun _ => 0) 0) := (hL2.out.of (Below.heap_setCell _ _ _ _ (by show w.heap.size + 1 ≠ w.heap.size; omega))).of (Below.heap_setCell _ _ _ _ (by show w.heap.size + 1 ≠ w.heap.size; omega))
    have hA3 : Hid (Below w.heap.size w ((w2.setCell ⟨w.heap.size, k, none⟩ (.int .u64 (m : Int))).setCell ⟨w.heap.size, 12, none⟩ (.int .i64 ((k : Int) + 1)))) := (hB.out.setCell (p := ⟨w.heap.size, k, none⟩) (Nat.le_refl _) _).setCell (p := ⟨w.heap.size, 12, none⟩) (Nat.le_refl _) _
    have ck := hL1.out.cellW hk
    have fk := hL1.out.frz k
    have cb2 := (hL1.out.setW hk m).cellB
    have fb2 := (hL1.out.setW hk m).frz 12
    go_upto_region 5 with fail
    clear hL1 hL2 hB cb ck fk cb2 fb2
    generalize (w2.setCell ⟨w.heap.size, k, none⟩ (.int .u64 (m : Int))).setCell ⟨w.heap.size, 12, none⟩ (.int .i64 ((k : Int) + 1)) = w5 at *
    generalize hf5 : wiF f k k m = f5 at *
    generalize hb5 : wiB k k = b5 at *
    have Hf5 := hide' hf5
    have Hb5 := hide' hb5
    clear hf5 hb5
    go_wp2_with (first | (refine wpList_load_row rfl 90 _ rfl ⟨w.heap.size, 0, none⟩ rfl (lvA f5 b5) hA1.out.load ?_) | (refine wpList_store_row rfl 90 _ _ rfl ⟨w.heap.size + 1, 0, none⟩ rfl (lvA f5 b5) rfl hA2.out.store ?_))
    have hr := (hA2.out.row (f' := f5) (b' := b5)).load
    exact bodyPost_ret (v := .agg (lvA f5 b5)) (by simp [results, Tryz.results95, asAddr, hr]) rfl ⟨by rw [Hf5.out, Hb5.out], below_setRow hA3.out (by omega) _⟩
  · have hkk : ((k : Int) == (b : Int)) = false := by rw [beq_eq_false_iff_ne]; omega
    have hA1 : Hid (LvAt (w2.setCell ⟨w.heap.size, k, none⟩ (.int .u64 ((f k &&& m : Nat) : Int))) w.heap.size (wiF f b k m) (wiB b k)) := by
      unfold wiF wiB
      rw [if_neg he, if_neg he]; exact hL1.out.setW hk _
    have hA2 : Hid (LvAt (w2.setCell ⟨w.heap.size, k, none⟩ (.int .u64 ((f k &&& m : Nat) : Int))) (w.heap.size + 1) (fun _ => 0) 0) := hL2.out.of (Below.heap_setCell _ _ _ _ (by show w.heap.size + 1 ≠ w.heap.size; omega))
    have hA3 : Hid (Below w.heap.size w (w2.setCell ⟨w.heap.size, k, none⟩ (.int .u64 ((f k &&& m : Nat) : Int)))) := hB.out.setCell (p := ⟨w.heap.size, k, none⟩) (Nat.le_refl _) _
    have ck := hL1.out.cellW hk
    have fk := hL1.out.frz k
    generalize hq : (f k &&& m : Nat) = q at *
    clear hq
    go_upto_region 5 with fail
    clear hL1 hL2 hB cb ck fk
    generalize w2.setCell ⟨w.heap.size, k, none⟩ (.int .u64 (q : Int)) = w5 at *
    generalize hf5 : wiF f b k m = f5 at *
    generalize hb5 : wiB b k = b5 at *
    have Hf5 := hide' hf5
    have Hb5 := hide' hb5
    clear hf5 hb5
    go_wp2_with (first | (refine wpList_load_row rfl 90 _ rfl ⟨w.heap.size, 0, none⟩ rfl (lvA f5 b5) hA1.out.load ?_) | (refine wpList_store_row rfl 90 _ _ rfl ⟨w.heap.size + 1, 0, none⟩ rfl (lvA f5 b5) rfl hA2.out.store ?_))
    have hr := (hA2.out.row (f' := f5) (b' := b5)).load
    exact bodyPost_ret (v := .agg (lvA f5 b5)) (by simp [results, Tryz.results95, asAddr, hr]) rfl ⟨by rw [Hf5.out, Hb5.out], below_setRow hA3.out (by omega) _⟩
end Go.Proofs.YtlijlelejobchaaGreatDoor.S
namespace Go.Proofs.YtlijlelejobchaaGreatDoor.S
open Go.RowKit Go.Shelf
/-- How many may have some place: the rows' words together. -/
def bitsN (R : Nat → Nat) : Nat → Nat
  | 0 => 0
  | k + 1 => bitsN R k + (M.nums (R k)).length
theorem bitsN_le (R : Nat → Nat) (k : Nat) : bitsN R k ≤ 64 * k := by
  induction k with
  | zero => exact Nat.le_refl _
  | succ k ih =>
    have h1 : (M.nums (R k)).length ≤ 64 := by rw [M.len_nums]; exact M.cnt_le 64 _
    rw [bitsN]; omega
section
variable {n : Nat} {R : Nat → Nat} {w : World} {oa : Option Addr} {cap : Nat}
set_option maxRecDepth 100000 in
set_option maxHeartbeats 1000000 in
theorem edgesF (hA : M.RwA w (.slice oa n cap) n R) (hn : n ≤ 12) (k : Nat) (hk : k ≤ 1000) : Calls Tryz.prog 58 #[.slice oa n cap, .int .i64 (k : Int)] w fun e w' => e = .returned (.int .u64 ((bitsN R n * k : Nat) : Int)) ∧ w' = w := by
  obtain ⟨oa', cap', e9, hrw⟩ := hA.rw
  cases e9
  have hw := hide' hA.word
  have hrw' := hide' hrw
  clear hrw hA
  have hbn := bitsN_le R n
  go_enter Tryz.func58, Tryz.ntmps58
  go_wp2
  go_loopw [5, 7, 10] (fun s _ p wr => ∃ c z : Nat, c ≤ n ∧ p = .int .i64 (c : Int) ∧ s = .int .i64 (z : Int) ∧ Hid (z = bitsN R c) ∧ w = wr) (fun _ _ p _ => ((n : Int) - intOf p).toNat)
  case atStart => exact ⟨0, 0, Nat.zero_le _, rfl, rfl, rfl, rfl⟩
  case round =>
    obtain ⟨c, z, hc, rfl, rfl, hz, rfl⟩ := hrel
    by_cases hlt : c < n
    · have hlt' : (c : Int) < (n : Int) := by omega
      obtain ⟨g, o, rfl, hcr⟩ := hrw'.out c hlt
      have hRc := hw.out c
      have hz2 : Hid (z + (M.nums (R c)).length = bitsN R (c + 1)) := by show _ = _; rw [hz.out]; rfl
      have hzl := bitsN_le R c
      have hl64 : (M.nums (R c)).length ≤ 64 := by rw [M.len_nums]; exact M.cnt_le 64 _
      have hzc : z ≤ 64 * c := by rw [hz.out]; exact hzl
      have hwa : IntKind.i64.wrap ((z : Int) + ((M.nums (R c)).length : Int)) = ((z + (M.nums (R c)).length : Nat) : Int) := by rw [IntKind.wrap_i64]; omega
      have KO := hide' (M.ones64m (R c) hRc)
      clear hRc hz hzl
      generalize (M.nums (R c)).length = q at *
      go_wp2_with (first | (go_at_call 60; refine (KO.out _).mono ?_; rintro e w1 ⟨rfl, hw1⟩; obtain rfl : w = w1 := hw1.symm))
      exact ⟨⟨c + 1, z + q, by omega, by go_num, by go_num, hz2, trivial⟩, by simp [intOf]; omega⟩
    · obtain rfl : c = n := by omega
      have hzc : z ≤ 64 * c := by rw [hz.out]; exact bitsN_le R c
      have hmul : z * k ≤ 768 * 1000 := Nat.mul_le_mul (by omega) hk
      have hm : ((z : Int) * (k : Int)) = ((z * k : Nat) : Int) := by simp
      have hwm : IntKind.i64.wrap ((z : Int) * (k : Int)) = ((z * k : Nat) : Int) := by rw [hm, IntKind.wrap_i64]; omega
      have hwu : IntKind.u64.wrap ((z * k : Nat) : Int) = ((z * k : Nat) : Int) := by rw [IntKind.wrap_u64]; omega
      clear hm hmul
      generalize hq : z * k = q at *
      have Hq := hide' hq
      clear hq
      go_wp2
      go_ret
      exact ⟨by rw [← hz.out, Hq.out]; rfl, rfl⟩
end
set_option maxRecDepth 100000 in
set_option maxHeartbeats 1000000 in
theorem rowsF (g b : Nat) (f : Nat → Nat) (w : World) (hb : b ≤ 12) (h : LvAt w g f b) : Calls Tryz.prog 56 #[.pointer (some ⟨g, 0, none⟩)] w fun e w' => e = .returned (.slice (some ⟨g, 0, none⟩) b 12) ∧ Below w.heap.size w w' := by
  have cb := h.cellB
  have h0 : ¬ (b : Int) < 0 := by omega
  have h1 : (b : Int) ≤ 12 := by omega
  clear h
  go_enter Tryz.func56, Tryz.ntmps56
  go_wp2
  go_region
  go_wp2
  go_ret
  exact ⟨rfl, (Below.refl _ _).drew⟩
theorem LvAt.rwa {w : World} {g b : Nat} {f : Nat → Nat} (h : LvAt w g f b) (hb : b ≤ 12) (ht : M.Tab w) (hw : ∀ r, f r < 18446744073709551616) : M.RwA w (.slice (some ⟨g, 0, none⟩) b 12) b f :=
  ⟨⟨_, _, rfl, fun r hr => ⟨g, 0, rfl, by rw [Nat.zero_add]; exact h.cellW (by omega)⟩⟩, ht, hw⟩
end Go.Proofs.YtlijlelejobchaaGreatDoor.S
namespace Go.Proofs.YtlijlelejobchaaGreatDoor.S
open Go.RowKit Go.Shelf
/-- A look's cells. -/
def lkF (U : Nat) (mv rv : Value) (F : Nat → Nat → Nat) (N : Nat → Nat) (gw : Nat) : Nat → Value := fun i =>
  if i = 0 then .int .i64 (U : Int) else if i = 1 then mv else if i = 2 then rv else if i < 172 then lvF (F ((i - 3) / 13)) (N ((i - 3) / 13)) ((i - 3) % 13) else .pointer (some ⟨gw, 0, none⟩)
def LkAt (W : World) (gl U : Nat) (mv rv : Value) (F : Nat → Nat → Nat) (N : Nat → Nat) (gw : Nat) : Prop := W.rowIs gl 94 173 (lkF U mv rv F N gw)
/-- A gauge's three numbers. -/
def ggF (a b c : Nat) : Nat → Value := fun i => .int .u64 ((if i = 0 then a else if i = 1 then b else c : Nat) : Int)
def GgAt (W : World) (gw a b c : Nat) : Prop := W.rowIs gw 65 3 (ggF a b c)
theorem rowIs_setCells {g : Nat} {t : TypeId} {n : Nat} : ∀ (vs : List Value) (o : Nat) (W : World) (f : Nat → Value), W.rowIs g t n f → (W.setCells g o vs).rowIs g t n (fun i => if o ≤ i ∧ i < o + vs.length then vs.getD (i - o) undef else f i)
  | [], o, W, f, h => World.rowIs.congr h fun i _ => by rw [if_neg (by simp only [List.length_nil]; omega)]
  | v :: vs, o, W, f, h => by
    have h1 := rowIs_setCells vs (o + 1) _ _ (World.rowIs.set h o v)
    refine World.rowIs.congr h1 fun i _ => ?_
    by_cases e : i = o
    · subst e
      rw [if_neg (by omega), if_pos rfl, if_pos (by simp), Nat.sub_self]; rfl
    · by_cases e2 : o ≤ i ∧ i < o + (v :: vs).length
      · have e3 : o + 1 ≤ i ∧ i < o + 1 + vs.length := by simp at e2; omega
        rw [if_pos e3, if_pos e2, show i - o = (i - (o + 1)) + 1 by omega]; rfl
      · have e3 : ¬ (o + 1 ≤ i ∧ i < o + 1 + vs.length) := by simp at e2 ⊢; omega
        rw [if_neg e3, if_neg e, if_neg e2]
theorem heap_setCells_ne (g : Nat) : ∀ (vs : List Value) (o : Nat) (W : World) (k : Nat), k ≠ g → (W.setCells g o vs).heap[k]? = W.heap[k]?
  | [], _, _, _, _ => rfl
  | v :: vs, o, W, k, h => (heap_setCells_ne g vs (o + 1) _ k h).trans (Below.heap_setCell W ⟨g, o, none⟩ v k h)
theorem below_setCells {n : Nat} {w : World} {g : Nat} (hg : n ≤ g) : ∀ (vs : List Value) (o : Nat) (W : World), Below n w W → Below n w (W.setCells g o vs)
  | [], _, _, h => h
  | v :: vs, o, _, h => below_setCells hg vs (o + 1) _ (h.setCell (p := ⟨g, o, none⟩) hg v)
section
variable {W W' : World} {gl U : Nat} {mv rv : Value} {F : Nat → Nat → Nat} {N : Nat → Nat} {gw a b c : Nat}
theorem LkAt.lt (h : LkAt W gl U mv rv F N gw) : gl < W.heap.size := World.rowIs.lt h
theorem LkAt.of (h : LkAt W gl U mv rv F N gw) (e : W'.heap[gl]? = W.heap[gl]?) : LkAt W' gl U mv rv F N gw := World.rowIs.of_block h e
theorem LkAt.below (h : LkAt W gl U mv rv F N gw) (hb : Below W.heap.size W W') : LkAt W' gl U mv rv F N gw := h.of (hb.block gl h.lt)
theorem LkAt.c0 (h : LkAt W gl U mv rv F N gw) : W.cell? ⟨gl, 0, none⟩ = some (.int .i64 (U : Int)) := World.rowIs.cell h (i := 0) (by decide)
theorem LkAt.c1 (h : LkAt W gl U mv rv F N gw) : W.cell? ⟨gl, 1, none⟩ = some mv := World.rowIs.cell h (i := 1) (by decide)
theorem LkAt.c2 (h : LkAt W gl U mv rv F N gw) : W.cell? ⟨gl, 2, none⟩ = some rv := World.rowIs.cell h (i := 2) (by decide)
theorem LkAt.cw (h : LkAt W gl U mv rv F N gw) : W.cell? ⟨gl, 172, none⟩ = some (.pointer (some ⟨gw, 0, none⟩)) := World.rowIs.cell h (i := 172) (by decide)
theorem LkAt.frz (h : LkAt W gl U mv rv F N gw) (i : Nat) : W.frozen? ⟨gl, i, none⟩ = false := World.rowIs.frozen h i
theorem LkAt.range (h : LkAt W gl U mv rv F N gw) {j : Nat} (hj : j < 13) : W.rangeAt gl (3 + j * 13) (lvA (F j) (N j)).toList := fun i v hv => by
  have hi : i < 13 := by have := (List.getElem?_eq_some_iff.1 hv).1; rw [Array.length_toList, lvA_size] at this; exact this
  rw [Array.getElem?_toList, lvA_at _ _ i hi] at hv
  have h1 := World.rowIs.cell h (i := 3 + j * 13 + i) (by omega)
  rw [h1, ← hv]
  unfold lkF
  rw [if_neg (by omega), if_neg (by omega), if_neg (by omega), if_pos (by omega), show (3 + j * 13 + i - 3) / 13 = j by omega, show (3 + j * 13 + i - 3) % 13 = i by omega]
theorem LkAt.there (h : LkAt W gl U mv rv F N gw) {j : Nat} (hj : j < 13) : W.there gl (3 + j * 13) 13 := fun i hi => ⟨by rw [World.rowIs.cell h (i := 3 + j * 13 + i) (by omega)]; rfl, h.frz _⟩
theorem LkAt.setL (h : LkAt W gl U mv rv F N gw) {j : Nat} (hj : j < 13) (f : Nat → Nat) (n : Nat) : LkAt (W.setCells gl (3 + j * 13) (lvA f n).toList) gl U mv rv (M.upd F j f) (M.upd N j n) gw := by
  refine World.rowIs.congr (rowIs_setCells _ _ _ _ h) fun i hi => ?_
  rw [Array.length_toList, lvA_size]
  unfold lkF
  by_cases e : 3 + j * 13 ≤ i ∧ i < 3 + j * 13 + 13
  · rw [if_pos e, if_neg (by omega), if_neg (by omega), if_neg (by omega), if_pos (by omega), show (i - 3) / 13 = j by omega, M.upd_same, M.upd_same, List.getD_eq_getElem?_getD, Array.getElem?_toList, lvA_at _ _ _ (by omega), show (i - 3) % 13 = i - (3 + j * 13) by omega]
    rfl
  · rw [if_neg e]
    split
    · rfl
    · split
      · rfl
      · split
        · rfl
        · split
          · rw [M.upd_ne _ _ (by omega), M.upd_ne _ _ (by omega)]
          · rfl
theorem GgAt.lt (h : GgAt W gw a b c) : gw < W.heap.size := World.rowIs.lt h
theorem GgAt.of (h : GgAt W gw a b c) (e : W'.heap[gw]? = W.heap[gw]?) : GgAt W' gw a b c := World.rowIs.of_block h e
theorem GgAt.below (h : GgAt W gw a b c) (hb : Below W.heap.size W W') : GgAt W' gw a b c := h.of (hb.block gw h.lt)
theorem GgAt.c0 (h : GgAt W gw a b c) : W.cell? ⟨gw, 0, none⟩ = some (.int .u64 (a : Int)) := World.rowIs.cell h (i := 0) (by decide)
theorem GgAt.c1 (h : GgAt W gw a b c) : W.cell? ⟨gw, 1, none⟩ = some (.int .u64 (b : Int)) := World.rowIs.cell h (i := 1) (by decide)
theorem GgAt.c2 (h : GgAt W gw a b c) : W.cell? ⟨gw, 2, none⟩ = some (.int .u64 (c : Int)) := World.rowIs.cell h (i := 2) (by decide)
theorem GgAt.frz (h : GgAt W gw a b c) (i : Nat) : W.frozen? ⟨gw, i, none⟩ = false := World.rowIs.frozen h i
theorem GgAt.s0 (h : GgAt W gw a b c) (z : Nat) : GgAt (W.setCell ⟨gw, 0, none⟩ (.int .u64 (z : Int))) gw z b c :=
  World.rowIs.congr (World.rowIs.set h 0 _) fun i hi => by
    unfold ggF
    by_cases e : i = 0
    · subst e; rfl
    · rw [if_neg e, if_neg e, if_neg e]
theorem GgAt.s1 (h : GgAt W gw a b c) (z : Nat) : GgAt (W.setCell ⟨gw, 1, none⟩ (.int .u64 (z : Int))) gw a z c :=
  World.rowIs.congr (World.rowIs.set h 1 _) fun i hi => by
    unfold ggF
    by_cases e : i = 1
    · subst e; rfl
    · rw [if_neg e, if_neg e, if_neg e]
theorem GgAt.s2 (h : GgAt W gw a b c) (z : Nat) : GgAt (W.setCell ⟨gw, 2, none⟩ (.int .u64 (z : Int))) gw a b z :=
  World.rowIs.congr (World.rowIs.set h 2 _) fun i hi => by
    unfold ggF
    by_cases e : i = 2
    · subst e; rfl
    · rw [if_neg e]
      by_cases e0 : i = 0
      · rw [if_pos e0, if_pos e0]
      · rw [if_neg e0, if_neg e0, if_pos (by omega), if_pos (by omega)]
end
end Go.Proofs.YtlijlelejobchaaGreatDoor.S

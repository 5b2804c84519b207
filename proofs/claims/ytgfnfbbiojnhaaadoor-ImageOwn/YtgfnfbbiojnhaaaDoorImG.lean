/- put, fit, size. -/
import Derived.Test.YtgfnfbbiojnhaaaDoorImF
import Derived.Deep.AppendLies
namespace Go.Proofs.YtgfnfbbiojnhaaaDoor
open Go.RowKit
/-- A byte laid behind a row of bytes. -/
theorem app_byteL {ops : Array Oper} {rest : List Oper} {o : Oper} {a : Act} {Q : Exit → Act → World → Prop} (hgd : o.guard = none) (s x : Operand) (B : Nat) (W : World) (v : Value) (L : List Nat) (z : Nat) (ho : o.op = .call { callee := .builtin .append, args := #[s, x], argTypes := #[24, 24] })
    (es : a.eval s = v) (ex : a.eval x = .slice (some ⟨W.heap.size, 0, none⟩) 1 1) (hT : W.ownsRow B 5 1 v L.length (cellsB L)) (hB : B ≤ W.heap.size) (hn : L.length ≤ 1000000)
    (h : ∀ v2 w2, w2.ownsRow B 5 1 v2 (L ++ [z]).length (cellsB (L ++ [z])) → Below B W w2 → wpList Tryd.prog ops Q rest (a.put o.dst v2) w2) : wpList Tryd.prog ops Q (o :: rest) a (W.alloc (.cells #[.int .u8 (z : Int)] 5)) := by
  obtain ⟨i0, hi, hz0, hz1, hz2⟩ := info_parts infoU8
  refine wpList_append_own _ hgd s x 24 ho B 5 i0 (.int .u8 0) 1 1 Tryd.underlying24 hi hz0 hz1 hz2 rfl (by decide) v L.length (cellsB L) es (hT.alloc _) ⟨W.heap.size, 0, none⟩ 1 1 [.int .u8 (z : Int)] ex rfl (World.news_of_block (cs := #[.int .u8 (z : Int)]) (heap_new _ _)) (by simp [Value.oneCell']) (by unfold maxLen; omega) (by omega) (by simp; omega) ?_
  intro v2 w2 hown hgrow _
  refine h v2 w2 ?_ (((Below.refl B W).alloc hB _).grown hgrow (by simp; omega) (fun j ej => own_ge' hT ej))
  have e : cellsB (L ++ [z]) = cellsB L ++ [.int .u8 (z : Int)] := by simp [cellsB]
  rw [e, List.length_append]
  exact hown
/-- What a call answers that lays bytes behind a row. -/
def PuP (w : World) (B : Nat) (L : List Nat) (e : Ending) (w' : World) : Prop :=
  ∃ v, e = .returned v ∧ Hid (w'.ownsRow B 5 1 v L.length (cellsB L)) ∧ Hid (Below B w w')
set_option maxRecDepth 100000 in
set_option maxHeartbeats 2000000 in
theorem putF (B : Nat) (v : Value) (L : List Nat) (wd n : Nat) (w : World) (hO : w.ownsRow B 5 1 v L.length (cellsB L)) (hB : B ≤ w.heap.size) (hw : wd ≤ 8) (hl : L.length ≤ 100000) (_ : n < 18446744073709551616) :
    Calls Tryd.prog 16 #[v, .int .i64 (wd : Int), .int .u64 (n : Int)] w (PuP w B (L ++ be wd n)) := by
  unfold PuP
  have hO' := hide' hO
  clear hO
  go_enter Tryd.func16, Tryd.ntmps16
  go_wp2
  go_loopw [0, 7, 9] (fun v _ p wr => ∃ j : Nat, j ≤ wd ∧ p = .int .i64 (j : Int) ∧ Hid (wr.ownsRow B 5 1 v (L ++ (be wd n).take j).length (cellsB (L ++ (be wd n).take j))) ∧ Hid (Below B w wr)) (fun _ _ p _ => ((wd : Int) - intOf p).toNat)
  case atStart => exact ⟨0, Nat.zero_le _, rfl, by simpa using hO', Below.refl _ _⟩
  case round =>
    clear hO'
    obtain ⟨j, hj, rfl, hO, hb⟩ := hrel
    by_cases hlt : j < wd
    · have hlt' : (j : Int) < (wd : Int) := by omega
      obtain ⟨ov, nv, cv, rfl⟩ : ∃ a b c, u0 = .slice a b c := by obtain ⟨a, c, e⟩ := own_shp hO.out; exact ⟨a, _, c, e⟩
      have hlen : (L ++ (be wd n).take j).length ≤ 1000000 := by simp [be_len]; omega
      have hE := hide' (be_take (n := n) L hlt)
      have hz := hide' (byte_eq n (wd - 1 - j))
      have hBr : B ≤ wr.heap.size := Nat.le_trans hB hb.out.size
      generalize L ++ (be wd n).take j = Lj at *
      go_wp2_with (at_builtin; rw [hz.out]; refine app_byteL rfl (.tmp 12) (.tmp 21) B wr (.slice ov nv cv) Lj (n / 256 ^ (wd - 1 - j) % 256) rfl rfl rfl hO.out hBr hlen ?_; intro v2 w2 hO2 hb2; have hO3 := hide' hO2; have hB3 : Hid (Below B w w2) := hb.out.trans hb2; clear hO2 hb2)
      rw [hE.out] at hO3
      exact ⟨⟨j + 1, by omega, by go_num, hO3, hB3⟩, by simp [intOf]; omega⟩
    · obtain rfl : j = wd := by omega
      rw [List.take_of_length_le (by rw [be_len]; exact Nat.le_refl _)] at hO
      obtain ⟨ov, nv, cv, rfl⟩ : ∃ a b c, u0 = .slice a b c := by obtain ⟨a, c, e⟩ := own_shp hO.out; exact ⟨a, _, c, e⟩
      go_wp2
      go_ret
      exact ⟨_, rfl, hO, hb⟩
/-- Four numbers. -/
def quad (a b c d : Int) : Value := .agg #[.int .i64 a, .int .i64 b, .int .i64 c, .int .i64 d]
theorem idxQ (c : Array Value) (k : Nat) (v : Value) (hk : k < 4) (hc : c[k]? = some v) (w : World) : (Instr.index 46 (.agg c) (.int .i64 (k : Int))).run Tryd.prog w = .ok v w := by
  simp [Instr.index, run_underlying Tryd.underlying46, asIntOf, hk, hc, go_sem]
def fitQ (a b c d : Nat) : Bool := decide (a ≤ 255) && decide (b ≤ 255) && decide (c ≤ 255) && decide (d ≤ 65536)
set_option maxRecDepth 100000 in
set_option maxHeartbeats 2000000 in
theorem fitF (a b c d : Nat) (W : World) (hT : Tb W) : Calls Tryd.prog 14 #[quad a b c d] W fun e w' => e = .returned (.bool (fitQ a b c d)) ∧ Hid (Below W.heap.size W w') := by
  have hT1 := hT.alloc (.cells #[.int .i64 a, .int .i64 b, .int .i64 c, .int .i64 d] 46)
  have hB1 : Hid (Below W.heap.size W (W.alloc (.cells #[.int .i64 a, .int .i64 b, .int .i64 c, .int .i64 d] 46))) := (Below.refl _ _).alloc (Nat.le_refl _) _
  obtain ⟨_, _, _, _, l0, l1, l2, l3⟩ := hT1
  have hg : Hid (∀ i, i < 4 → fitQ a b c d = true → True) := fun _ _ _ => trivial
  unfold quad
  unfold fitQ
  have x0 : (Instr.index 46 (.agg #[.int .i64 a, .int .i64 b, .int .i64 c, .int .i64 d]) (.int .i64 0)).run Tryd.prog (W.alloc (.cells #[.int .i64 a, .int .i64 b, .int .i64 c, .int .i64 d] 46)) = .ok (.int .i64 a) (W.alloc (.cells #[.int .i64 a, .int .i64 b, .int .i64 c, .int .i64 d] 46)) := idxQ _ 0 _ (by decide) rfl _
  have x1 : (Instr.index 46 (.agg #[.int .i64 a, .int .i64 b, .int .i64 c, .int .i64 d]) (.int .i64 1)).run Tryd.prog (W.alloc (.cells #[.int .i64 a, .int .i64 b, .int .i64 c, .int .i64 d] 46)) = .ok (.int .i64 b) (W.alloc (.cells #[.int .i64 a, .int .i64 b, .int .i64 c, .int .i64 d] 46)) := idxQ _ 1 _ (by decide) rfl _
  have x2 : (Instr.index 46 (.agg #[.int .i64 a, .int .i64 b, .int .i64 c, .int .i64 d]) (.int .i64 2)).run Tryd.prog (W.alloc (.cells #[.int .i64 a, .int .i64 b, .int .i64 c, .int .i64 d] 46)) = .ok (.int .i64 c) (W.alloc (.cells #[.int .i64 a, .int .i64 b, .int .i64 c, .int .i64 d] 46)) := idxQ _ 2 _ (by decide) rfl _
  have x3 : (Instr.index 46 (.agg #[.int .i64 a, .int .i64 b, .int .i64 c, .int .i64 d]) (.int .i64 3)).run Tryd.prog (W.alloc (.cells #[.int .i64 a, .int .i64 b, .int .i64 c, .int .i64 d] 46)) = .ok (.int .i64 d) (W.alloc (.cells #[.int .i64 a, .int .i64 b, .int .i64 c, .int .i64 d] 46)) := idxQ _ 3 _ (by decide) rfl _
  go_enter Tryd.func14, Tryd.ntmps14
  go_wp2
  go_loopw [3, 4, 6] (fun _ _ p wr => wr = W.alloc (.cells #[.int .i64 a, .int .i64 b, .int .i64 c, .int .i64 d] 46) ∧ ∃ j : Nat, j ≤ 4 ∧ p = .int .i64 (j : Int) ∧ Hid ((0 < j → a ≤ 255) ∧ (1 < j → b ≤ 255) ∧ (2 < j → c ≤ 255) ∧ (3 < j → d ≤ 65536))) (fun _ _ p _ => (4 - intOf p).toNat)
  case atStart => exact ⟨rfl, 0, by omega, rfl, ⟨by omega, by omega, by omega, by omega⟩⟩
  case round =>
    obtain ⟨rfl, j, hj, rfl, hf⟩ := hrel
    obtain ⟨f0, f1, f2, f3⟩ := hf.out
    obtain rfl | rfl | rfl | rfl | rfl : j = 0 ∨ j = 1 ∨ j = 2 ∨ j = 3 ∨ j = 4 := by omega
    · by_cases h : 255 < a
      · go_wp2
        go_ret
        exact ⟨ret_bool (by simp; omega), hB1⟩
      · go_wp2
        exact ⟨⟨trivial, 1, by omega, rfl, ⟨by omega, by omega, by omega, by omega⟩⟩, by simp [intOf]⟩
    · by_cases h : 255 < b
      · go_wp2
        go_ret
        exact ⟨ret_bool (by simp; omega), hB1⟩
      · go_wp2
        exact ⟨⟨trivial, 2, by omega, rfl, ⟨fun _ => f0 (by omega), by omega, by omega, by omega⟩⟩, by simp [intOf]⟩
    · by_cases h : 255 < c
      · go_wp2
        go_ret
        exact ⟨ret_bool (by simp; omega), hB1⟩
      · go_wp2
        exact ⟨⟨trivial, 3, by omega, rfl, ⟨fun _ => f0 (by omega), fun _ => f1 (by omega), by omega, by omega⟩⟩, by simp [intOf]⟩
    · by_cases h : 65536 < d
      · go_wp2
        go_ret
        exact ⟨ret_bool (by simp; omega), hB1⟩
      · go_wp2
        exact ⟨⟨trivial, 4, by omega, rfl, ⟨fun _ => f0 (by omega), fun _ => f1 (by omega), fun _ => f2 (by omega), by omega⟩⟩, by simp [intOf]⟩
    · have g0 := f0 (by omega)
      have g1 := f1 (by omega)
      have g2 := f2 (by omega)
      have g3 := f3 (by omega)
      go_wp2
      go_ret
      exact ⟨ret_bool (by simp; omega), hB1⟩
set_option maxRecDepth 100000 in
set_option maxHeartbeats 2000000 in
theorem sizeF (a b c d : Nat) (W : World) (hT : Tb W) (ha : a ≤ 255) (hb : b ≤ 255) (hc : c ≤ 255) (hd : d ≤ 65536) : Calls Tryd.prog 15 #[quad a b c d] W fun e w' => e = .returned (.int .i64 ((16 + a + b + c + d : Nat) : Int)) ∧ Hid (Below W.heap.size W w') := by
  have hT1 := hT.alloc (.cells #[.int .i64 a, .int .i64 b, .int .i64 c, .int .i64 d] 46)
  have hB1 : Hid (Below W.heap.size W (W.alloc (.cells #[.int .i64 a, .int .i64 b, .int .i64 c, .int .i64 d] 46))) := (Below.refl _ _).alloc (Nat.le_refl _) _
  obtain ⟨w0, w1, w2, w3, _, _, _, _⟩ := hT1
  unfold quad
  have x0 : (Instr.index 46 (.agg #[.int .i64 a, .int .i64 b, .int .i64 c, .int .i64 d]) (.int .i64 0)).run Tryd.prog (W.alloc (.cells #[.int .i64 a, .int .i64 b, .int .i64 c, .int .i64 d] 46)) = .ok (.int .i64 a) (W.alloc (.cells #[.int .i64 a, .int .i64 b, .int .i64 c, .int .i64 d] 46)) := idxQ _ 0 _ (by decide) rfl _
  have x1 : (Instr.index 46 (.agg #[.int .i64 a, .int .i64 b, .int .i64 c, .int .i64 d]) (.int .i64 1)).run Tryd.prog (W.alloc (.cells #[.int .i64 a, .int .i64 b, .int .i64 c, .int .i64 d] 46)) = .ok (.int .i64 b) (W.alloc (.cells #[.int .i64 a, .int .i64 b, .int .i64 c, .int .i64 d] 46)) := idxQ _ 1 _ (by decide) rfl _
  have x2 : (Instr.index 46 (.agg #[.int .i64 a, .int .i64 b, .int .i64 c, .int .i64 d]) (.int .i64 2)).run Tryd.prog (W.alloc (.cells #[.int .i64 a, .int .i64 b, .int .i64 c, .int .i64 d] 46)) = .ok (.int .i64 c) (W.alloc (.cells #[.int .i64 a, .int .i64 b, .int .i64 c, .int .i64 d] 46)) := idxQ _ 2 _ (by decide) rfl _
  have x3 : (Instr.index 46 (.agg #[.int .i64 a, .int .i64 b, .int .i64 c, .int .i64 d]) (.int .i64 3)).run Tryd.prog (W.alloc (.cells #[.int .i64 a, .int .i64 b, .int .i64 c, .int .i64 d] 46)) = .ok (.int .i64 d) (W.alloc (.cells #[.int .i64 a, .int .i64 b, .int .i64 c, .int .i64 d] 46)) := idxQ _ 3 _ (by decide) rfl _
  go_enter Tryd.func15, Tryd.ntmps15
  go_wp2
  go_loopw [3, 4, 5, 7] (fun s _ _ p wr => wr = W.alloc (.cells #[.int .i64 a, .int .i64 b, .int .i64 c, .int .i64 d] 46) ∧ ∃ j m : Nat, j ≤ 4 ∧ p = .int .i64 (j : Int) ∧ s = .int .i64 (m : Int) ∧ Hid (m = 9 + (if 0 < j then 1 + a else 0) + (if 1 < j then 1 + b else 0) + (if 2 < j then 1 + c else 0) + (if 3 < j then 4 + d else 0))) (fun _ _ _ p _ => (4 - intOf p).toNat)
  case atStart => exact ⟨rfl, 0, 9, by omega, rfl, rfl, rfl⟩
  case round =>
    obtain ⟨rfl, j, m, hj, rfl, rfl, hf⟩ := hrel
    have hm := hf.out
    have hm2 : m ≤ 1000000 := by
      rw [hm]; split <;> split <;> split <;> split <;> omega
    have hm' := hide' hm
    clear hm hf
    obtain rfl | rfl | rfl | rfl | rfl : j = 0 ∨ j = 1 ∨ j = 2 ∨ j = 3 ∨ j = 4 := by omega
    · go_wp2
      exact ⟨⟨trivial, 1, m + (1 + a), by omega, rfl, by go_num, by have := hm'.out; simp at this; unfold Hid; simp; omega⟩, by simp [intOf]⟩
    · go_wp2
      exact ⟨⟨trivial, 2, m + (1 + b), by omega, rfl, by go_num, by have := hm'.out; simp at this; unfold Hid; simp; omega⟩, by simp [intOf]⟩
    · go_wp2
      exact ⟨⟨trivial, 3, m + (1 + c), by omega, rfl, by go_num, by have := hm'.out; simp at this; unfold Hid; simp; omega⟩, by simp [intOf]⟩
    · go_wp2
      exact ⟨⟨trivial, 4, m + (4 + d), by omega, rfl, by go_num, by have := hm'.out; simp at this; unfold Hid; simp; omega⟩, by simp [intOf]⟩
    · go_wp2
      go_ret
      refine ⟨ret_int ?_, hB1⟩
      have := hm'.out
      simp at this
      omega
end Go.Proofs.YtgfnfbbiojnhaaaDoor

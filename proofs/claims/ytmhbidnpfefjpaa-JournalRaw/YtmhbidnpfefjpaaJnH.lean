/- Blocks that are built: head, title, piece; arrays read and written whole. -/
import Derived.Test.YtmhbidnpfefjpaaJnG
namespace Go.Proofs.Ytmhbidnpfefjpaa
open Go.RowKit
theorem BkT.range {W : World} {T : TypeId} {g : Nat} {P : List Nat} (h : BkT W T g P) : W.rangeAt g 0 (cellsB P) := fun j v hv => by
  obtain ⟨z, hz, rfl⟩ := cellsB_at hv
  rw [Nat.zero_add]
  exact h.cell hz
theorem results_arr {fn : Func} {p : Tmp} (h : fn.results = #[.cell p 79]) {tmps : Array Value} {w : World} {g : Nat} {T : TypeId} {P : List Nat} (hp : tmps.getD p undef = .pointer (some ⟨g, 0, none⟩)) (hB : BkT w T g P) (hl : P.length = 16) :
    (results fn tmps).run Try.prog w = .ok (.agg (cellsB P).toArray) w := by
  have e := run_loadVar_mid (P := Try.prog) w g 0 79 (cellsB P) _ hB.range Try.underlying79 rfl (by rw [cellsB_len, hl]; exact blockS)
  have hp' : tmps[p]?.getD undef = .pointer (some ⟨g, 0, none⟩) := by rw [← hp]; simp
  simp only [results, h]
  simp [hp', asAddr, e]
/-- An array of bytes, read whole. -/
theorem loadJ {W : World} {ops : Array Oper} {rest : List Oper} {o : Oper} {a : Act} {Q : Exit → Act → World → Prop} (hgd : o.guard = none) (x : Operand) (ho : o.op = .load 79 x) (g : Nat) (hx : a.eval x = .pointer (some ⟨g, 0, none⟩)) (T : TypeId) (P : List Nat) (hg : BkT W T g P) (hP : P.length = 16)
    (h : wpList Try.prog ops Q rest (a.put o.dst (.agg (cellsB P).toArray)) W) : wpList Try.prog ops Q (o :: rest) a W :=
  wpList_load_mid hgd 79 x ho g 0 hx (cellsB P) _ hg.range Try.underlying79 rfl (by rw [cellsB_len, hP]; exact blockS) h
theorem splice_all16 {L P : List Nat} (hL : L.length = 16) (hP : P.length = 16) : splice L 0 P = P := by
  unfold splice
  rw [List.take_zero, List.nil_append, Nat.zero_add, List.drop_eq_nil_of_le (by omega), List.append_nil]
/-- An array of bytes, written whole. -/
theorem storeJ {W : World} {ops : Array Oper} {rest : List Oper} {op : Oper} {a : Act} {Q : Exit → Act → World → Prop} (hgd : op.guard = none) (x y : Operand) (ho : op.op = .store 79 x y) (g : Nat) (T : TypeId) (L P : List Nat) (hx : a.eval x = .pointer (some ⟨g, 0, none⟩)) (hy : a.eval y = .agg (cellsB P).toArray) (hg : BkT W T g L) (hP : P.length = 16) (hL : L.length = 16)
    (h : ∀ w', Hid (BkT w' T g P) → Hid (Kp g g W w') → wpList Try.prog ops Q rest (a.put op.dst undef) w') : wpList Try.prog ops Q (op :: rest) a W := by
  have hs : (cellsB P).toArray.size = 16 := by simp [cellsB_len, hP]
  refine wpList_store_mid hgd 79 x y ho g 0 (cellsB P).toArray hx hy (fun j hj => ?_) (by rw [hs]; exact blockS) (all_oneCell_toArray (oneB P)) ?_
  · have hlt : 0 + j < L.length := by omega
    exact ⟨by rw [hg.cell (List.getElem?_eq_getElem hlt)]; rfl, hg.free _⟩
  · have e := setCells_row (o := 0) hg (cellsB P) (by simp [cellsB_len]; omega) (oneB P)
    have e2 : ((cellsB L).toArray.toList.take 0 ++ cellsB P ++ (cellsB L).toArray.toList.drop (0 + (cellsB P).length)).toArray = (cellsB P).toArray := by
      rw [← splice_all16 hL hP, ← cellsB_splice]
      simp [splice, cellsB_len, hP, hL]
    rw [e2] at e
    show wpList Try.prog ops Q rest (a.put op.dst undef) (W.setCells g 0 (cellsB P))
    rw [e]
    exact h _ (setRow_heap W g _ _ T _ hg) (kp_setRow _ _ _)
/-- As many bytes as there is room for, laid over an array's. -/
theorem copyT {W : World} {ops : Array Oper} {rest : List Oper} {o : Oper} {a : Act} {Q : Exit → Act → World → Prop} (hgd : o.guard = none) (d s : Operand) (ho : o.op = .call { callee := .builtin .copy, args := #[d, s], argTypes := #[34, 34] })
    (g off dLen dCap sLen sCap : Nat) (sp : Option Addr) (hd : a.eval d = .slice (some ⟨g, off, none⟩) dLen dCap) (hs : a.eval s = .slice sp sLen sCap) (T : TypeId) (C M : List Nat) (hg : BkT W T g C) (hm : M.length = Nat.min sLen dLen) (hc : Hid (∀ (i : Nat) (z : Nat), M[i]? = some z → ∃ g o, sp = some ⟨g, o, none⟩ ∧ W.cell? ⟨g, o + i, none⟩ = some (.int .u8 (z : Int)))) (hf : off + M.length ≤ C.length)
    (h : ∀ w', Hid (BkT w' T g (splice C off M)) → Hid (Kp g g W w') → wpList Try.prog ops Q rest (a.put o.dst (goInt M.length)) w') : wpList Try.prog ops Q (o :: rest) a W := by
  cases M with
  | nil =>
    refine wpList_copy_nothing hgd d s 34 34 ho 5 Try.underlying34 sizeU8 _ _ _ _ _ _ hd hs hm.symm ?_
    exact h W (show BkT _ _ _ _ by simpa [splice] using hg) (Kp.refl _ _ _)
  | cons x l =>
    obtain ⟨g', o', rfl, _⟩ := hc.out 0 x rfl
    refine wpList_copy_own hgd d s 34 34 ho 5 Try.underlying34 sizeU8 g off _ dCap _ _ sCap hd hs (cellsB C).toArray T hg (cellsB (x :: l)) (by rw [cellsB_len]; exact hm) (fun j v hj => ?_) (by rw [cellsB_len]; simpa [cellsB_len] using hf) (oneB _) ?_
    · obtain ⟨z, hz, rfl⟩ := cellsB_at hj
      obtain ⟨g2, o2, e, hcell⟩ := hc.out j z hz
      cases e
      rw [Addr.add_lit]
      exact hcell
    · have e := setRow_heap W g _ (splice (cellsB C) off (cellsB (x :: l))).toArray _ _ hg
      rw [cellsB_splice] at e
      have e2 : W.setRow g ((cellsB C).toArray.toList.take off ++ (cellsB (x :: l) ++ (cellsB C).toArray.toList.drop (off + (cellsB (x :: l)).length))).toArray = W.setRow g (cellsB (splice C off (x :: l))).toArray := by rw [← cellsB_splice]; rfl
      rw [e2, cellsB_len]
      exact h _ e (kp_setRow _ _ _)
theorem copyW {W : World} {o : Oper} {a : Act} {K : Act → World → Prop} {Q : Exit → Act → World → Prop} (d s : Operand) (ho : o.op = .call { callee := .builtin .copy, args := #[d, s], argTypes := #[34, 34] })
    (g off dLen dCap sLen sCap : Nat) (sp : Option Addr) (hd : a.eval d = .slice (some ⟨g, off, none⟩) dLen dCap) (hs : a.eval s = .slice sp sLen sCap) (T : TypeId) (C M : List Nat) (hg : BkT W T g C) (hm : M.length = Nat.min sLen dLen) (hc : Hid (∀ (i : Nat) (z : Nat), M[i]? = some z → ∃ g o, sp = some ⟨g, o, none⟩ ∧ W.cell? ⟨g, o + i, none⟩ = some (.int .u8 (z : Int)))) (hf : off + M.length ≤ C.length)
    (h : ∀ w', Hid (BkT w' T g (splice C off M)) → Hid (Kp g g W w') → K (a.put o.dst (goInt M.length)) w') : o.wp Try.prog a W K Q := by
  cases M with
  | nil =>
    have hrun := run_copy_none (P := Try.prog) W 34 34 o.type 5 (some ⟨g, off, none⟩) sp dLen dCap sLen sCap Try.underlying34 sizeU8 hm.symm
    unfold Oper.wp
    simp [execOp, ho, resolve, invoke, builtin, hd, hs, hrun, Result.andThen]
    exact h W (show BkT _ _ _ _ by simpa [splice] using hg) (Kp.refl _ _ _)
  | cons x l =>
    obtain ⟨g', o', rfl, _⟩ := hc.out 0 x rfl
    have hrun := run_copy_row (P := Try.prog) W 34 34 o.type 5 g off dLen dCap ⟨g', o', none⟩ sLen sCap (cellsB C).toArray T (cellsB (x :: l)) Try.underlying34 sizeU8 hg (by rw [cellsB_len]; exact hm) (fun j v hj => by
      obtain ⟨z, hz, rfl⟩ := cellsB_at hj
      obtain ⟨g2, o2, e, hcell⟩ := hc.out j z hz
      cases e
      rw [Addr.add_lit]
      exact hcell) (by rw [cellsB_len]; simpa [cellsB_len] using hf) (oneB _)
    have e := setRow_heap W g _ (splice (cellsB C) off (cellsB (x :: l))).toArray _ _ hg
    rw [cellsB_splice] at e
    have e2 : W.setRow g ((cellsB C).toArray.toList.take off ++ cellsB (x :: l) ++ (cellsB C).toArray.toList.drop (off + (cellsB (x :: l)).length)).toArray = W.setRow g (cellsB (splice C off (x :: l))).toArray := by rw [← cellsB_splice, List.append_assoc]; rfl
    rw [e2, cellsB_len] at hrun
    unfold Oper.wp
    simp [execOp, ho, resolve, invoke, builtin, hd, hs, hrun, Result.andThen]
    exact h _ e (kp_setRow _ _ _)
theorem wrap_id {x : Int} (h1 : -9223372036854775808 ≤ x) (h2 : x < 9223372036854775808) : IntKind.i64.wrap x = x := by
  unfold IntKind.wrap
  simp [IntKind.bits, IntKind.signed]
  omega
theorem bkt_new (w : World) (T : TypeId) (P : List Nat) : BkT (w.alloc (.cells (cellsB P).toArray T)) T w.heap.size P := heap_new _ _
theorem BkT.below {W W' : World} {T : TypeId} {g B : Nat} {L : List Nat} (h : BkT W T g L) (hb : Below B W W') (hg : g < B) : BkT W' T g L := (hb.block g hg).trans h
theorem BkT.kp {W W' : World} {T : TypeId} {g x y : Nat} {L : List Nat} (h : BkT W T g L) (k : Kp x y W W') (h1 : g ≠ x) (h2 : g ≠ y) : BkT W' T g L := (k.block g (blk_lt h) h1 h2).trans h
def hd0 : List Nat := [80, 74, 1, 0, 0, 0, 0, 0, 0, 0, 0, 0, 0, 0, 0, 0]
def tl0 : List Nat := [80, 82, 0, 0, 0, 0, 0, 0, 0, 0, 0, 0, 0, 0, 0, 0]
set_option maxRecDepth 100000 in
set_option maxHeartbeats 1000000 in
theorem headF (b : Nat) (W : World) (hb : b < 4294967296) : Calls Try.prog 39 #[.int .u32 (b : Int)] W fun e w' => e = .returned (.agg (cellsB (headB b)).toArray) ∧ Below W.heap.size W w' := by
  have zJ := zeroJ
  have hA : Hid (BkT ((W.alloc (.cells (cellsB z16).toArray 79)).alloc (.cells (cellsB z16).toArray 79)) 79 W.heap.size z16) := (bkt_new W _ z16).below ((Below.refl _ _).alloc (Nat.le_refl _) _) (by rw [size_alloc]; omega)
  have hB : Hid (BkT ((W.alloc (.cells (cellsB z16).toArray 79)).alloc (.cells (cellsB z16).toArray 79)) 79 (W.heap.size + 1) z16) := by
    have := bkt_new (W.alloc (.cells (cellsB z16).toArray 79)) 79 z16
    rw [size_alloc] at this
    exact this
  have hW : Hid (Below W.heap.size W ((W.alloc (.cells (cellsB z16).toArray 79)).alloc (.cells (cellsB z16).toArray 79))) := ((Below.refl _ _).alloc (Nat.le_refl _) _).alloc (by rw [size_alloc]; omega) _
  go_enter Try.func39, Try.ntmps39
  go_wp2_with (refine storeJ rfl (.tmp 3) (.tmp 4) rfl (W.heap.size + 1) _ z16 hd0 rfl rfl hB.out rfl rfl ?_; intro w1 h1 k1)
  have K := hide' (putF (o := 4) (k := 4) (cap := 12) h1.out (by decide) (by omega) b (by omega))
  go_wp2_with fail
  refine K.out.mono ?_
  rintro e w2 ⟨rfl, h2, k2⟩
  rw [show putL hd0 4 4 b 4 = headB b from put_head b] at h2
  have h2' := hide' h2
  have k2' := hide' k2
  have hA2 : Hid (BkT w2 79 W.heap.size z16) := (hA.out.kp k1.out (by omega) (by omega)).kp k2 (by omega) (by omega)
  clear h2 k2 K
  go_wp2_with (first | (refine loadJ rfl (.tmp 3) rfl (W.heap.size + 1) rfl _ (headB b) h2'.out rfl ?_) | (refine storeJ rfl (.tmp 2) (.tmp 9) rfl W.heap.size _ z16 (headB b) rfl rfl hA2.out rfl rfl ?_; intro w3 h3 k3))
  refine bodyPost_ret (results_arr rfl rfl h3.out rfl) rfl ⟨rfl, ?_⟩
  have hs := hW.out.size
  exact hW.out.trans ((k1.out.below (by omega) (by omega) hs).trans ((k2'.out.below (by omega) (by omega) (Nat.le_trans hs k1.out.size)).trans (k3.out.below (Nat.le_refl _) (Nat.le_refl _) (Nat.le_trans (Nat.le_trans hs k1.out.size) k2'.out.size))))
set_option maxRecDepth 100000 in
set_option maxHeartbeats 1000000 in
theorem titleF (n c : Nat) (W : World) (hn : n < 4294967296) (hc : c < 9223372036854775808) : Calls Try.prog 63 #[.int .i64 (n : Int), .int .i64 (c : Int)] W fun e w' => e = .returned (.agg (cellsB (titleB n c)).toArray) ∧ Below W.heap.size W w' := by
  have zJ := zeroJ
  have hA : Hid (BkT ((W.alloc (.cells (cellsB z16).toArray 79)).alloc (.cells (cellsB z16).toArray 79)) 79 W.heap.size z16) := (bkt_new W _ z16).below ((Below.refl _ _).alloc (Nat.le_refl _) _) (by rw [size_alloc]; omega)
  have hB : Hid (BkT ((W.alloc (.cells (cellsB z16).toArray 79)).alloc (.cells (cellsB z16).toArray 79)) 79 (W.heap.size + 1) z16) := by
    have := bkt_new (W.alloc (.cells (cellsB z16).toArray 79)) 79 z16
    rw [size_alloc] at this
    exact this
  have hW : Hid (Below W.heap.size W ((W.alloc (.cells (cellsB z16).toArray 79)).alloc (.cells (cellsB z16).toArray 79))) := ((Below.refl _ _).alloc (Nat.le_refl _) _).alloc (by rw [size_alloc]; omega) _
  go_enter Try.func63, Try.ntmps63
  go_wp2_with (refine storeJ rfl (.tmp 5) (.tmp 6) rfl (W.heap.size + 1) _ z16 tl0 rfl rfl hB.out rfl rfl ?_; intro w1 h1 k1)
  have K := hide' (putF (o := 4) (k := 4) (cap := 12) h1.out (by decide) (by omega) n (by omega))
  go_wp2_with fail
  refine K.out.mono ?_
  rintro e w2 ⟨rfl, h2, k2⟩
  have k2' := hide' k2
  have K2 := hide' (putF (o := 8) (k := 8) (cap := 8) h2 (by rw [putL_len]; decide) (by omega) c (by omega))
  rw [show putL (putL tl0 4 4 n 4) 8 8 c 8 = titleB n c from put_title n c] at K2
  clear h2 k2 K
  go_wp2_with fail
  refine K2.out.mono ?_
  rintro e w3 ⟨rfl, h3, k3⟩
  have h3' := hide' h3
  have k3' := hide' k3
  have hA3 : Hid (BkT w3 79 W.heap.size z16) := ((hA.out.kp k1.out (by omega) (by omega)).kp k2'.out (by omega) (by omega)).kp k3 (by omega) (by omega)
  clear h3 k3 K2
  go_wp2_with (first | (refine loadJ rfl (.tmp 5) rfl (W.heap.size + 1) rfl _ (titleB n c) h3'.out rfl ?_) | (refine storeJ rfl (.tmp 4) (.tmp 15) rfl W.heap.size _ z16 (titleB n c) rfl rfl hA3.out rfl rfl ?_; intro w4 h4 k4))
  refine bodyPost_ret (results_arr rfl rfl h4.out rfl) rfl ⟨rfl, ?_⟩
  have hs := hW.out.size
  have s1 := k1.out.size
  have s2 := k2'.out.size
  have s3 := k3'.out.size
  exact hW.out.trans ((k1.out.below (by omega) (by omega) hs).trans ((k2'.out.below (by omega) (by omega) (by omega)).trans ((k3'.out.below (by omega) (by omega) (by omega)).trans (k4.out.below (Nat.le_refl _) (Nat.le_refl _) (by omega)))))
set_option maxRecDepth 100000 in
theorem sizeF {W : World} {oa : Option Addr} {m cap : Nat} (hm : m ≤ 1000000000) : Calls Try.prog 61 #[.slice oa m cap] W fun e w' => e = .returned (.int .i64 (spn m : Int)) ∧ w' = W := by
  go_enter Try.func61, Try.ntmps61
  go_wp2
  go_ret
  refine ⟨ret_int ?_, rfl⟩
  unfold spn
  omega
set_option maxRecDepth 100000 in
set_option maxHeartbeats 1000000 in
theorem pieceF {W : World} {v : Value} {R : List Nat} (h : RowC W v R) (i : Nat) (hi : 16 * i < R.length) (hR : R.length ≤ 1000000000) : Calls Try.prog 62 #[v, .int .i64 (i : Int)] W fun e w' => e = .returned (.agg (cellsB (pieceB R i)).toArray) ∧ Below W.heap.size W w' := by
  have zJ := zeroJ
  have hA : Hid (BkT ((W.alloc (.cells (cellsB z16).toArray 79)).alloc (.cells (cellsB z16).toArray 79)) 79 W.heap.size z16) := (bkt_new W _ z16).below ((Below.refl _ _).alloc (Nat.le_refl _) _) (by rw [size_alloc]; omega)
  have hB : Hid (BkT ((W.alloc (.cells (cellsB z16).toArray 79)).alloc (.cells (cellsB z16).toArray 79)) 79 (W.heap.size + 1) z16) := by
    have := bkt_new (W.alloc (.cells (cellsB z16).toArray 79)) 79 z16
    rw [size_alloc] at this
    exact this
  have hW : Hid (Below W.heap.size W ((W.alloc (.cells (cellsB z16).toArray 79)).alloc (.cells (cellsB z16).toArray 79))) := ((Below.refl _ _).alloc (Nat.le_refl _) _).alloc (by rw [size_alloc]; omega) _
  obtain ⟨oa, cap, rfl, hcap, hc⟩ := h
  obtain ⟨z, hz⟩ : ∃ z, R[0]? = some z := ⟨_, List.getElem?_eq_getElem (by omega)⟩
  obtain ⟨g, o, rfl, _⟩ := hc 0 z hz
  have hM : Hid (∀ (j : Nat) (z : Nat), ((R.drop (16 * i)).take 16)[j]? = some z → ∃ g' o', (some ⟨g, o + i * 16, none⟩ : Option Addr) = some ⟨g', o', none⟩ ∧ ((W.alloc (.cells (cellsB z16).toArray 79)).alloc (.cells (cellsB z16).toArray 79)).drew.cell? ⟨g', o' + j, none⟩ = some (.int .u8 (z : Int))) := fun j z hj => by
    rw [List.getElem?_take] at hj
    split at hj
    · rw [List.getElem?_drop] at hj
      obtain ⟨g', o', e, hcell⟩ := hc _ z hj
      cases e
      refine ⟨g, _, rfl, ?_⟩
      rw [show o + i * 16 + j = o + (16 * i + j) by omega]
      exact (hW.out.drew.cell (p := ⟨g, o + (16 * i + j), none⟩) (cell_lt hcell)).trans hcell
    · cases hj
  have hcap1 := hcap.1
  clear hcap hc hz
  have hlM : Hid (((R.drop (16 * i)).take 16).length = Nat.min (R.length - i * 16) 16) := by
    show _ = min _ _
    rw [List.length_take, List.length_drop]; omega
  have hpc : Hid (splice z16 0 ((R.drop (16 * i)).take 16) = pieceB R i) := rfl
  have hfit : Hid (0 + ((R.drop (16 * i)).take 16).length ≤ z16.length) := by unfold Hid; rw [List.length_take, z16_len]; omega
  generalize (R.drop (16 * i)).take 16 = M at *
  generalize hm : R.length = m at *
  have hm' := hide' hm
  clear hm
  have hw1 : IntKind.i64.wrap ((i : Int) * 16) = (i : Int) * 16 := wrap_id (by omega) (by omega)
  have hw2 : ((i : Int) * 16).toNat = i * 16 := by omega
  have hl0 : (0 : Int) ≤ (i : Int) * 16 := by omega
  have hl1 : (i : Int) * 16 ≤ (m : Int) := by omega
  have hl2 : (i : Int) * 16 ≤ (cap : Int) := by omega
  have hl3 : (m : Int) ≤ (cap : Int) := by omega
  have hl4 : (cap = i * 16) = False := eq_false (by omega)
  go_enter Try.func62, Try.ntmps62
  go_wp2
  go_region_held3 (fun _ => True) (first | trivial) (first | (refine copyW (.tmp 6) (.tmp 10) rfl (W.heap.size + 1) 0 16 16 (m - i * 16) (cap - i * 16) (some ⟨g, o + i * 16, none⟩) rfl rfl _ z16 M hB.out hlM.out hM hfit.out ?_; intro w1 h1 k1))
  have h1' : Hid (BkT w1 79 (W.heap.size + 1) (pieceB R i)) := by rw [← hpc.out]; exact h1
  have hlp := pieceB_len R i
  have hA0 : BkT ((W.alloc (.cells (cellsB z16).toArray 79)).alloc (.cells (cellsB z16).toArray 79)).drew 79 W.heap.size z16 := hA.out
  have hA1 : Hid (BkT w1 79 W.heap.size z16) := hA0.kp k1.out (by omega) (by omega)
  clear hA0
  go_wp2_with (first | (refine loadJ rfl (.tmp 5) rfl (W.heap.size + 1) rfl _ (pieceB R i) h1'.out hlp ?_) | (refine storeJ rfl (.tmp 4) (.tmp 12) rfl W.heap.size _ z16 (pieceB R i) rfl rfl hA1.out hlp rfl ?_; intro w3 h3 k3))
  refine bodyPost_ret (results_arr rfl rfl h3.out hlp) rfl ⟨rfl, ?_⟩
  have hs := hW.out.drew.size
  exact hW.out.drew.trans ((k1.out.below (by omega) (by omega) hs).trans (k3.out.below (Nat.le_refl _) (Nat.le_refl _) (Nat.le_trans hs k1.out.size)))
end Go.Proofs.Ytmhbidnpfefjpaa

/- Read, walked. -/
import Derived.Test.YtgmjmliemjgioaaDoorKApp
import Derived.Test.YtgmjmliemjgioaaDoorJ24
import Derived.Laws.BytesArg
namespace Go.Proofs.YtgmjmliemjgioaaDoor.S
open Go.RowKit Go.Shelf
def cellsB (l : List Nat) : List Value := l.map fun z : Nat => Value.int .u8 (z : Int)
/-- A number in so many bytes, the highest first. -/
def be (wd n : Nat) : List Nat := (List.range wd).map fun i => n / 256 ^ (wd - 1 - i) % 256
theorem be_len (wd n : Nat) : (be wd n).length = wd := by simp [be]
theorem be_at {wd n j : Nat} (h : j < wd) : (be wd n)[j]? = some (n / 256 ^ (wd - 1 - j) % 256) := by
  unfold be
  rw [List.getElem?_map, List.getElem?_range h]
  rfl
/-- Blocks of other kinds are as they were. -/
structure FzB (W W' : World) : Prop where
  size : W.heap.size ≤ W'.heap.size
  block : ∀ (g : Nat) (cs : Array Value) (T : TypeId) (fz : Nat × Nat), T ≠ 5 → W.heap[g]? = some (Obj.cells cs T fz) → W'.heap[g]? = some (Obj.cells cs T fz)
theorem FzB.refl (W : World) : FzB W W := ⟨Nat.le_refl _, fun _ _ _ _ _ h => h⟩
theorem FzB.trans {W W' W2 : World} (h : FzB W W') (k : FzB W' W2) : FzB W W2 := ⟨Nat.le_trans h.size k.size, fun g cs T fz hT hg => k.block g cs T fz hT (h.block g cs T fz hT hg)⟩
theorem FzB.below {W W' : World} (h : Below W.heap.size W W') : FzB W W' := ⟨h.size, fun g _ _ _ _ hg => (h.block g (Array.getElem?_eq_some_iff.1 hg).1).trans hg⟩
theorem FzB.grown {W W' : World} {B : Nat} {v : Value} {n : Nat} {xs : List Value} (h : W.ownsRow B 5 1 v n xs) (hg : W.grownBy W' v.ownBlock) : FzB W W' := by
  refine ⟨hg.size, fun g cs T fz hT hb => ?_⟩
  refine (hg.block g (Array.getElem?_eq_some_iff.1 hb).1 fun e => ?_).trans hb
  obtain ⟨c2, f2, h2⟩ := Go.Lib.ownsRow_kind h g e.symm
  rw [hb] at h2
  injection h2 with h2
  injection h2 with _ h2
  exact hT h2
theorem FzB.pb {W W' : World} {g : Nat} {P : Pb} {wv fv rv : Value} (h : FzB W W') (hb : PbB W g P wv fv rv) : PbB W' g P wv fv rv := h.block g _ _ _ (by decide) hb
theorem infoU8 : (Tryd.prog.info? 5).map (fun i => (i.zero, i.size, i.bytes)) = some (some (.int .u8 0), 1, 1) := by kernel_rfl
/-- A byte laid behind a row of bytes. -/
theorem app_byteL {ops : Array Oper} {rest : List Oper} {o : Oper} {a : Act} {Q : Exit → Act → World → Prop} (hgd : o.guard = none) (s x : Operand) (B : Nat) (W : World) (v : Value) (L : List Nat) (z : Nat) (ho : o.op = .call { callee := .builtin .append, args := #[s, x], argTypes := #[39, 39] })
    (es : a.eval s = v) (ex : a.eval x = .slice (some ⟨W.heap.size, 0, none⟩) 1 1) (hT : W.ownsRow B 5 1 v L.length (cellsB L)) (hB : B ≤ W.heap.size) (hn : L.length ≤ 1000000)
    (h : ∀ v2 w2, w2.ownsRow B 5 1 v2 (L ++ [z]).length (cellsB (L ++ [z])) → Below B W w2 → FzB W w2 → wpList Tryd.prog ops Q rest (a.put o.dst v2) w2) : wpList Tryd.prog ops Q (o :: rest) a (W.alloc (.cells #[.int .u8 (z : Int)] 5)) := by
  obtain ⟨i0, hi, hz0, hz1, hz2⟩ := info_parts infoU8
  refine wpList_append_own _ hgd s x 39 ho B 5 i0 (.int .u8 0) 1 1 Tryd.underlying39 hi hz0 hz1 hz2 rfl (by decide) v L.length (cellsB L) es (hT.alloc _) ⟨W.heap.size, 0, none⟩ 1 1 [.int .u8 (z : Int)] ex rfl (World.news_of_block (cs := #[.int .u8 (z : Int)]) (heap_new _ _)) (by simp [Value.oneCell']) (by unfold maxLen; omega) (by omega) (by simp; omega) ?_
  intro v2 w2 hown hgrow _
  refine h v2 w2 ?_ (((Below.refl B W).alloc hB _).grown hgrow (by simp; omega) (fun j ej => own_ge' hT ej)) ((FzB.below ((Below.refl _ W).alloc (Nat.le_refl _) _)).trans (FzB.grown (hT.alloc _) hgrow))
  have e : cellsB (L ++ [z]) = cellsB L ++ [.int .u8 (z : Int)] := by simp [cellsB]
  rw [e, List.length_append]
  exact hown
/-- What a call answers that lays bytes behind a row. -/
def PuP (w : World) (B : Nat) (L : List Nat) (e : Ending) (w' : World) : Prop :=
  ∃ v, e = .returned v ∧ Hid (w'.ownsRow B 5 1 v L.length (cellsB L)) ∧ Hid (Below B w w') ∧ Hid (FzB w w')
theorem byte_eq (n k : Nat) : ((n : Int) / 2 ^ (8 * k) % 256) = ((n / 256 ^ k % 256 : Nat) : Int) := by
  rw [show (256 : Nat) ^ k = 2 ^ (8 * k) by rw [Nat.pow_mul]]
  simp
theorem be_take {wd n j : Nat} (L : List Nat) (h : j < wd) : (L ++ (be wd n).take j) ++ [n / 256 ^ (wd - 1 - j) % 256] = L ++ (be wd n).take (j + 1) := by
  rw [List.take_add_one, be_at h, List.append_assoc]
  rfl
set_option maxRecDepth 100000 in
set_option maxHeartbeats 2000000 in
theorem putI (B : Nat) (v : Value) (L : List Nat) (wd n : Nat) (w : World) (hO : w.ownsRow B 5 1 v L.length (cellsB L)) (hB : B ≤ w.heap.size) (hw : wd ≤ 8) (hl : L.length ≤ 100000) (_ : n < 9223372036854775808) :
    Calls Tryd.prog 41 #[v, .int .i64 (wd : Int), .int .i64 (n : Int)] w (PuP w B (L ++ be wd n)) := by
  unfold PuP
  have hO' := hide' hO
  clear hO
  go_enter Tryd.func41, Tryd.ntmps41
  go_wp2
  go_loopw [0, 7, 9] (fun v _ p wr => ∃ j : Nat, j ≤ wd ∧ p = .int .i64 (j : Int) ∧ Hid (wr.ownsRow B 5 1 v (L ++ (be wd n).take j).length (cellsB (L ++ (be wd n).take j))) ∧ Hid (Below B w wr) ∧ Hid (FzB w wr)) (fun _ _ p _ => ((wd : Int) - intOf p).toNat)
  case atStart => exact ⟨0, Nat.zero_le _, rfl, by simpa using hO', Below.refl _ _, FzB.refl _⟩
  case round =>
    clear hO'
    obtain ⟨j, hj, rfl, hO, hb, hf⟩ := hrel
    by_cases hlt : j < wd
    · have hlt' : (j : Int) < (wd : Int) := by omega
      obtain ⟨ov, nv, cv, rfl⟩ : ∃ a b c, u0 = .slice a b c := by obtain ⟨a, c, e⟩ := own_shp hO.out; exact ⟨a, _, c, e⟩
      have hlen : (L ++ (be wd n).take j).length ≤ 1000000 := by simp [be_len]; omega
      have hE := hide' (be_take (n := n) L hlt)
      have hz := hide' (byte_eq n (wd - 1 - j))
      have hBr : B ≤ wr.heap.size := Nat.le_trans hB hb.out.size
      generalize L ++ (be wd n).take j = Lj at *
      go_wp2_with (at_builtin; rw [hz.out]; refine app_byteL rfl (.tmp 12) (.tmp 21) B wr (.slice ov nv cv) Lj (n / 256 ^ (wd - 1 - j) % 256) rfl rfl rfl hO.out hBr hlen ?_; intro v2 w2 hO2 hb2 hf2; have hO3 := hide' hO2; have hB3 : Hid (Below B w w2) := hb.out.trans hb2; have hf3 : Hid (FzB w w2) := hf.out.trans hf2; clear hO2 hb2 hf2)
      rw [hE.out] at hO3
      exact ⟨⟨j + 1, by omega, by go_num, hO3, hB3, hf3⟩, by simp [intOf]; omega⟩
    · obtain rfl : j = wd := by omega
      rw [List.take_of_length_le (by rw [be_len]; exact Nat.le_refl _)] at hO
      obtain ⟨ov, nv, cv, rfl⟩ : ∃ a b c, u0 = .slice a b c := by obtain ⟨a, c, e⟩ := own_shp hO.out; exact ⟨a, _, c, e⟩
      go_wp2
      go_ret
      exact ⟨_, rfl, hO, hb, hf⟩
set_option maxRecDepth 100000 in
set_option maxHeartbeats 2000000 in
theorem putU (B : Nat) (v : Value) (L : List Nat) (wd n : Nat) (w : World) (hO : w.ownsRow B 5 1 v L.length (cellsB L)) (hB : B ≤ w.heap.size) (hw : wd ≤ 8) (hl : L.length ≤ 100000) (_ : n < 18446744073709551616) :
    Calls Tryd.prog 40 #[v, .int .i64 (wd : Int), .int .u64 (n : Int)] w (PuP w B (L ++ be wd n)) := by
  unfold PuP
  have hO' := hide' hO
  clear hO
  go_enter Tryd.func40, Tryd.ntmps40
  go_wp2
  go_loopw [0, 7, 9] (fun v _ p wr => ∃ j : Nat, j ≤ wd ∧ p = .int .i64 (j : Int) ∧ Hid (wr.ownsRow B 5 1 v (L ++ (be wd n).take j).length (cellsB (L ++ (be wd n).take j))) ∧ Hid (Below B w wr) ∧ Hid (FzB w wr)) (fun _ _ p _ => ((wd : Int) - intOf p).toNat)
  case atStart => exact ⟨0, Nat.zero_le _, rfl, by simpa using hO', Below.refl _ _, FzB.refl _⟩
  case round =>
    clear hO'
    obtain ⟨j, hj, rfl, hO, hb, hf⟩ := hrel
    by_cases hlt : j < wd
    · have hlt' : (j : Int) < (wd : Int) := by omega
      obtain ⟨ov, nv, cv, rfl⟩ : ∃ a b c, u0 = .slice a b c := by obtain ⟨a, c, e⟩ := own_shp hO.out; exact ⟨a, _, c, e⟩
      have hlen : (L ++ (be wd n).take j).length ≤ 1000000 := by simp [be_len]; omega
      have hE := hide' (be_take (n := n) L hlt)
      have hz := hide' (byte_eq n (wd - 1 - j))
      have hBr : B ≤ wr.heap.size := Nat.le_trans hB hb.out.size
      generalize L ++ (be wd n).take j = Lj at *
      go_wp2_with (at_builtin; rw [hz.out]; refine app_byteL rfl (.tmp 12) (.tmp 21) B wr (.slice ov nv cv) Lj (n / 256 ^ (wd - 1 - j) % 256) rfl rfl rfl hO.out hBr hlen ?_; intro v2 w2 hO2 hb2 hf2; have hO3 := hide' hO2; have hB3 : Hid (Below B w w2) := hb.out.trans hb2; have hf3 : Hid (FzB w w2) := hf.out.trans hf2; clear hO2 hb2 hf2)
      rw [hE.out] at hO3
      exact ⟨⟨j + 1, by omega, by go_num, hO3, hB3, hf3⟩, by simp [intOf]; omega⟩
    · obtain rfl : j = wd := by omega
      rw [List.take_of_length_le (by rw [be_len]; exact Nat.le_refl _)] at hO
      obtain ⟨ov, nv, cv, rfl⟩ : ∃ a b c, u0 = .slice a b c := by obtain ⟨a, c, e⟩ := own_shp hO.out; exact ⟨a, _, c, e⟩
      go_wp2
      go_ret
      exact ⟨_, rfl, hO, hb, hf⟩
/-- A row of bytes, wherever it lies. -/
def RowB (w : World) (v : Value) (L : List Nat) : Prop := ∃ oa cap, v = .slice oa L.length cap ∧ ∀ (i : Nat) (z : Nat), L[i]? = some z → ∃ g o, oa = some ⟨g, o, none⟩ ∧ w.cell? ⟨g, o + i, none⟩ = some (.int .u8 (z : Int))
theorem RowB.below {w w' : World} {v : Value} {L : List Nat} {n : Nat} (h : RowB w v L) (hb : Below n w w') (hn : w.heap.size ≤ n) : RowB w' v L := by
  obtain ⟨oa, cap, e, h⟩ := h
  refine ⟨oa, cap, e, fun i z hz => ?_⟩
  obtain ⟨g, o, e1, e2⟩ := h i z hz
  exact ⟨g, o, e1, (hb.cell (p := ⟨g, o + i, none⟩) (Nat.lt_of_lt_of_le (cell_lt e2) hn)).trans e2⟩
theorem RowB.of_owns {W : World} {B : Nat} {v : Value} {L : List Nat} (h : W.ownsRow B 5 1 v L.length (cellsB L)) : RowB W v L := by
  rcases h.2 with ⟨rfl, h0⟩ | ⟨g, cap, cur, rfl, _, _, hcap, _⟩
  · refine ⟨none, 0, by rw [h0], fun i z hz => ?_⟩
    have := (List.getElem?_eq_some_iff.1 hz).1
    omega
  · refine ⟨_, cap, rfl, fun i z hz => ⟨g, 0, rfl, ?_⟩⟩
    have hi := (List.getElem?_eq_some_iff.1 hz).1
    have := h.cellAt i (by omega)
    rw [Nat.zero_add, this]
    simp [cellsB, hz]
/-- The text of bytes. -/
def strB (L : List Nat) : ByteArray := strOfNums (L.map fun z : Nat => (z : Int))
theorem conv_bytes {w : World} {v : Value} {L : List Nat} (h : RowB w v L) : (convert 39 9 v).run Tryd.prog w = .ok (.string (strB L)) w := by
  obtain ⟨oa, cap, rfl, hc⟩ := h
  cases oa with
  | none =>
    cases L with
    | nil => exact run_convert_bytes_nil w 39 5 Tryd.underlying39 Tryd.underlying5 0 cap 9 Tryd.underlying9
    | cons a l => obtain ⟨g, o, e, _⟩ := hc 0 a rfl; cases e
  | some ad =>
    cases L with
    | nil =>
      have hl : (loadCells ad 0).run Tryd.prog w = .ok (([] : List Int).map (Value.int .u8)).toArray w := run_loadCells_list (P := Tryd.prog) w ad [] (fun j v hj => by simp at hj)
      show (convert 39 9 (.slice (some ad) 0 cap)).run Tryd.prog w = _
      rw [run_convert_bytes_string w 39 9 5 _ 0 cap Tryd.underlying39 Tryd.underlying5 Tryd.underlying9, run_bytesToString w _ 0 cap [] hl]
      rfl
    | cons a l =>
      obtain ⟨g, o, e, _⟩ := hc 0 a rfl
      cases e
      refine run_convert_bytes_arg w 39 5 Tryd.underlying39 Tryd.underlying5 g o _ cap _ (by simp) (fun i hi => ?_) 9 Tryd.underlying9
      obtain ⟨z, hz⟩ : ∃ z, (a :: l)[i]? = some z := ⟨_, List.getElem?_eq_getElem hi⟩
      obtain ⟨g', o', e', hcell⟩ := hc i z hz
      cases e'
      rw [hcell, List.getD_eq_getElem?_getD, List.getElem?_map, hz]
      rfl
end Go.Proofs.YtgmjmliemjgioaaDoor.S
namespace Go.Proofs.YtgmjmliemjgioaaDoor.S
open Go.RowKit Go.Shelf
/-- A step's bytes, a rule's, all. -/
def stB (P : Pb) (L : List Int) (t : Nat) : List Nat := be 8 (P.who.getD t 0) ++ be 1 (P.fixed.getD t 0 + 1).toNat ++ be 1 (L.getD t 0).toNat
def stsB (P : Pb) (L : List Int) (j : Nat) : List Nat := (List.range j).flatMap (stB P L)
def spB (S : List Int) : List Nat := S.flatMap fun s => be 1 s.toNat
def ruB (r : Rl) : List Nat := be 1 r.kind.toNat ++ be 4 r.k.toNat ++ be 1 r.steps.length ++ spB r.steps
def rusB (R : List Rl) : List Nat := R.flatMap ruB
def hdB (P : Pb) : List Nat := be 2 20547 ++ be 1 P.users.toNat ++ be 1 P.who.length
def certL (P : Pb) (L : List Int) : List Nat := hdB P ++ stsB P L P.who.length ++ be 1 P.rules.length ++ rusB P.rules
theorem stB_at {P : Pb} {L : List Int} {t z : Nat} {y x : Int} (hz : P.who[t]? = some z) (hy : P.fixed[t]? = some y) (hx : L[t]? = some x) : stB P L t = be 8 z ++ be 1 (y + 1).toNat ++ be 1 x.toNat := by
  unfold stB
  simp [List.getD_eq_getElem?_getD, hz, hy, hx]
theorem stsB_succ (P : Pb) (L : List Int) (j : Nat) : stsB P L (j + 1) = stsB P L j ++ stB P L j := by
  unfold stsB
  rw [List.range_succ]
  simp
theorem stsB_len (P : Pb) (L : List Int) (j : Nat) : (stsB P L j).length = 10 * j := by
  induction j with
  | zero => rfl
  | succ j ih => rw [stsB_succ, List.length_append, ih]; simp [stB, be_len]; omega
theorem hdB_len (P : Pb) : (hdB P).length = 4 := by simp [hdB, be_len]
theorem spB_len (S : List Int) : (spB S).length = S.length := by
  induction S with
  | nil => rfl
  | cons a l ih => simp [spB, be_len] at ih ⊢; omega
theorem ruB_len (r : Rl) : (ruB r).length = 6 + r.steps.length := by simp [ruB, be_len, spB_len]; omega
theorem rusB_le {R : List Rl} (h : ∀ r ∈ R, r.steps.length ≤ 1000) : (rusB R).length ≤ 1006 * R.length := by
  induction R with
  | nil => exact Nat.le_refl _
  | cons a l ih =>
    have h1 := ih fun r hr => h r (List.mem_cons_of_mem _ hr)
    have h2 := h a (List.mem_cons_self ..)
    have h3 := ruB_len a
    simp [rusB] at h1 ⊢
    omega
theorem rusB_take {R : List Rl} {j : Nat} {r : Rl} (h : R[j]? = some r) : rusB (R.take (j + 1)) = rusB (R.take j) ++ ruB r := by
  rw [List.take_add_one, h]; simp [rusB]
theorem spB_take {S : List Int} {j : Nat} {s : Int} (h : S[j]? = some s) : spB (S.take (j + 1)) = spB (S.take j) ++ be 1 s.toNat := by
  rw [List.take_add_one, h]; simp [spB]
/-- A rule's numbers are small. -/
theorem rule_small {n : Int} {r : Rl} (h : chk n r = true) : 0 ≤ r.kind ∧ r.kind ≤ 5 ∧ 0 ≤ r.k ∧ r.k ≤ 999999999 ∧ (∀ s ∈ r.steps, 0 ≤ s ∧ s < 12) ∧ r.steps.length ≤ 12 := by
  unfold chk at h
  simp only [Bool.and_eq_true, decide_eq_true_eq] at h
  obtain ⟨⟨⟨h0, h1⟩, h2⟩, h3⟩ := h
  have hm := ris_mem h2
  have hl := ris_len h2 h0
  have hl2 : r.steps.length ≤ 12 := by omega
  have hs : ∀ s ∈ r.steps, 0 ≤ s ∧ s < 12 := fun s hs => by have := hm s hs; omega
  unfold numF at h3
  split at h3
  · simp only [Bool.and_eq_true, decide_eq_true_eq] at h3
    exact ⟨by omega, by omega, by omega, by omega, hs, hl2⟩
  · split at h3
    · simp only [Bool.and_eq_true, decide_eq_true_eq] at h3
      exact ⟨by omega, by omega, by omega, by omega, hs, hl2⟩
    · split at h3
      · simp only [Bool.and_eq_true, decide_eq_true_eq] at h3
        exact ⟨by omega, by omega, by omega, by omega, hs, hl2⟩
      · cases h3
/-- What stands while a certificate is written. -/
structure Ce (w : World) (P : Pb) (wv fv rv : Value) (W : World) (v : Value) (L : List Nat) : Prop where
  own : W.ownsRow (w.heap.size + 1) 5 1 v L.length (cellsB L)
  be : Below w.heap.size w W
  pb : PbB W w.heap.size P wv fv rv
section
variable {w W W' : World} {P : Pb} {wv fv rv v v' : Value} {L L' : List Nat}
theorem Ce.put (h : Ce w P wv fv rv W v L) (ho : W'.ownsRow (w.heap.size + 1) 5 1 v' L'.length (cellsB L')) (hb : Below (w.heap.size + 1) W W') : Ce w P wv fv rv W' v' L' :=
  ⟨ho, h.be.trans (hb.mono (Nat.le_succ _)), (hb.block _ (Nat.lt_succ_self _)).trans h.pb⟩
theorem Ce.sz (h : Ce w P wv fv rv W v L) : w.heap.size + 1 ≤ W.heap.size := (Array.getElem?_eq_some_iff.1 h.pb).1
theorem Ce.over (h : Ce w P wv fv rv W v L) (hb : Below W.heap.size W W') : Ce w P wv fv rv W' v L :=
  ⟨own_lowB h.own hb, h.be.trans (hb.mono h.be.size), h.pb.below hb⟩
theorem Ce.shp (h : Ce w P wv fv rv W v L) : ∃ oa n cap, v = .slice oa n cap := by obtain ⟨a, c, e⟩ := own_shp h.own; exact ⟨a, _, c, e⟩
/-- A number put down. -/
theorem Ce.putI (h : Ce w P wv fv rv W v L) (wd : Nat) (wi x : Int) (hwi : wi = (wd : Int)) (hw : wd ≤ 8) (hl : L.length ≤ 100000) (h0 : 0 ≤ x) (h1 : x < 9223372036854775808) :
    Calls Tryd.prog 41 #[v, .int .i64 wi, .int .i64 x] W fun e w' => ∃ oa n cap, e = .returned (.slice oa n cap) ∧ Hid (Ce w P wv fv rv w' (.slice oa n cap) (L ++ S.be wd x.toNat)) ∧ Hid (FzB W w') := by
  subst hwi
  obtain ⟨n, rfl⟩ : ∃ n : Nat, x = (n : Int) := ⟨x.toNat, by omega⟩
  refine (S.putI (w.heap.size + 1) v L wd n W h.own h.sz hw hl (by omega)).mono ?_
  rintro e w' ⟨v', rfl, ho, hb, hf⟩
  rw [Int.toNat_natCast]
  obtain ⟨a, b, c, rfl⟩ := (h.put ho.out hb.out).shp
  exact ⟨a, b, c, rfl, h.put ho.out hb.out, hf⟩
theorem Ce.putU (h : Ce w P wv fv rv W v L) (wd n : Nat) (wi : Int) (hwi : wi = (wd : Int)) (hw : wd ≤ 8) (hl : L.length ≤ 100000) (h1 : n < 18446744073709551616) :
    Calls Tryd.prog 40 #[v, .int .i64 wi, .int .u64 (n : Int)] W fun e w' => ∃ oa n' cap, e = .returned (.slice oa n' cap) ∧ Hid (Ce w P wv fv rv w' (.slice oa n' cap) (L ++ S.be wd n)) ∧ Hid (FzB W w') := by
  subst hwi
  refine (S.putU (w.heap.size + 1) v L wd n W h.own h.sz hw hl h1).mono ?_
  rintro e w' ⟨v', rfl, ho, hb, hf⟩
  obtain ⟨a, b, c, rfl⟩ := (h.put ho.out hb.out).shp
  exact ⟨a, b, c, rfl, h.put ho.out hb.out, hf⟩
end
theorem Ce.start (w : World) (P : Pb) (wv fv rv : Value) : Ce w P wv fv rv (w.alloc (.cells #[.int .i64 P.users, wv, fv, rv] 26)) (.slice none 0 0) [] :=
  ⟨World.ownsRow_nil _ _ _ _, (Below.refl _ w).alloc (Nat.le_refl _) _, heap_new w _⟩
end Go.Proofs.YtgmjmliemjgioaaDoor.S
namespace Go.Proofs.YtgmjmliemjgioaaDoor.S
open Go.RowKit Go.Shelf
set_option maxRecDepth 100000 in
set_option maxHeartbeats 8000000 in
theorem certF (P : Pb) (wv fv rv : Value) (L : List Int) (lv : Value) (w : World) (h : PbV w P wv fv rv) (hL : RowI w lv L) (hk : Pok P) (hh : holP P L = true) :
    Calls Tryd.prog 24 #[pbV P wv fv rv, lv] w (PuP w w.heap.size (certL P L)) := by
  have hC : chkN P = 0 := by unfold holP at hh; simp only [Bool.and_eq_true, decide_eq_true_eq] at hh; exact hh.1.1.1
  have hl : L.length = P.who.length := by unfold holP at hh; simp only [Bool.and_eq_true, decide_eq_true_eq] at hh; exact hh.1.1.2
  have hok : ∀ (t : Nat) (x : Int), L[t]? = some x → 0 ≤ x ∧ x < 64 := fun t x ht => by
    unfold holP at hh
    simp only [Bool.and_eq_true, decide_eq_true_eq] at hh
    have h3 := hh.1.2
    unfold okA at h3
    rw [List.all_eq_true] at h3
    have h4 := h3 t (List.mem_range.2 (List.getElem?_eq_some_iff.1 ht).1)
    rw [show L.getD t 0 = x by simp [List.getD_eq_getElem?_getD, ht]] at h4
    unfold okU at h4
    rw [Bool.and_eq_true] at h4
    have h5 := (isU_iff P x).1 h4.1
    have h6 := (chkN_zero hC).2.2.1
    omega
  obtain ⟨g12, g0, g64, g32, gF, gW, gR⟩ := chkN_zero hC
  obtain ⟨gl, gx⟩ := fixB_of gF g64
  have hs := h.shape
  have hst := hide' (Ce.start w P wv fv rv)
  have h' := hide' h
  have hgl : Hid (∀ j, j < P.who.length → ∃ (z : Nat) (y x : Int), P.who[j]? = some z ∧ P.fixed[j]? = some y ∧ L[j]? = some x ∧ z < 18446744073709551616 ∧ (0 ≤ y + 1 ∧ y + 1 < 9223372036854775808) ∧ (0 ≤ x ∧ x < 9223372036854775808)) := fun j hj => by
    have e1 := List.getElem?_eq_getElem (show j < P.who.length from hj)
    have e2 := List.getElem?_eq_getElem (show j < P.fixed.length by omega)
    have e3 := List.getElem?_eq_getElem (show j < L.length by omega)
    have e4 := gx _ (List.mem_of_getElem? e2)
    have e5 := hok _ _ e3
    exact ⟨_, _, _, e1, e2, e3, hk.b _ (List.mem_of_getElem? e1), by omega, by omega⟩
  have hrs : Hid (∀ (j : Nat) (r : Rl), P.rules[j]? = some r → 0 ≤ r.kind ∧ r.kind ≤ 5 ∧ 0 ≤ r.k ∧ r.k ≤ 999999999 ∧ (∀ s ∈ r.steps, 0 ≤ s ∧ s < 12) ∧ r.steps.length ≤ 12) := fun j r hr => by
    have := List.all_eq_true.1 gR r (List.mem_of_getElem? hr)
    exact rule_small this
  have hgl2 : Hid (P.fixed.length = P.who.length) := gl
  obtain ⟨ow, cw, of, cf, or, cr, rfl, rfl, rfl⟩ := hs
  obtain ⟨ol, cl, rfl, _, hcl⟩ := hL
  have hcl' := hide' hcl
  unfold PuP
  unfold pbV
  rw [hl]
  have hU1 : P.users < 9223372036854775808 := by omega
  have hfx : P.fixed.length ≤ 1000 := hk.f
  clear hcl h hC hl hok gx gF gW gR hh hk gl
  go_enter Tryd.func24, Tryd.ntmps24
  go_wp2_with fail
  refine (hst.out.putU 2 20547 2 rfl (by decide) (by decide) (by decide)).mono ?_
  rintro e w1 ⟨o1, n1, c1, rfl, hC1, _⟩
  have q0 := hC1.out.pb.c0
  clear hst
  go_wp2_with fail
  refine (hC1.out.putI 1 1 P.users rfl (by decide) (by simp [be_len]) g0 hU1).mono ?_
  rintro e w2 ⟨o2, n2, c2, rfl, hC2, _⟩
  have q1 := hC2.out.pb.c1
  clear hC1 q0
  go_wp2_with fail
  refine (hC2.out.putI 1 1 (P.who.length : Int) rfl (by decide) (by simp [be_len]) (by omega) (by omega)).mono ?_
  rintro e w3 ⟨o3, n3, c3, rfl, hC3', _⟩
  have hC3 : Hid (Ce w P (.slice ow P.who.length cw) (.slice of P.fixed.length cf) (.slice or P.rules.length cr) w3 (.slice o3 n3 c3) (hdB P ++ stsB P L 0)) := by
    have := hC3'.out
    rw [Int.toNat_natCast] at this
    rw [show hdB P ++ stsB P L 0 = hdB P by simp [stsB]]
    exact this
  clear hC2 q1 hC3'
  go_upto_block 0 with fail
  go_cut [5, 6, 7] from 22 to 48 (fun v _ _ wx => Hid (Ce w P (.slice ow P.who.length cw) (.slice of P.fixed.length cf) (.slice or P.rules.length cr) wx v (hdB P ++ stsB P L P.who.length)))
  case first =>
    as_aux_lemma =>
    go_wp2_with fail
    go_loopw [5, 6, 7, 24] (fun v _ _ p wr => ∃ j : Nat, j ≤ P.who.length ∧ p = .int .i64 (j : Int) ∧ Hid (Ce w P (.slice ow P.who.length cw) (.slice of P.fixed.length cf) (.slice or P.rules.length cr) wr v (hdB P ++ stsB P L j))) (fun _ _ _ p _ => ((P.who.length : Int) - intOf p).toNat)
    case atStart => exact ⟨0, Nat.zero_le _, rfl, hC3⟩
    case round =>
      clear hC3
      obtain ⟨j, hj, rfl, hC⟩ := hrel
      obtain ⟨ov, nv, cv, rfl⟩ := hC.out.shp
      by_cases hlt : j < P.who.length
      · have hlt' : (j : Int) < (P.who.length : Int) := by omega
        have hltf : (j : Int) < (P.fixed.length : Int) := by have := hgl2.out; omega
        have hj0 : ¬ (j : Int) < 0 := by omega
        obtain ⟨z, y, x, hz, hy, hx, hzb, hyb, hxb⟩ := hgl.out j hlt
        obtain ⟨g1, p1, rfl, a1⟩ := hcl'.out j x hx
        obtain ⟨ow', cw', ew, _, hcw⟩ := h'.out.who
        obtain ⟨of', cf', ef, _, hcf⟩ := h'.out.fixed
        obtain ⟨g2, p2, r2, a2⟩ := hcw j z hz
        obtain ⟨g3, p3, r3, a3⟩ := hcf j y hy
        cases ew
        cases ef
        subst r2
        subst r3
        have a1' := M.cell_over a1 hC.out.be
        have q1 := hC.out.pb.c1
        have a2' := M.cell_over a2 hC.out.be
        have hE := hide' (stB_at hz hy hx)
        have hE2 := hide' (stsB_succ P L j)
        have hlen : (hdB P ++ stsB P L j).length ≤ 1000 := by rw [List.length_append, hdB_len, stsB_len]; omega
        have a3h := hide' a3
        generalize hA : hdB P ++ stsB P L j = A at *
        have hA' := hide' hA
        clear hz hy hx a1 a2 a3 hcw hcf h' hgl hrs hA
        go_wp2_with fail
        refine (hC.out.putU 8 z 8 rfl (by decide) (by omega) hzb).mono ?_
        rintro e w4 ⟨o4, n4, c4, rfl, hC4, _⟩
        have q2 := hC4.out.pb.c2
        have a3' := M.cell_over a3h.out hC4.out.be
        clear hC q1 a1' a2'
        have hy1 : y - -1 = y + 1 := by omega
        have hyw : IntKind.i64.wrap (y + 1) = y + 1 := by
          have := hyb
          simp only [IntKind.wrap, IntKind.bits, IntKind.signed]
          simp
          omega
        go_wp2_with fail
        refine (hC4.out.putI 1 1 (y + 1) rfl (by decide) (by simp [be_len]; omega) hyb.1 hyb.2).mono ?_
        rintro e w5 ⟨o5, n5, c5, rfl, hC5, _⟩
        clear hC4 q2 a3' hy1 hyw
        go_wp2_with fail
        refine (hC5.out.putI 1 1 x rfl (by decide) (by simp [be_len]; omega) hxb.1 hxb.2).mono ?_
        rintro e w6 ⟨o6, n6, c6, rfl, hC6, _⟩
        have hC7 : Hid (Ce w P (.slice (some ⟨g2, p2, none⟩) P.who.length cw) (.slice (some ⟨g3, p3, none⟩) P.fixed.length cf) (.slice or P.rules.length cr) w6 (.slice o6 n6 c6) (hdB P ++ stsB P L (j + 1))) := by
          have := hC6.out
          unfold Hid
          rw [hE2.out, hE.out, ← List.append_assoc, hA'.out]
          simpa [List.append_assoc] using this
        clear hC5 hC6
        go_wp2
        exact ⟨⟨j + 1, by omega, by go_num, hC7⟩, by simp [intOf]; omega⟩
      · obtain rfl : j = P.who.length := by omega
        clear hcl' hgl h' hrs
        go_wp2
        go_meet
        exact hC
  case rest =>
  have hC := hcut
  obtain ⟨ov, nv, cv, rfl⟩ := hC.out.shp
  have q3 := hC.out.pb.c3
  have hlA : (hdB P ++ stsB P L P.who.length).length ≤ 1000 := by rw [List.length_append, hdB_len, stsB_len]; omega
  clear hcl' hgl hC3 hcut
  go_wp2_with fail
  refine (hC.out.putI 1 1 (P.rules.length : Int) rfl (by decide) (by omega) (by omega) (by omega)).mono ?_
  rintro e w4 ⟨o4, n4, c4, rfl, hC4', _⟩
  have hfin : Hid (certL P L = (hdB P ++ stsB P L P.who.length ++ be 1 P.rules.length) ++ rusB P.rules) := rfl
  have hC4 : Hid (Ce w P (.slice ow P.who.length cw) (.slice of P.fixed.length cf) (.slice or P.rules.length cr) w4 (.slice o4 n4 c4) ((hdB P ++ stsB P L P.who.length ++ be 1 P.rules.length) ++ rusB (P.rules.take 0))) := by
    have := hC4'.out
    rw [Int.toNat_natCast] at this
    rw [show rusB (P.rules.take 0) = [] from rfl, List.append_nil]
    exact this
  have hlB : (hdB P ++ stsB P L P.who.length ++ be 1 P.rules.length).length ≤ 1001 := by rw [List.length_append, be_len]; omega
  generalize hdB P ++ stsB P L P.who.length ++ be 1 P.rules.length = A at *
  have hlr : Hid (∀ j, (rusB (P.rules.take j)).length ≤ 33000) := fun j => by
    have h1 : ∀ r ∈ P.rules.take j, r.steps.length ≤ 1000 := fun r hr => by
      obtain ⟨i, hi⟩ := List.getElem?_of_mem (List.mem_of_mem_take hr)
      have := (hrs.out i r hi).2.2.2.2.2
      omega
    have h2 := rusB_le h1
    rw [List.length_take] at h2
    omega
  have q3' := hC4.out.pb.c3
  clear hC hC4' q3 hlA
  go_wp2
  go_loopw [5, 9, 11, 56] (fun v _ _ p wr => ∃ j : Nat, j ≤ P.rules.length ∧ p = .int .i64 (j : Int) ∧ Hid (Ce w P (.slice ow P.who.length cw) (.slice of P.fixed.length cf) (.slice or P.rules.length cr) wr v (A ++ rusB (P.rules.take j)))) (fun _ _ _ p _ => ((P.rules.length : Int) - intOf p).toNat)
  case atStart => exact ⟨0, Nat.zero_le _, rfl, hC4⟩
  case round =>
    clear hC4 q3'
    obtain ⟨j, hj, rfl, hC⟩ := hrel
    obtain ⟨ov, nv, cv, rfl⟩ := hC.out.shp
    by_cases hlt : j < P.rules.length
    · as_aux_lemma =>
      have hlt' : (j : Int) < (P.rules.length : Int) := by omega
      obtain ⟨r, hx⟩ : ∃ r, P.rules[j]? = some r := ⟨_, List.getElem?_eq_getElem hlt⟩
      obtain ⟨oa3, ca3, e3, _, hcr⟩ := h'.out.rules
      obtain ⟨g, o, sv, r3, d1, d2, d3, d4⟩ := hcr j r hx
      injection e3 with e3a e3b e3c
      subst e3a
      subst r3
      have e1 := M.cell_over d1 hC.out.be
      have e2 := M.cell_over d2 hC.out.be
      have e4 := M.cell_over d3 hC.out.be
      obtain ⟨hr1, hr2, hr3, hr4, hr5, hr6⟩ := hrs.out j r hx
      have hr5' := hide' hr5
      have hTk := hide' (rusB_take hx)
      have hl5 := hlr.out j
      have hlen : (A ++ rusB (P.rules.take j)).length ≤ 40000 := by rw [List.length_append]; omega
      obtain ⟨osv, csv, rfl, _, hcs⟩ := d4
      have hcs' := hide' hcs
      have hA : Hid (A ++ rusB (P.rules.take (j + 1)) = A ++ rusB (P.rules.take j) ++ ruB r) := by unfold Hid; rw [hTk.out, List.append_assoc]
      have hbx := hide' (hC.out.over ((Below.refl _ wr).alloc (Nat.le_refl _) (.cells #[.int .i64 r.kind, .int .i64 r.k, .slice osv r.steps.length csv] 50)))
      have hnb : Hid ((wr.alloc (.cells #[.int .i64 r.kind, .int .i64 r.k, .slice osv r.steps.length csv] 50)).heap[wr.heap.size]? = some (.cells #[.int .i64 r.kind, .int .i64 r.k, .slice osv r.steps.length csv] 50 (0, 0))) := heap_new wr _
      generalize A ++ rusB (P.rules.take j) = D at *
      clear d1 d2 d3 hx hcr hC hTk hl5 hlr hcs hr5 e3b e3c h' hlB hrs
      go_wp2_with fail
      refine (hbx.out.putI 1 1 r.kind rfl (by decide) (by omega) hr1 (by omega)).mono ?_
      rintro e w5 ⟨o5, n5, c5, rfl, hC5, hf5⟩
      have hn5 := hide' (hf5.out.block _ _ _ _ (by decide) hnb.out)
      have k1 : w5.cell? ⟨wr.heap.size, 1, none⟩ = some (.int .i64 r.k) := by have := hn5.out; simp [World.cell?, this]
      clear e1 e2 e4 hf5 hbx hnb
      go_wp2_with fail
      refine (hC5.out.putI 4 4 r.k rfl (by decide) (by simp [be_len]; omega) hr3 (by omega)).mono ?_
      rintro e w6 ⟨o6, n6, c6, rfl, hC6, hf6⟩
      have hn6 := hide' (hf6.out.block _ _ _ _ (by decide) hn5.out)
      have k2 : w6.cell? ⟨wr.heap.size, 2, none⟩ = some (.slice osv r.steps.length csv) := by have := hn6.out; simp [World.cell?, this]
      clear k1 hf6 hC5 hn5
      go_wp2_with fail
      refine (hC6.out.putI 1 1 (r.steps.length : Int) rfl (by decide) (by simp [be_len]; omega) (by omega) (by omega)).mono ?_
      rintro e w7 ⟨o7, n7, c7, rfl, hC7, hf7⟩
      have hn7 := hide' (hf7.out.block _ _ _ _ (by decide) hn6.out)
      have k3 : w7.cell? ⟨wr.heap.size, 2, none⟩ = some (.slice osv r.steps.length csv) := by have := hn7.out; simp [World.cell?, this]
      clear k2 hf7 hC6 hn6 hn7
      rw [Int.toNat_natCast] at hC7
      have hA2 : Hid (D ++ ruB r = (D ++ be 1 r.kind.toNat ++ be 4 r.k.toNat ++ be 1 r.steps.length) ++ spB (r.steps.take r.steps.length)) := by unfold Hid ruB; rw [List.take_length]; simp
      have hC8 : Hid (Ce w P (.slice ow P.who.length cw) (.slice of P.fixed.length cf) (.slice (some ⟨g, o, none⟩) P.rules.length cr) w7 (.slice o7 n7 c7) ((D ++ be 1 r.kind.toNat ++ be 4 r.k.toNat ++ be 1 r.steps.length) ++ spB (r.steps.take 0))) := by
        have := hC7.out
        rw [show spB (r.steps.take 0) = [] from rfl, List.append_nil]
        exact this
      have hlD : (D ++ be 1 r.kind.toNat ++ be 4 r.k.toNat ++ be 1 r.steps.length).length ≤ 50000 := by simp [be_len]; omega
      generalize D ++ be 1 r.kind.toNat ++ be 4 r.k.toNat ++ be 1 r.steps.length = D2 at *
      clear hC7
      generalize wr.heap.size = gr at *
      go_wp2
      go_loopw [5, 11, 76] (fun v _ p wr => ∃ i : Nat, i ≤ r.steps.length ∧ p = .int .i64 (i : Int) ∧ Hid (Ce w P (.slice ow P.who.length cw) (.slice of P.fixed.length cf) (.slice (some ⟨g, o, none⟩) P.rules.length cr) wr v (D2 ++ spB (r.steps.take i)))) (fun _ _ p _ => ((r.steps.length : Int) - intOf p).toNat)
      case atStart => exact ⟨0, Nat.zero_le _, rfl, hC8⟩
      case round =>
        clear hC8 k3
        obtain ⟨i, hi, rfl, hC⟩ := hrel
        obtain ⟨ov2, nv2, cv2, rfl⟩ := hC.out.shp
        by_cases hlt2 : i < r.steps.length
        · have hlt3 : (i : Int) < (r.steps.length : Int) := by omega
          obtain ⟨z, hz⟩ : ∃ z, r.steps[i]? = some z := ⟨_, List.getElem?_eq_getElem hlt2⟩
          obtain ⟨g8, o8, rfl, d8⟩ := hcs'.out i z hz
          have c8 := M.cell_over d8 hC.out.be
          have hzr := hr5'.out z (List.mem_of_getElem? hz)
          have hE := hide' (spB_take hz)
          have hl9 : (D2 ++ spB (r.steps.take i)).length ≤ 60000 := by rw [List.length_append, spB_len, List.length_take]; omega
          have hA3 : Hid (D2 ++ spB (r.steps.take i) ++ be 1 z.toNat = D2 ++ spB (r.steps.take (i + 1))) := by unfold Hid; rw [hE.out, List.append_assoc]
          generalize D2 ++ spB (r.steps.take i) = D3 at *
          clear hz d8 hcs' hr5' hE hA2 hA hlD
          go_wp2_with fail
          refine (hC.out.putI 1 1 z rfl (by decide) (by omega) hzr.1 (by omega)).mono ?_
          rintro e w9 ⟨o9, n9, c9, rfl, hC9, _⟩
          rw [hA3.out] at hC9
          clear hC c8
          go_wp2
          exact ⟨⟨i + 1, by omega, by go_num, hC9⟩, by simp [intOf]; omega⟩
        · obtain rfl : i = r.steps.length := by omega
          rw [← hA2.out, ← hA.out] at hC
          clear hcs' hr5' hA hA2
          go_wp2
          exact ⟨⟨j + 1, by omega, by go_num, hC⟩, by simp [intOf]; omega⟩
    · as_aux_lemma =>
      obtain rfl : j = P.rules.length := by omega
      rw [List.take_length, ← hfin.out] at hC
      clear hrs hlr h'
      go_wp2
      go_ret
      exact ⟨_, rfl, owns_lowS hC.out.own (Nat.le_succ _), hC.out.be, FzB.below hC.out.be⟩
end Go.Proofs.YtgmjmliemjgioaaDoor.S
namespace Go.Proofs.YtgmjmliemjgioaaDoor.S
open Go.RowKit Go.Shelf
/-- What Write tells. -/
def wrL (P : Pb) (L : List Int) : List Nat := if holP P L = true then certL P L else []
def wrN (P : Pb) (L : List Int) : Nat := if chkN P = 0 then (if holP P L = true then 0 else 1) else chkN P
def WrP (w : World) (P : Pb) (L : List Int) (e : Ending) (w' : World) : Prop :=
  ∃ v, e = .returned (.tuple #[v, .int .i64 (wrN P L : Int)]) ∧ Hid (w'.ownsRow w.heap.size 5 1 v (wrL P L).length (cellsB (wrL P L))) ∧ Hid (Below w.heap.size w w')
theorem holP_chk {P : Pb} {L : List Int} (h : holP P L = true) : chkN P = 0 := by unfold holP at h; simp only [Bool.and_eq_true, decide_eq_true_eq] at h; exact h.1.1.1
set_option maxRecDepth 100000 in
set_option maxHeartbeats 4000000 in
theorem writeF (P : Pb) (wv fv rv : Value) (L : List Int) (lv : Value) (w : World) (h : PbV w P wv fv rv) (hL : RowI w lv L) (hLl : L.length ≤ 1000) (hk : Pok P) :
    Calls Tryd.prog 12 #[pbV P wv fv rv, lv] w (WrP w P L) := by
  have hs := h.shape
  have hB0 : Hid (Below w.heap.size w (w.alloc (.cells #[.int .i64 P.users, wv, fv, rv] 26))) := (Below.refl _ w).alloc (Nat.le_refl _) _
  have hb0 : Hid (PbB (w.alloc (.cells #[.int .i64 P.users, wv, fv, rv] 26)) w.heap.size P wv fv rv) := heap_new w _
  have K1 : Hid (∀ V, Below w.heap.size w V → Calls Tryd.prog 8 #[pbV P wv fv rv, lv] V (FlP V P L)) := fun V hV => flawsPF P wv fv rv L lv V (h.below hV) (hL.below hV (Nat.le_refl _)) hLl hk
  have K2 : Hid (holP P L = true → ∀ V, Below w.heap.size w V → Calls Tryd.prog 24 #[pbV P wv fv rv, lv] V (PuP V V.heap.size (certL P L))) := fun hh V hV => certF P wv fv rv L lv V (h.below hV) (hL.below hV (Nat.le_refl _)) hk hh
  obtain ⟨ow, cw, of, cf, or, cr, rfl, rfl, rfl⟩ := hs
  obtain ⟨ol, cl, rfl, _, _⟩ := hL
  have hfl : Hid (chkN P = 0 → decide ((flwL P L).length = 0) = holP P L) := fun hC => flw_hol hC L
  clear h hk
  unfold WrP wrL wrN
  by_cases hC : chkN P = 0
  case neg =>
    have hn : holP P L = false := by cases q : holP P L; rfl; exact absurd (holP_chk q) hC
    rw [if_neg hC, hn, if_neg (by decide)]
    have hne : (((chkN P : Nat) : Int) != 0) = true := by rw [bne_iff_ne]; omega
    unfold FlP flwR at K1
    rw [if_neg hC] at K1
    unfold pbV at K1 ⊢
    generalize chkN P = c at *
    clear K2 hC hfl
    go_enter Tryd.func12, Tryd.ntmps12
    go_wp2_with fail
    refine (K1.out _ hB0.out).mono ?_
    rintro e w1 ⟨v1, rfl, hO1, hb1⟩
    have hB1 : Hid (Below w.heap.size w w1) := hB0.out.trans (hb1.out.mono hB0.out.size)
    obtain ⟨o1, c1, rfl⟩ := own_shp hO1.out
    clear hb1 K1
    go_wp2
    exact bodyPost_ret (v := .tuple #[.slice none 0 0, .int .i64 (c : Int)]) (by simp [results, Tryd.results12, go_sem]) rfl ⟨_, rfl, World.ownsRow_nil w1 _ _ _, hB1⟩
  have hf2 := hfl.out hC
  rw [if_pos hC]
  unfold FlP flwR at K1
  rw [if_pos hC, hC] at K1
  clear hfl hC
  cases hh : holP P L with
  | false =>
    rw [if_neg (by decide), if_neg (by decide)]
    rw [hh] at hf2
    have hlp : (0 : Int) < ((flwL P L).length : Int) := by have := of_decide_eq_false hf2; omega
    unfold pbV at K1 ⊢
    generalize flwL P L = F at *
    clear K2 hf2 hh
    go_enter Tryd.func12, Tryd.ntmps12
    go_wp2_with fail
    refine (K1.out _ hB0.out).mono ?_
    rintro e w1 ⟨v1, rfl, hO1, hb1⟩
    have hB1 : Hid (Below w.heap.size w w1) := hB0.out.trans (hb1.out.mono hB0.out.size)
    obtain ⟨o1, c1, rfl⟩ := own_shp hO1.out
    clear hb1 K1 hO1
    go_wp2
    exact bodyPost_ret (v := .tuple #[.slice none 0 0, .int .i64 1]) (by simp [results, Tryd.results12, go_sem]) rfl ⟨_, rfl, World.ownsRow_nil w1 _ _ _, hB1⟩
  | true =>
    rw [if_pos rfl, if_pos rfl]
    rw [hh] at hf2
    have hlp : (flwL P L).length = 0 := of_decide_eq_true hf2
    rw [hlp] at K1
    have K2' := hide' (K2.out hh)
    unfold pbV at K1 K2' ⊢
    clear K2 hf2 hh hlp
    go_enter Tryd.func12, Tryd.ntmps12
    go_wp2_with fail
    refine (K1.out _ hB0.out).mono ?_
    rintro e w1 ⟨v1, rfl, hO1, hb1⟩
    have hB1 : Hid (Below w.heap.size w w1) := hB0.out.trans (hb1.out.mono hB0.out.size)
    have hp := hide' (hb0.out.below hb1.out)
    have q0 := hp.out.c0
    have q1 := hp.out.c1
    have q2 := hp.out.c2
    have q3 := hp.out.c3
    obtain ⟨o1, c1, rfl⟩ := own_shp hO1.out
    clear hb1 K1 hO1
    go_wp2_with fail
    refine (K2'.out _ hB1.out).mono ?_
    rintro e w2 ⟨v2, rfl, hO2, hb2, _⟩
    have hB2 : Hid (Below w.heap.size w w2) := hB1.out.trans (hb2.out.mono hB1.out.size)
    have hO3 := hide' (owns_lowS hO2.out hB1.out.size)
    obtain ⟨o2, c2, rfl⟩ := own_shp hO2.out
    clear K2' hO2 hb2 q0 q1 q2 q3 hp
    go_wp2
    exact bodyPost_ret (v := .tuple #[.slice o2 (certL P L).length c2, .int .i64 0]) (by simp [results, Tryd.results12, go_sem]) rfl ⟨_, rfl, hO3, hB2⟩
/-- The problem of the runs. -/
def wk1 : Pb := ⟨1, [1], [-1], []⟩
theorem wk1_ok : Pok wk1 := ⟨by decide, by decide, by decide, by decide, by decide⟩
theorem wk1_hol : holP wk1 [0] = true := by decide +kernel
theorem wk1_wr : wrN wk1 [0] = 0 := by decide +kernel
theorem wk1_cert : wrL wk1 [0] = [80, 67, 1, 1, 0, 0, 0, 0, 0, 0, 0, 1, 0, 0, 0] := by decide +kernel
theorem wk1_str : strB (wrL wk1 [0]) = ⟨#[80, 67, 1, 1, 0, 0, 0, 0, 0, 0, 0, 1, 0, 0, 0]⟩ := by rw [wk1_cert]; rfl
theorem wk1_chk : chkN wk1 = 0 := by decide +kernel
theorem wk1_flw : (flwR wk1 [1]).map (fun f => (f.kind, f.step, f.rule)) = [(2, 0, 0)] := by decide +kernel
theorem wk1_fl : flwR wk1 [1] = [⟨2, 0, 0⟩] := by
  have h := wk1_flw
  match q : flwR wk1 [1], h with
  | [⟨a, b, c⟩], h => simp at h; obtain ⟨rfl, rfl, rfl⟩ := h; rfl
theorem wk1_mem (V : World) : ∃ W, W = (((V.alloc (.cells #[.int .u64 1] 48)).alloc (.cells #[.int .i64 (-1)] 3)).alloc (.cells #[.int .i64 1, .slice (some ⟨V.heap.size, 0, none⟩) 1 1, .slice (some ⟨V.heap.size + 1, 0, none⟩) 1 1, .slice none 0 0] 26)) ∧
    PbV W wk1 (.slice (some ⟨V.heap.size, 0, none⟩) 1 1) (.slice (some ⟨V.heap.size + 1, 0, none⟩) 1 1) (.slice none 0 0) ∧ PbB W (V.heap.size + 1 + 1) wk1 (.slice (some ⟨V.heap.size, 0, none⟩) 1 1) (.slice (some ⟨V.heap.size + 1, 0, none⟩) 1 1) (.slice none 0 0) ∧ Below V.heap.size V W := by
  have z1 : (V.alloc (.cells #[.int .u64 1] 48)).heap.size = V.heap.size + 1 := by simp
  have z2 : ((V.alloc (.cells #[.int .u64 1] 48)).alloc (.cells #[.int .i64 (-1)] 3)).heap.size = V.heap.size + 1 + 1 := by simp
  have n1 := heap_new V (.cells #[.int .u64 1] 48)
  have n2 := heap_new (V.alloc (.cells #[.int .u64 1] 48)) (.cells #[.int .i64 (-1)] 3)
  have b1 : Below V.heap.size V (V.alloc (.cells #[.int .u64 1] 48)) := (Below.refl _ V).alloc (Nat.le_refl _) _
  have b2 := (Below.refl _ (V.alloc (.cells #[.int .u64 1] 48))).alloc (Nat.le_refl _) (.cells #[.int .i64 (-1)] 3)
  have b3 := (Below.refl _ ((V.alloc (.cells #[.int .u64 1] 48)).alloc (.cells #[.int .i64 (-1)] 3))).alloc (Nat.le_refl _) (.cells #[.int .i64 1, .slice (some ⟨V.heap.size, 0, none⟩) 1 1, .slice (some ⟨V.heap.size + 1, 0, none⟩) 1 1, .slice none 0 0] 26)
  have n3 := heap_new ((V.alloc (.cells #[.int .u64 1] 48)).alloc (.cells #[.int .i64 (-1)] 3)) (.cells #[.int .i64 1, .slice (some ⟨V.heap.size, 0, none⟩) 1 1, .slice (some ⟨V.heap.size + 1, 0, none⟩) 1 1, .slice none 0 0] 26)
  rw [z2] at n3 b3
  rw [z1] at n2 b2
  have m1 := (b3.block V.heap.size (by omega)).trans ((b2.block V.heap.size (by omega)).trans n1)
  have m2 := (b3.block (V.heap.size + 1) (by omega)).trans n2
  refine ⟨_, rfl, ?_, n3, (b1.trans (b2.mono (by omega))).trans (b3.mono (by omega))⟩
  generalize ((V.alloc (.cells #[.int .u64 1] 48)).alloc (.cells #[.int .i64 (-1)] 3)).alloc (.cells #[.int .i64 1, .slice (some ⟨V.heap.size, 0, none⟩) 1 1, .slice (some ⟨V.heap.size + 1, 0, none⟩) 1 1, .slice none 0 0] 26) = W at *
  refine ⟨⟨_, _, rfl, ⟨Nat.le_refl _, fun e => by cases e⟩, fun i z hz => ⟨_, _, rfl, ?_⟩⟩, ⟨_, _, rfl, ⟨Nat.le_refl _, fun e => by cases e⟩, fun i z hz => ⟨_, _, rfl, ?_⟩⟩, ⟨none, 0, rfl, ⟨Nat.le_refl _, fun _ => rfl⟩, fun i r hr => by simp [wk1] at hr⟩⟩
  · match i, hz with
    | 0, hz => cases hz; simp [World.cell?, m1]
    | i + 1, hz => simp [wk1] at hz
  · match i, hz with
    | 0, hz => cases hz; simp [World.cell?, m2]
    | i + 1, hz => simp [wk1] at hz
theorem row_one (V : World) (x : Int) : RowI (V.alloc (.cells #[.int .i64 x] 3)) (.slice (some ⟨V.heap.size, 0, none⟩) 1 1) [x] := by
  have n3 := heap_new V (.cells #[.int .i64 x] 3)
  generalize V.alloc (.cells #[.int .i64 x] 3) = W at *
  refine ⟨_, _, rfl, ⟨Nat.le_refl _, fun e => by cases e⟩, fun i z hz => ⟨_, _, rfl, ?_⟩⟩
  match i, hz with
  | 0, hz => cases hz; simp [World.cell?, n3]
  | i + 1, hz => simp at hz
end Go.Proofs.YtgmjmliemjgioaaDoor.S
namespace Go.Proofs.YtgmjmliemjgioaaDoor.S
open Go.RowKit Go.Shelf
set_option maxRecDepth 100000 in
set_option maxHeartbeats 1000000 in
theorem row14S (l : List Int) (v : Value) (w : World) (hr : RowI w v l) :
    Calls Tryd.prog 9 #[v] w fun e w' => ∃ v', e = .returned v' ∧ w'.ownsRow w.heap.size 3 1 v' (l.take 30).length (cellsI (l.take 30)) ∧ Below w.heap.size w w' := by
  obtain ⟨oa, cap, rfl, hcap, hc⟩ := hr
  obtain ⟨i0, hi, hz0, hz1, hz2⟩ := info_parts info3
  have hc' := hide' hc
  clear hc
  go_enter Tryd.func9, Tryd.ntmps9
  by_cases hlong : 30 < l.length
  · obtain ⟨ad, rfl⟩ : ∃ ad, oa = some ad := by
      cases oa with
      | none => have := hcap.2 rfl; omega
      | some ad => exact ⟨ad, rfl⟩
    obtain ⟨g, o, e, _⟩ := hc'.out 0 l[0] (List.getElem?_eq_getElem (by omega))
    cases e
    have hcap1 := hcap.1
    have hnews : ∀ j u, (cellsI (l.take 30))[j]? = some u → w.cell? (Addr.add ⟨g, o, none⟩ j) = some u := fun j u hu => by
      obtain ⟨z, hz, rfl⟩ := cellsI_at hu
      obtain ⟨hj, _⟩ := List.getElem?_eq_some_iff.1 hz
      rw [List.length_take] at hj
      rw [List.getElem?_take_of_lt (by omega)] at hz
      obtain ⟨g', o', e, hcell⟩ := hc'.out j z hz
      cases e
      rw [Addr.add_lit]; exact hcell
    clear hcap
    go_wp2_with (at_builtin; refine wpList_append_own _ rfl _ _ 23 rfl w.heap.size 3 i0 (.int .i64 0) 1 8 Tryd.underlying23 hi hz0 hz1 hz2 rfl (by decide) _ 0 (cellsI []) rfl (owns_zero w _) ⟨g, o, none⟩ 30 cap (cellsI (l.take 30)) rfl (by simp [cellsI]; omega) (fun j u hu => cell_new (hnews j u hu)) (one_cells _) (by unfold maxLen; omega) (by omega) (by simp) ?_; intro v1 w1 hown1 hgrow1 hnil)
    go_ret
    have hown : w1.ownsRow w.heap.size 3 1 v1 (0 + 30) (cellsI (l.take 30)) := hown1
    rw [show 0 + 30 = (l.take 30).length by rw [List.length_take]; omega] at hown
    exact ⟨_, rfl, hown, ((Below.refl _ w).alloc (Nat.le_refl _) _).grown hgrow1 (by simp) (fun j ej => by cases ej; exact Nat.le_refl _)⟩
  · have hle : l.length ≤ 30 := by omega
    rw [List.take_of_length_le hle]
    cases oa with
    | none =>
      obtain ⟨h1, h2⟩ := hcap
      have := h2 rfl
      subst this
      have : l = [] := List.eq_nil_of_length_eq_zero (by omega)
      subst this
      go_wp2_with (at_builtin; refine wpList_append_own_none rfl _ _ 23 rfl w.heap.size 3 i0 1 Tryd.underlying23 hi _ 0 (cellsI []) rfl (owns_zero w _) rfl ?_)
      go_ret
      exact ⟨_, rfl, owns_zero w _, (Below.refl _ w).alloc (Nat.le_refl _) _⟩
    | some ad =>
      have hnews : ∀ j u, (cellsI l)[j]? = some u → w.cell? (ad.add j) = some u := fun j u hu => by
        obtain ⟨z, hz, rfl⟩ := cellsI_at hu
        obtain ⟨g, o, e, hcell⟩ := hc'.out j z hz
        cases e
        rw [Addr.add_lit]; exact hcell
      clear hcap
      go_wp2_with (at_builtin; refine wpList_append_own _ rfl _ _ 23 rfl w.heap.size 3 i0 (.int .i64 0) 1 8 Tryd.underlying23 hi hz0 hz1 hz2 rfl (by decide) _ 0 (cellsI []) rfl (owns_zero w _) ad l.length cap (cellsI l) rfl (by simp [cellsI]) (fun j u hu => cell_new (hnews j u hu)) (one_cells _) (by unfold maxLen; omega) (by omega) (by simp) ?_; intro v1 w1 hown1 hgrow1 hnil)
      go_ret
      have hown : w1.ownsRow w.heap.size 3 1 v1 (0 + l.length) (cellsI l) := hown1
      rw [Nat.zero_add] at hown
      exact ⟨_, rfl, hown, ((Below.refl _ w).alloc (Nat.le_refl _) _).grown hgrow1 (by simp) (fun j ej => by cases ej; exact Nat.le_refl _)⟩
theorem row14F (l : List Int) (v : Value) (w : World) (hr : RowI w v l) :
    Calls Tryd.prog 9 #[v] w fun e w' => ∃ v', e = .returned v' ∧ RowI w' v' (l.take 30) ∧ Below w.heap.size w w' :=
  (row14S l v w hr).mono fun _ _ ⟨v', h1, h2, h3⟩ => ⟨v', h1, RowI.of_owns h2, h3⟩
/-- What stands between wakes' calls. -/
structure W1 (w : World) (gp : Nat) (wv fv rv : Value) (V : World) : Prop where
  pv : PbV V wk1 wv fv rv
  pb : PbB V gp wk1 wv fv rv
  be : Below w.heap.size w V
theorem W1.over {w : World} {gp : Nat} {wv fv rv : Value} {V V' : World} (h : W1 w gp wv fv rv V) (hb : Below V.heap.size V V') : W1 w gp wv fv rv V' :=
  ⟨h.pv.below hb, h.pb.below hb, h.be.trans (hb.mono h.be.size)⟩
set_option maxRecDepth 100000 in
set_option maxHeartbeats 4000000 in
theorem wakes14 (w : World) : Calls Tryd.prog 7 #[] w fun e w' => e = .returned (.bool true) ∧ Below w.heap.size w w' := by
  obtain ⟨W, hW, hP, hB, hbW⟩ := wk1_mem w
  have hW' := hide' hW
  have hS : Hid (W1 w (w.heap.size + 1 + 1) (.slice (some ⟨w.heap.size, 0, none⟩) 1 1) (.slice (some ⟨w.heap.size + 1, 0, none⟩) 1 1) (.slice none 0 0) W) := ⟨hP, hB, hbW⟩
  have KW : Hid (∀ V lv, W1 w (w.heap.size + 1 + 1) (.slice (some ⟨w.heap.size, 0, none⟩) 1 1) (.slice (some ⟨w.heap.size + 1, 0, none⟩) 1 1) (.slice none 0 0) V → RowI V lv [0] → Calls Tryd.prog 12 #[.agg #[.int .i64 1, .slice (some ⟨w.heap.size, 0, none⟩) 1 1, .slice (some ⟨w.heap.size + 1, 0, none⟩) 1 1, .slice none 0 0], lv] V fun e w' => ∃ oa cap, e = .returned (.tuple #[.slice oa 15 cap, .int .i64 0]) ∧ Hid (RowB w' (.slice oa 15 cap) (wrL wk1 [0])) ∧ Hid (Below V.heap.size V w')) := fun V lv hV hl => by
    refine (writeF wk1 _ _ _ [0] lv V hV.pv hl (by decide) wk1_ok).mono ?_
    rintro e w' ⟨v, rfl, hO, hb⟩
    have hr := RowB.of_owns hO.out
    obtain ⟨oa, cap, e1, _⟩ := id hr
    rw [wk1_wr]
    subst e1
    rw [show (wrL wk1 [0]).length = 15 by rw [wk1_cert]; rfl] at hr ⊢
    exact ⟨oa, cap, rfl, hr, hb⟩
  have KF : Hid (∀ V lv, W1 w (w.heap.size + 1 + 1) (.slice (some ⟨w.heap.size, 0, none⟩) 1 1) (.slice (some ⟨w.heap.size + 1, 0, none⟩) 1 1) (.slice none 0 0) V → RowI V lv [1] → Calls Tryd.prog 8 #[.agg #[.int .i64 1, .slice (some ⟨w.heap.size, 0, none⟩) 1 1, .slice (some ⟨w.heap.size + 1, 0, none⟩) 1 1, .slice none 0 0], lv] V fun e w' => ∃ g o cap, e = .returned (.tuple #[.slice (some ⟨g, o, none⟩) 1 cap, .int .i64 0]) ∧ w'.cell? ⟨g, o, none⟩ = some (.int .i64 2) ∧ Hid (Below V.heap.size V w')) := fun V lv hV hl => by
    refine (flawsPF wk1 _ _ _ [1] lv V hV.pv hl (by decide) wk1_ok).mono ?_
    rintro e w' ⟨v, rfl, hO, hb⟩
    rw [wk1_chk]
    rw [wk1_fl] at hO
    obtain ⟨oa, cap, e1, hc⟩ := RowFl.of_owns hO.out
    obtain ⟨g, o, rfl, h1, _⟩ := hc 0 _ rfl
    subst e1
    exact ⟨g, o, cap, rfl, by simpa using h1, hb⟩
  clear hP hB hbW hW
  go_enter Tryd.func7, Tryd.ntmps7
  go_upto_region 2 with fail
  rw [← hW'.out]
  clear hW'
  have q0 := hS.out.pb.c0
  have q1 := hS.out.pb.c1
  have q2 := hS.out.pb.c2
  have q3 := hS.out.pb.c3
  unfold wk1 at q0
  have hS2 := hide' (hS.out.over ((Below.refl _ W).alloc (Nat.le_refl _) (.cells #[.int .i64 0] 3)))
  have hr2 := hide' (row_one W 0)
  go_wp2_with fail
  refine (KW.out _ _ hS2.out hr2.out).mono ?_
  rintro e w3 ⟨o3, c3, rfl, hR3, hb3⟩
  have hS3 := hide' (hS2.out.over hb3.out)
  clear hS2 hr2 hS q0 q1 q2 q3 KW hb3
  have q0 := hS3.out.pb.c0
  have q1 := hS3.out.pb.c1
  have q2 := hS3.out.pb.c2
  have q3 := hS3.out.pb.c3
  unfold wk1 at q0
  have hS4 := hide' (hS3.out.over ((Below.refl _ w3).alloc (Nat.le_refl _) (.cells #[.int .i64 1] 3)))
  have hR4 := hide' (hR3.out.below ((Below.refl _ w3).alloc (Nat.le_refl _) (.cells #[.int .i64 1] 3)) (Nat.le_refl _))
  have hr4 := hide' (row_one w3 1)
  go_wp2_with fail
  refine (KF.out _ _ hS4.out hr4.out).mono ?_
  rintro e w5 ⟨g5, o5, c5, rfl, hc5, hb5⟩
  have hS5 := hide' (hS4.out.over hb5.out)
  have hcv := conv_bytes (hR4.out.below hb5.out (Nat.le_refl _))
  rw [wk1_str] at hcv
  clear hS4 hS3 hR3 hR4 hr4 q0 q1 q2 q3 KF hb5
  go_wp2
  go_ret
  exact ⟨rfl, hS5.out.be⟩
end Go.Proofs.YtgmjmliemjgioaaDoor.S
namespace Go.Proofs.YtgmjmliemjgioaaDoor.S
open Go.RowKit Go.Shelf
/-- The number that bytes are. -/
def valB (l : List Nat) : Nat := l.foldl (fun n b => 256 * n + b) 0
theorem valB_snoc (l : List Nat) (b : Nat) : valB (l ++ [b]) = 256 * valB l + b := by simp [valB]
theorem valB_lt (l : List Nat) (h : ∀ b ∈ l, b < 256) : valB l < 256 ^ l.length := by
  have key : ∀ n, ∀ l : List Nat, l.length = n → (∀ b ∈ l, b < 256) → valB l < 256 ^ n := by
    intro n
    induction n with
    | zero => intro l hl _; rw [List.eq_nil_of_length_eq_zero hl]; decide
    | succ n ih =>
      intro l hl hb
      have hne : l ≠ [] := fun e => by rw [e] at hl; cases hl
      have e : l = l.dropLast ++ [l.getLast hne] := (List.dropLast_concat_getLast hne).symm
      have h1 := ih l.dropLast (by rw [List.length_dropLast]; omega) (fun b hb' => hb b ((List.dropLast_sublist l).subset hb'))
      have h2 := hb (l.getLast hne) (List.getLast_mem hne)
      rw [e, valB_snoc, Nat.pow_succ]
      omega
  exact key _ l rfl h
/-- What is left to read, and whether anything was wrong. -/
abbrev RdS := List Nat × Bool
/-- The next number, and what is left behind it. -/
def tkN (wd : Nat) (s : RdS) : Nat := if s.1.length < wd then 0 else valB (s.1.take wd)
def tkS (wd : Nat) (s : RdS) : RdS := if s.1.length < wd then ([], true) else (s.1.drop wd, s.2)
theorem tkN_lt {wd : Nat} {s : RdS} (h : ∀ b ∈ s.1, b < 256) : tkN wd s < 256 ^ wd := by
  unfold tkN
  split
  · exact Nat.pow_pos (by decide)
  · rename_i hl
    have := valB_lt (s.1.take wd) (fun b hb => h b (List.mem_of_mem_take hb))
    rwa [List.length_take, Nat.min_eq_left (by omega)] at this
theorem tkS_mem {wd : Nat} {s : RdS} (h : ∀ b ∈ s.1, b < 256) : ∀ b ∈ (tkS wd s).1, b < 256 := by
  unfold tkS
  split
  · intro b hb; cases hb
  · exact fun b hb => h b (List.mem_of_mem_drop hb)
theorem tkS_len (wd : Nat) (s : RdS) : (tkS wd s).1.length ≤ s.1.length := by
  unfold tkS
  split
  · exact Nat.zero_le _
  · simp
/-- A frame but for one block. -/
structure FrG (g : Nat) (W W' : World) : Prop where
  os : W'.os = W.os
  tape : W'.tape = W.tape
  output : W'.output = W.output
  size : W.heap.size ≤ W'.heap.size
  block : ∀ k, k < W.heap.size → k ≠ g → W'.heap[k]? = W.heap[k]?
theorem FrG.refl (g : Nat) (W : World) : FrG g W W := ⟨rfl, rfl, rfl, Nat.le_refl _, fun _ _ _ => rfl⟩
theorem FrG.trans {g : Nat} {W W' W2 : World} (h : FrG g W W') (k : FrG g W' W2) : FrG g W W2 :=
  ⟨k.os.trans h.os, k.tape.trans h.tape, k.output.trans h.output, Nat.le_trans h.size k.size, fun x hx h1 => (k.block x (Nat.lt_of_lt_of_le hx h.size) h1).trans (h.block x hx h1)⟩
theorem FrG.below {g : Nat} {W W' : World} (h : Below W.heap.size W W') : FrG g W W' := ⟨h.os, h.tape, h.output, h.size, fun k hk _ => h.block k hk⟩
theorem FrG.set (W : World) (g o : Nat) (v : Value) : FrG g W (W.setCell ⟨g, o, none⟩ v) := ⟨rfl, rfl, rfl, by simp [World.setCell], fun k _ h1 => Below.heap_setCell _ _ _ _ h1⟩
theorem FrG.new {g n : Nat} {W W' W0 : World} (h : FrG g W W') (hw : Below n W0 W) (hg : n ≤ g) (hn : n ≤ W.heap.size) : Below n W0 W' :=
  ⟨h.os.trans hw.os, h.tape.trans hw.tape, h.output.trans hw.output, Nat.le_trans hw.size h.size, fun k hk => (h.block k (by omega) (by omega)).trans (hw.block k hk)⟩
/-- The reader as it lies. -/
def rdF (v : Value) (b : Bool) : Nat → Value := fun i => if i = 0 then v else .bool b
structure Rd (B : Nat) (W : World) (gr : Nat) (v : Value) (s : RdS) : Prop where
  at_ : W.rowIs gr 65 2 (rdF v s.2)
  row : RowB W v s.1
  byte : ∀ b ∈ s.1, b < 256
  room : ∀ (oa : Option Addr) (n c : Nat), v = .slice oa n c → n ≤ c
  low : ∀ (ad : Addr) (n c : Nat), v = .slice (some ad) n c → ad.block < B
  lowr : gr < B
theorem Rd.c0 {B : Nat} {W : World} {gr : Nat} {v : Value} {s : RdS} (h : Rd B W gr v s) : W.cell? ⟨gr, 0, none⟩ = some v := World.rowIs.cell h.at_ (i := 0) (by decide)
theorem Rd.c1 {B : Nat} {W : World} {gr : Nat} {v : Value} {s : RdS} (h : Rd B W gr v s) : W.cell? ⟨gr, 1, none⟩ = some (.bool s.2) := World.rowIs.cell h.at_ (i := 1) (by decide)
theorem Rd.fz {B : Nat} {W : World} {gr : Nat} {v : Value} {s : RdS} (h : Rd B W gr v s) (i : Nat) : W.frozen? ⟨gr, i, none⟩ = false := World.rowIs.frozen h.at_ i
theorem Rd.lt {B : Nat} {W : World} {gr : Nat} {v : Value} {s : RdS} (h : Rd B W gr v s) : gr < W.heap.size := World.rowIs.lt h.at_
theorem Rd.shp {B : Nat} {W : World} {gr : Nat} {v : Value} {s : RdS} (h : Rd B W gr v s) : ∃ oa cap, v = .slice oa s.1.length cap := by obtain ⟨oa, cap, e, _⟩ := h.row; exact ⟨oa, cap, e⟩
/-- The reader's block is no block of bytes. -/
theorem rd_kind {W : World} {gr : Nat} {v : Value} {b : Bool} (h : W.rowIs gr 65 2 (rdF v b)) (hv : ∃ oa n cap, v = .slice oa n cap) {o : Nat} {k : IntKind} {x : Int} : W.cell? ⟨gr, o, none⟩ ≠ some (.int k x) := by
  obtain ⟨oa, n, cap, rfl⟩ := hv
  intro e
  obtain ⟨c, hc, hs, hf⟩ := h
  have e2 := e
  simp only [World.cell?, hc] at e2
  have ho : o < c.size := by
    rcases Nat.lt_or_ge o c.size with q | q
    · exact q
    · simp [Array.getElem?_eq_none q] at e2
  have ho2 : o < 2 := by omega
  have h2 := hf o ho2
  have h3 : c[o]? = some (.int k x) := by simpa using e2
  rw [h3] at h2
  injection h2 with h2
  unfold rdF at h2
  split at h2 <;> cases h2
theorem RowB.frg {W W' : World} {gr : Nat} {v : Value} {L : List Nat} (h : RowB W v L) (hf : FrG gr W W') (hk : ∀ (o : Nat) (x : Int), W.cell? ⟨gr, o, none⟩ ≠ some (.int .u8 x)) : RowB W' v L := by
  obtain ⟨oa, cap, e, hc⟩ := h
  refine ⟨oa, cap, e, fun i z hz => ?_⟩
  obtain ⟨g, o, e1, e2⟩ := hc i z hz
  refine ⟨g, o, e1, ?_⟩
  have hne : g ≠ gr := fun q => by rw [q] at e2; exact hk _ _ e2
  have hb := hf.block g (cell_lt e2) hne
  simp only [World.cell?] at e2 ⊢
  rw [hb]; exact e2
theorem RowB.drop {W : World} {oa : Option Addr} {cap : Nat} {L : List Nat} (h : RowB W (.slice oa L.length cap) L) (k : Nat) (_ : k ≤ L.length) (g o : Nat) (ho : oa = some ⟨g, o, none⟩) : RowB W (.slice (some ⟨g, o + k, none⟩) (L.length - k) (cap - k)) (L.drop k) := by
  obtain ⟨oa', cap', e, hc⟩ := h
  injection e with e1 e2 e3
  subst e1
  refine ⟨_, _, by rw [List.length_drop], fun i z hz => ⟨_, _, rfl, ?_⟩⟩
  rw [List.getElem?_drop] at hz
  obtain ⟨g', o', e', hcell⟩ := hc (k + i) z hz
  rw [ho] at e'
  cases e'
  rw [Nat.add_assoc]
  exact hcell
theorem or_byte {n b : Nat} (h : b < 256) (hn : n < 72057594037927936) : bits .or .u64 ((n : Int) * 256) (b : Int) = ((256 * n + b : Nat) : Int) := by
  rw [show (n : Int) * 256 = ((256 * n : Nat) : Int) by omega, u64_or_nat (256 * n) b (by omega) (by omega), show 256 * n ||| b = 2 ^ 8 * n ||| b from rfl, ← Nat.two_pow_add_eq_or_of_lt (i := 8) h n]
theorem Rd.over {B : Nat} {W W' : World} {gr : Nat} {v : Value} {s : RdS} (h : Rd B W gr v s) (hb : Below B W W') : Rd B W' gr v s := by
  refine ⟨World.rowIs.of_block h.at_ (hb.block gr h.lowr), ?_, h.byte, h.room, h.low, h.lowr⟩
  obtain ⟨oa, cap, e, hc⟩ := h.row
  refine ⟨oa, cap, e, fun i z hz => ?_⟩
  obtain ⟨g, o, e1, e2⟩ := hc i z hz
  refine ⟨g, o, e1, ?_⟩
  have hl := h.low ⟨g, o, none⟩ _ _ (by rw [e, e1])
  have hb2 := hb.block g hl
  simp only [World.cell?] at e2 ⊢
  rw [hb2]; exact e2
/-- Steps, one behind the other. -/
def rsS : Nat → RdS → RdS
  | 0, s => s
  | n + 1, s => tkS 1 (rsS n s)
def rsL : Nat → RdS → List Int
  | 0, _ => []
  | n + 1, s => rsL n s ++ [(tkN 1 (rsS n s) : Int)]
theorem rsL_len (n : Nat) (s : RdS) : (rsL n s).length = n := by
  induction n with
  | zero => rfl
  | succ n ih => simp [rsL, ih]
theorem rsS_len (n : Nat) (s : RdS) : (rsS n s).1.length ≤ s.1.length := by
  induction n with
  | zero => exact Nat.le_refl _
  | succ n ih => exact Nat.le_trans (tkS_len 1 _) ih
/-- A rule. -/
def rdR (s : RdS) : Rl := ⟨(tkN 1 s : Int), (tkN 4 (tkS 1 s) : Int), rsL (tkN 1 (tkS 4 (tkS 1 s))) (tkS 1 (tkS 4 (tkS 1 s)))⟩
def rdRS (s : RdS) : RdS := rsS (tkN 1 (tkS 4 (tkS 1 s))) (tkS 1 (tkS 4 (tkS 1 s)))
end Go.Proofs.YtgmjmliemjgioaaDoor.S
namespace Go.Proofs.YtgmjmliemjgioaaDoor.S
open Go.RowKit Go.Shelf
/-- What take leaves. -/
def TkP (B : Nat) (w : World) (gr wd : Nat) (s : RdS) (w' : World) : Prop := ∃ v', Hid (Rd B w' gr v' (tkS wd s)) ∧ Hid (FrG gr w w')
theorem Rd.set0 {B : Nat} {W : World} {gr : Nat} {v : Value} {s : RdS} (h : Rd B W gr v s) (v' : Value) : (W.setCell ⟨gr, 0, none⟩ v').rowIs gr 65 2 (rdF v' s.2) :=
  World.rowIs.congr (World.rowIs.set h.at_ 0 _) fun i hi => by
    match i, hi with
    | 0, _ => rfl
    | 1, _ => rfl
theorem rowIs_set1 {W : World} {gr : Nat} {v : Value} {b : Bool} (h : W.rowIs gr 65 2 (rdF v b)) (b' : Bool) : (W.setCell ⟨gr, 1, none⟩ (.bool b')).rowIs gr 65 2 (rdF v b') :=
  World.rowIs.congr (World.rowIs.set h 1 _) fun i hi => by
    match i, hi with
    | 0, _ => rfl
    | 1, _ => rfl
theorem Rd.short {B : Nat} {W : World} {gr : Nat} {v : Value} {s : RdS} (h : Rd B W gr v s) {wd : Nat} (hl : s.1.length < wd) : TkP B W gr wd s ((W.setCell ⟨gr, 0, none⟩ (.slice none 0 0)).setCell ⟨gr, 1, none⟩ (.bool true)) := by
  refine ⟨.slice none 0 0, ?_, (FrG.set W gr 0 _).trans (FrG.set _ gr 1 _)⟩
  unfold tkS
  rw [if_pos hl]
  exact ⟨rowIs_set1 (h.set0 _) true, ⟨none, 0, rfl, fun i z hz => by cases hz⟩, (fun b hb => by cases hb), (fun oa n c e => by cases e; exact Nat.le_refl _), (fun ad n c e => by cases e), h.lowr⟩
theorem Rd.cut {B : Nat} {W : World} {gr g o cap : Nat} {s : RdS} (h : Rd B W gr (.slice (some ⟨g, o, none⟩) s.1.length cap) s) {wd : Nat} (hl : wd ≤ s.1.length) : TkP B W gr wd s (W.setCell ⟨gr, 0, none⟩ (.slice (some ⟨g, o + wd, none⟩) (s.1.length - wd) (cap - wd))) := by
  have hk := fun (o : Nat) (x : Int) => rd_kind (o := o) (k := .u8) (x := x) h.at_ ⟨_, _, _, rfl⟩
  refine ⟨.slice (some ⟨g, o + wd, none⟩) (s.1.length - wd) (cap - wd), ?_, FrG.set W gr 0 _⟩
  unfold tkS
  rw [if_neg (by omega)]
  exact ⟨h.set0 _, (h.row.drop wd hl g o rfl).frg (FrG.set W gr 0 _) hk, fun b hb => h.byte b (List.mem_of_mem_drop hb), (fun oa n c e => by cases e; have := h.room _ _ _ rfl; omega), (fun ad n c e => by cases e; exact h.low ⟨g, o, none⟩ _ _ rfl), h.lowr⟩
/-- The same where no room is left behind the bytes. -/
theorem Rd.cutE {B : Nat} {W : World} {gr g o cap : Nat} {s : RdS} (h : Rd B W gr (.slice (some ⟨g, o, none⟩) s.1.length cap) s) {wd : Nat} (hl : wd ≤ s.1.length) (hc : cap = wd) : TkP B W gr wd s (W.setCell ⟨gr, 0, none⟩ (.slice (some ⟨g, o, none⟩) (s.1.length - wd) 0)) := by
  have hr := h.room _ _ _ rfl
  have hd : s.1.drop wd = [] := List.drop_eq_nil_of_le (by omega)
  refine ⟨.slice (some ⟨g, o, none⟩) (s.1.length - wd) 0, ?_, FrG.set W gr 0 _⟩
  unfold tkS
  rw [if_neg (by omega)]
  refine ⟨h.set0 _, ⟨_, 0, by rw [hd]; show Value.slice _ _ _ = Value.slice _ 0 _; rw [show s.1.length - wd = 0 by omega], fun i z hz => ?_⟩, fun b hb => h.byte b (List.mem_of_mem_drop hb), (fun oa n c e => by cases e; omega), (fun ad n c e => by cases e; exact h.low ⟨g, o, none⟩ _ _ rfl), h.lowr⟩
  have hz' : (s.1.drop wd)[i]? = some z := hz
  rw [hd] at hz'
  cases hz'
set_option maxRecDepth 100000 in
set_option maxHeartbeats 4000000 in
theorem takeF (B gr wd : Nat) (wi : Int) (hwi : wi = (wd : Int)) (v : Value) (s : RdS) (w : World) (h : Rd B w gr v s) (h0 : 0 < wd) (hw : wd ≤ 8) (_ : s.1.length ≤ 100000) :
    Calls Tryd.prog 42 #[.pointer (some ⟨gr, 0, none⟩), .int .i64 wi] w fun e w' => e = .returned (.int .u64 (tkN wd s : Int)) ∧ TkP B w gr wd s w' := by
  subst hwi
  obtain ⟨oa, cap, rfl⟩ := h.shp
  have c0 := h.c0
  have f0 := h.fz 0
  have f1 := h.fz 1
  have h' := hide' h
  by_cases hl : s.1.length < wd
  · have hl' : (s.1.length : Int) < (wd : Int) := by omega
    have hT := hide' (h.short hl)
    have c1 := h.c1
    have hE : tkN wd s = 0 := by unfold tkN; rw [if_pos hl]
    rw [hE]
    clear h h' hl hE
    generalize s.1.length = n at *
    go_enter Tryd.func42, Tryd.ntmps42
    go_wp2
    go_ret
    exact ⟨rfl, hT.out⟩
  · obtain ⟨g, o, rfl⟩ : ∃ g o, oa = some ⟨g, o, none⟩ := by
      obtain ⟨oa', cap', e, hc⟩ := h.row
      injection e with e1 e2 e3
      subst e1
      obtain ⟨z, hz⟩ : ∃ z, s.1[0]? = some z := ⟨_, List.getElem?_eq_getElem (by omega)⟩
      obtain ⟨g, o, e, _⟩ := hc 0 z hz
      exact ⟨g, o, e⟩
    have hl' : ¬ (s.1.length : Int) < (wd : Int) := by omega
    have hT := hide' (h.cut (wd := wd) (by omega))
    have hTe : Hid (cap = wd → TkP B w gr wd s (w.setCell ⟨gr, 0, none⟩ (.slice (some ⟨g, o, none⟩) (s.1.length - wd) 0))) := fun e => h.cutE (by omega) e
    have hE : Hid (tkN wd s = valB (s.1.take wd)) := by unfold Hid tkN; rw [if_neg hl]
    have hcc : Hid (∀ j, j < wd → ∃ b : Nat, b < 256 ∧ s.1[j]? = some b ∧ w.cell? ⟨g, o + j, none⟩ = some (.int .u8 (b : Int))) := fun j hj => by
      obtain ⟨oa', cap', e, hc⟩ := h.row
      obtain ⟨b, hb⟩ : ∃ z, s.1[j]? = some z := ⟨_, List.getElem?_eq_getElem (by omega)⟩
      obtain ⟨g', o', e', hcell⟩ := hc j b hb
      injection e with e1 e2 e3
      rw [← e1] at e'
      cases e'
      exact ⟨b, h.byte b (List.mem_of_getElem? hb), hb, hcell⟩
    have hvb : Hid (∀ j, j < wd → valB (s.1.take j) < 72057594037927936) := fun j hj => by
      have h1 := valB_lt (s.1.take j) (fun b hb => h.byte b (List.mem_of_mem_take hb))
      have h2 : (256 : Nat) ^ (s.1.take j).length ≤ 256 ^ 7 := Nat.pow_le_pow_right (by decide) (by rw [List.length_take]; omega)
      exact Nat.lt_of_lt_of_le h1 h2
    have hlw : (wd : Int) ≤ (s.1.length : Int) := by omega
    have hlc : (s.1.length : Int) ≤ (cap : Int) := by have := h.room _ _ _ rfl; omega
    have hlc2 : s.1.length ≤ cap := h.room _ _ _ rfl
    have hlc3 : wd ≤ s.1.length := by omega
    clear h h' hl
    generalize hsn : s.1.length = n at *
    clear hsn
    go_enter Tryd.func42, Tryd.ntmps42
    go_wp2
    go_loopw [5, 6, 21] (fun q _ p wr => ∃ j : Nat, j ≤ wd ∧ p = .int .i64 (j : Int) ∧ q = .int .u64 (valB (s.1.take j) : Int) ∧ wr = w) (fun _ _ p _ => ((wd : Int) - intOf p).toNat)
    case atStart => exact ⟨0, Nat.zero_le _, rfl, rfl, rfl⟩
    case round =>
      obtain ⟨j, hj, rfl, rfl, rfl⟩ := hrel
      by_cases hlt : j < wd
      · have hlt' : (j : Int) < (wd : Int) := by omega
        have hltn : (j : Int) < (n : Int) := by omega
        obtain ⟨b, hb, hbs, hcell⟩ := hcc.out j hlt
        have hv := hvb.out j hlt
        have hor := or_byte hb hv
        have hsn : Hid (valB (s.1.take (j + 1)) = 256 * valB (s.1.take j) + b) := by unfold Hid; rw [List.take_add_one, hbs]; exact valB_snoc _ _
        generalize valB (s.1.take j) = q at *
        clear hbs hcc hvb hE hT hTe
        go_wp2
        exact ⟨⟨j + 1, by omega, by go_num, by rw [hsn.out]; congr 1, (by first | trivial | rfl)⟩, by simp [intOf]; omega⟩
      · obtain rfl : j = wd := by omega
        rw [← hE.out]
        clear hcc hvb
        go_wp2
        all_goals
          go_ret
          first | exact ⟨rfl, hT.out⟩ | exact ⟨rfl, hTe.out (by omega)⟩
set_option maxRecDepth 100000 in
set_option maxHeartbeats 2000000 in
theorem smallF (B gr : Nat) (v : Value) (s : RdS) (w : World) (h : Rd B w gr v s) (hl : s.1.length ≤ 100000) :
    Calls Tryd.prog 43 #[.pointer (some ⟨gr, 0, none⟩)] w fun e w' => e = .returned (.int .i64 (tkN 1 s : Int)) ∧ TkP B w gr 1 s w' := by
  have K := hide' (takeF B gr 1 1 rfl v s w h (by decide) (by decide) hl)
  have hb : tkN 1 s < 256 := tkN_lt h.byte
  generalize tkN 1 s = n at *
  clear h
  go_enter Tryd.func43, Tryd.ntmps43
  go_wp2_with fail
  refine K.out.mono ?_
  rintro e w1 ⟨rfl, hT⟩
  have hT' := hide' hT
  clear hT K
  go_wp2
  go_ret
  exact ⟨rfl, hT'.out⟩
end Go.Proofs.YtgmjmliemjgioaaDoor.S
namespace Go.Proofs.YtgmjmliemjgioaaDoor.S
open Go.RowKit Go.Shelf
/-- An int laid behind a row, in a region whose order is open. -/
theorem app_oneR {o : Oper} {a : Act} {K : Act → World → Prop} {Q : Exit → Act → World → Prop} (s x : Operand) (B : Nat) (W : World) (v : Value) (L : List Int) (z : Int) (ho : o.op = .call { callee := .builtin .append, args := #[s, x], argTypes := #[23, 23] })
    (es : a.eval s = v) (ex : a.eval x = .slice (some ⟨W.heap.size, 0, none⟩) 1 1) (hT : W.ownsRow B 3 1 v L.length (cellsI L)) (hB : B ≤ W.heap.size) (hn : L.length ≤ 1000000)
    (hK : ∀ v2 w2, w2.ownsRow B 3 1 v2 (L ++ [z]).length (cellsI (L ++ [z])) → Below B W w2 → K (a.put o.dst v2) w2) : o.wp Tryd.prog a (W.alloc (.cells #[.int .i64 z] 3)) K Q := by
  obtain ⟨i0, hi, hz0, hz1, hz2⟩ := info_parts info3
  refine wp_append_own _ s x 23 ho B 3 i0 (.int .i64 0) 1 8 Tryd.underlying23 hi hz0 hz1 hz2 rfl (by decide) v L.length (cellsI L) es (hT.alloc _) ⟨W.heap.size, 0, none⟩ 1 1 [.int .i64 z] ex rfl (World.news_of_block (cs := #[.int .i64 z]) (heap_new _ _)) (by simp [Value.oneCell']) (by unfold maxLen; omega) (by omega) (by simp; omega) ?_
  intro v2 w2 hown hgrow _
  refine hK v2 w2 ?_ (((Below.refl B W).alloc hB _).grown hgrow (by simp; omega) (fun j ej => own_ge' hT ej))
  have e : cellsI (L ++ [z]) = cellsI L ++ [.int .i64 z] := by simp [cellsI]
  rw [e, List.length_append]
  exact hown
def ruV (k1 k2 : Int) (u : Value) : Nat → Value := fun i => if i = 0 then .int .i64 k1 else if i = 1 then .int .i64 k2 else u
theorem FrG.low {g n : Nat} {W0 W W' : World} (h : FrG g W0 W) (hb : Below n W W') (hn : W0.heap.size ≤ n) : FrG g W0 W' :=
  ⟨hb.os.trans h.os, hb.tape.trans h.tape, hb.output.trans h.output, Nat.le_trans h.size hb.size, fun k hk hne => (hb.block k (by omega)).trans (h.block k hk hne)⟩
/-- What stands while a rule is read. -/
structure Ru (w : World) (B gr gx : Nat) (k1 k2 : Int) (W : World) (v : Value) (t : RdS) (u sv : Value) (l : List Int) : Prop where
  rd : Rd B W gr v t
  fr : FrG gr w W
  res : W.rowIs w.heap.size 50 3 (ruV 0 0 (.slice none 0 0))
  bx : W.rowIs gx 50 3 (ruV k1 k2 u)
  own : W.ownsRow (gx + 1) 3 1 sv l.length (cellsI l)
  lt : w.heap.size < gx
  gl : B ≤ w.heap.size
section
variable {w : World} {B gr gx : Nat} {k1 k2 : Int} {W W' : World} {v v' : Value} {t t' : RdS} {u sv sv' : Value} {l l' : List Int}
theorem Ru.tk (h : Ru w B gr gx k1 k2 W v t u sv l) (hr : Rd B W' gr v' t') (hf : FrG gr W W') : Ru w B gr gx k1 k2 W' v' t' u sv l := by
  have hgr := h.rd.lowr
  have hgl := h.gl
  have hlt := h.lt
  refine ⟨hr, h.fr.trans hf, World.rowIs.of_block h.res (hf.block _ (World.rowIs.lt h.res) (by omega)), World.rowIs.of_block h.bx (hf.block _ (World.rowIs.lt h.bx) (by omega)), ?_, h.lt, h.gl⟩
  exact own_same h.own fun g hg e => hf.block g hg (by have := own_ge' h.own e; omega)
theorem Ru.sz (h : Ru w B gr gx k1 k2 W v t u sv l) : gx + 1 ≤ W.heap.size := World.rowIs.lt h.bx
theorem Ru.app (h : Ru w B gr gx k1 k2 W v t u sv l) (ho : W'.ownsRow (gx + 1) 3 1 sv' l'.length (cellsI l')) (hb : Below (gx + 1) W W') : Ru w B gr gx k1 k2 W' v t u sv' l' := by
  have hgl := h.gl
  have hlt := h.lt
  exact ⟨h.rd.over (hb.mono (by omega)), h.fr.low hb (by omega), World.rowIs.of_block h.res (hb.block _ (by omega)), World.rowIs.of_block h.bx (hb.block _ (Nat.lt_succ_self _)), ho, h.lt, h.gl⟩
theorem Ru.over (h : Ru w B gr gx k1 k2 W v t u sv l) (hb : Below W.heap.size W W') : Ru w B gr gx k1 k2 W' v t u sv l :=
  h.app (own_lowB h.own hb) (hb.mono h.sz)
theorem Ru.shp (h : Ru w B gr gx k1 k2 W v t u sv l) : ∃ oa n cap, sv = .slice oa n cap := by obtain ⟨a, c, e⟩ := own_shp h.own; exact ⟨a, _, c, e⟩
theorem Ru.b2 (h : Ru w B gr gx k1 k2 W v t u sv l) : W.cell? ⟨gx, 2, none⟩ = some u := World.rowIs.cell h.bx (i := 2) (by decide)
theorem Ru.put (h : Ru w B gr gx k1 k2 W v t u sv l) : Ru w B gr gx k1 k2 (W.setCell ⟨gx, 2, none⟩ sv) v t sv sv l := by
  have hgl := h.gl
  have hlt := h.lt
  have hb : Below gx W (W.setCell ⟨gx, 2, none⟩ sv) := (Below.refl _ W).setCell (p := ⟨gx, 2, none⟩) (Nat.le_refl _) _
  refine ⟨h.rd.over (hb.mono (by omega)), h.fr.low hb (by omega), World.rowIs.of_block h.res (hb.block _ hlt), ?_, ?_, h.lt, h.gl⟩
  · exact World.rowIs.congr (World.rowIs.set h.bx 2 _) fun i hi => by
      match i, hi with
      | 0, _ => rfl
      | 1, _ => rfl
      | 2, _ => rfl
  · exact own_same h.own fun g hg e => Below.heap_setCell _ _ _ _ (by have := own_ge' h.own e; show g ≠ gx; omega)
theorem Ru.fin (h : Ru w B gr gx k1 k2 W v t u sv l) (hBr : B ≤ w.heap.size) (x0 x1 x2 : Value) :
    let W' := ((W.setCell ⟨w.heap.size, 0, none⟩ x0).setCell ⟨w.heap.size, 1, none⟩ x1).setCell ⟨w.heap.size, 2, none⟩ x2
    Rd B W' gr v t ∧ FrG gr w W' ∧ W'.ownsRow w.heap.size 3 1 sv l.length (cellsI l) := by
  intro W'
  have hlt := h.lt
  have hb : Below w.heap.size W W' := (((Below.refl _ W).setCell (p := ⟨w.heap.size, 0, none⟩) (Nat.le_refl _) x0).setCell (p := ⟨w.heap.size, 1, none⟩) (Nat.le_refl _) x1).setCell (p := ⟨w.heap.size, 2, none⟩) (Nat.le_refl _) x2
  refine ⟨h.rd.over (hb.mono hBr), h.fr.low hb (Nat.le_refl _), owns_lowS (B := gx + 1) (own_same h.own fun g hg e => ?_) (by omega)⟩
  have hne : g ≠ w.heap.size := by have := own_ge' h.own e; omega
  show (((W.setCell ⟨w.heap.size, 0, none⟩ x0).setCell ⟨w.heap.size, 1, none⟩ x1).setCell ⟨w.heap.size, 2, none⟩ x2).heap[g]? = _
  rw [Below.heap_setCell _ _ _ _ hne, Below.heap_setCell _ _ _ _ hne, Below.heap_setCell _ _ _ _ hne]
end
/-- What rule leaves. -/
def RlP (B : Nat) (w : World) (gr : Nat) (s : RdS) (e : Ending) (w' : World) : Prop :=
  ∃ sv v', e = .returned (rv (rdR s) sv) ∧ Hid (w'.ownsRow w.heap.size 3 1 sv (rdR s).steps.length (cellsI (rdR s).steps)) ∧ Hid (Rd B w' gr v' (rdRS s)) ∧ Hid (FrG gr w w')
set_option maxRecDepth 100000 in
set_option maxHeartbeats 4000000 in
theorem ruleF (B gr : Nat) (v : Value) (s : RdS) (w : World) (h : Rd B w gr v s) (hB : B ≤ w.heap.size) (hl : s.1.length ≤ 100000) :
    Calls Tryd.prog 44 #[.pointer (some ⟨gr, 0, none⟩)] w (RlP B w gr s) := by
  have hb0 : Below w.heap.size w (w.alloc (.cells #[.int .i64 0, .int .i64 0, .slice none 0 0] 50)) := (Below.refl _ w).alloc (Nat.le_refl _) _
  have h0 := hide' (h.over (hb0.mono hB))
  have hn0 : Hid ((w.alloc (.cells #[.int .i64 0, .int .i64 0, .slice none 0 0] 50)).rowIs w.heap.size 50 3 (ruV 0 0 (.slice none 0 0))) := World.rowIs_alloc w #[.int .i64 0, .int .i64 0, .slice none 0 0] _ _ fun i hi => by
    have hi : i < 3 := hi
    rcases (show i = 0 ∨ i = 1 ∨ i = 2 by omega) with rfl | rfl | rfl <;> rfl
  have hb0' := hide' hb0
  have hgr := hide' h.lowr
  have hl1 := hide' (tkS_len 1 s)
  have hl2 := hide' (tkS_len 4 (tkS 1 s))
  have hl3 := hide' (tkS_len 1 (tkS 4 (tkS 1 s)))
  have hbt : Hid (∀ b ∈ s.1, b < 256) := h.byte
  clear h hb0
  go_enter Tryd.func44, Tryd.ntmps44
  go_wp2_with fail
  refine (smallF B gr v s _ h0.out hl).mono ?_
  rintro e w1 ⟨rfl, v1, hR1, hf1⟩
  clear h0
  go_wp2_with fail
  refine (takeF B gr 4 4 rfl v1 (tkS 1 s) w1 hR1.out (by decide) (by decide) (by have := hl1.out; omega)).mono ?_
  rintro e w2 ⟨rfl, v2, hR2, hf2⟩
  have hk2 : tkN 4 (tkS 1 s) < 4294967296 := tkN_lt (wd := 4) (tkS_mem hbt.out)
  have hk1 : tkN 1 s < 256 := tkN_lt (wd := 1) hbt.out
  have hn : tkN 1 (tkS 4 (tkS 1 s)) < 256 := tkN_lt (wd := 1) (tkS_mem (tkS_mem hbt.out))
  have hFin : Hid (rdR s = ⟨(tkN 1 s : Int), (tkN 4 (tkS 1 s) : Int), rsL (tkN 1 (tkS 4 (tkS 1 s))) (tkS 1 (tkS 4 (tkS 1 s)))⟩) := rfl
  have hFinS : Hid (rdRS s = rsS (tkN 1 (tkS 4 (tkS 1 s))) (tkS 1 (tkS 4 (tkS 1 s)))) := rfl
  have hz1 := hf1.out.size
  have hz2 := hf2.out.size
  have hz0 := hb0'.out.size
  have hn2 : Hid (w2.rowIs w.heap.size 50 3 (ruV 0 0 (.slice none 0 0))) := by
    have e0 := World.rowIs.lt hn0.out
    have hg := hgr.out
    exact World.rowIs.of_block (World.rowIs.of_block hn0.out (hf1.out.block _ e0 (by omega))) (hf2.out.block _ (by omega) (by omega))
  have hlt2 : Hid (w.heap.size < w2.heap.size) := World.rowIs.lt hn2.out
  have hfw : Hid (FrG gr w w2) := (FrG.below hb0'.out).trans (hf1.out.trans hf2.out)
  have hlb2 : (tkS 4 (tkS 1 s)).1.length ≤ 100000 := by have := hl1.out; have := hl2.out; omega
  have hlb3 : Hid (∀ j, (rsS j (tkS 1 (tkS 4 (tkS 1 s)))).1.length ≤ 100000) := fun j => by have := rsS_len j (tkS 1 (tkS 4 (tkS 1 s))); have := hl3.out; omega
  generalize tkN 4 (tkS 1 s) = k2 at *
  generalize tkN 1 s = k1 at *
  generalize tkS 4 (tkS 1 s) = t2 at *
  have hb3 : Hid (Below w2.heap.size w2 (w2.alloc (.cells #[.int .i64 (k1 : Int), .int .i64 (k2 : Int), .slice none 0 0] 50))) := (Below.refl _ w2).alloc (Nat.le_refl _) _
  have hx3 : Hid ((w2.alloc (.cells #[.int .i64 (k1 : Int), .int .i64 (k2 : Int), .slice none 0 0] 50)).rowIs w2.heap.size 50 3 (ruV (k1 : Int) (k2 : Int) (.slice none 0 0))) := World.rowIs_alloc w2 #[.int .i64 (k1 : Int), .int .i64 (k2 : Int), .slice none 0 0] _ _ fun i hi => by
    have hi : i < 3 := hi
    rcases (show i = 0 ∨ i = 1 ∨ i = 2 by omega) with rfl | rfl | rfl <;> rfl
  have hR3 := hide' (hR2.out.over (hb3.out.mono (by omega)))
  clear hR1 hR2 hf1 hf2 hn0 hb0' hl1 hl2 hl3 hbt
  go_wp2_with fail
  refine (smallF B gr v2 t2 _ hR3.out hlb2).mono ?_
  rintro e w4 ⟨rfl, v4, hR4, hf4⟩
  have hU : Hid (Ru w B gr w2.heap.size (k1 : Int) (k2 : Int) w4 v4 (rsS 0 (tkS 1 t2)) (.slice none 0 0) (.slice none 0 0) (rsL 0 (tkS 1 t2))) := by
    have hg := hgr.out
    have e1 := hlt2.out
    refine ⟨hR4.out, (hfw.out.low hb3.out (by omega)).trans hf4.out, World.rowIs.of_block (World.rowIs.of_block hn2.out (hb3.out.block _ hlt2.out)) (hf4.out.block _ (by have := hb3.out.size; omega) (by omega)), World.rowIs.of_block hx3.out (hf4.out.block _ (World.rowIs.lt hx3.out) (by omega)), World.ownsRow_nil _ _ _ _, hlt2.out, hB⟩
  generalize w2.heap.size = gx at *
  clear hR3 hR4 hf4 hb3 hx3 hfw hn2 hlt2 hgr hz1 hz2 hz0
  generalize tkN 1 t2 = n at *
  generalize tkS 1 t2 = t3 at *
  go_wp2
  go_loopw [12] (fun p wr => ∃ (j : Nat) (v : Value) (sv : Value), j ≤ n ∧ p = .int .i64 (j : Int) ∧ Hid (Ru w B gr gx (k1 : Int) (k2 : Int) wr v (rsS j t3) sv sv (rsL j t3))) (fun p _ => ((n : Int) - intOf p).toNat)
  case atStart => exact ⟨0, v4, _, Nat.zero_le _, rfl, hU⟩
  case round =>
    clear hU
    obtain ⟨j, v, sv, hj, rfl, hU⟩ := hrel
    by_cases hlt : j < n
    · as_aux_lemma =>
      have hlt' : (j : Int) < (n : Int) := by omega
      have c2 : wr.cell? ⟨gx, 2, none⟩ = some sv := World.rowIs.cell hU.out.bx (i := 2) (by decide)
      obtain ⟨os, ns, cs, rfl⟩ : ∃ a b c, sv = .slice a b c := by obtain ⟨a, c, e⟩ := own_shp hU.out.own; exact ⟨a, _, c, e⟩
      have hlj := hlb3.out j
      have hE : Hid (rsL (j + 1) t3 = rsL j t3 ++ [(tkN 1 (rsS j t3) : Int)]) := rfl
      have hE2 : Hid (rsS (j + 1) t3 = tkS 1 (rsS j t3)) := rfl
      have hlL : (rsL j t3).length ≤ 1000000 := by rw [rsL_len]; omega
      have hUd := hide' (hU.out.over (Below.refl _ wr).drew)
      generalize rsL j t3 = lj at *
      generalize rsS j t3 = tj at *
      clear hlb3 hFin hFinS hU c2
      have KS : Hid (Calls Tryd.prog 43 #[.pointer (some ⟨gr, 0, none⟩)] wr.drew fun e w' => e = .returned (.int .i64 (tkN 1 tj : Int)) ∧ ∃ v', Hid (Ru w B gr gx (k1 : Int) (k2 : Int) w' v' (tkS 1 tj) (.slice os ns cs) (.slice os ns cs) lj)) := (smallF B gr v tj wr.drew hUd.out.rd hlj).mono fun e w' ⟨h1, v', h2, h3⟩ => ⟨h1, v', hUd.out.tk h2.out h3.out⟩
      generalize tkN 1 tj = z at *
      have c2d := hUd.out.b2
      go_wp2
      refine wp_region_held_drew (S := (fun _ => True)) (by kernel_rfl) ?_ (fun hHeld => ?_)
      · trivial
      refine wpAnyH_take (i := 0) (oi := { dst := some 14, op := Op.fieldAddr 50 (Operand.tmp 3) 2, type := 0, pos := "certificate.go:73", after := #[], guard := none }) (v := ?_) rfl (by kernel_rfl) (by kernel_rfl) (by kernel_rfl) (fun _ _ _ h => h) (Or.inl ⟨by rfl, ?_⟩) (by assumption) ?_
      rotate_left
      · intro w hSw; (try dsimp only at hSw); go_simp <;> with_reducible rfl
      simp only [Act.put, List.setIfInBounds_toArray, List.set_cons_zero, List.set_cons_succ]
      refine wpAnyH_take (i := 2) (oi := { dst := some 16, op := Op.move (Operand.tmp 0), type := 91, pos := "certificate.go:73", after := #[], guard := none }) (v := ?_) rfl (by kernel_rfl) (by kernel_rfl) (by kernel_rfl) (fun _ _ _ h => h) (Or.inl ⟨by rfl, ?_⟩) (by assumption) ?_
      rotate_left
      · intro w hSw; (try dsimp only at hSw); go_simp <;> with_reducible rfl
      simp only [Act.put, List.setIfInBounds_toArray, List.set_cons_zero, List.set_cons_succ]
      refine wpAnyH_ready (rs := [1, 3]) (by kernel_rfl) (by simp) ?_
      refine AllReadyH.cons (o := { dst := some 15, op := Op.load 23 (Operand.tmp 14), type := 23, pos := "certificate.go:73", after := #[{ on := 0, ground := Ground.data }], guard := none }) rfl (fun K hK => ?_) ?_
      · skip
        go_simp
        refine hK.out _ _ ?_ (fun hHeld => ?_)
        · trivial
        clear hK K
        try simp only [Act.put, List.setIfInBounds_toArray, List.set_cons_zero, List.set_cons_succ]
        refine wpAnyH_ready (rs := [3]) (by kernel_rfl) (by simp) ?_
        refine AllReadyH.cons (o := { dst := some 17, op := Op.call { callee := Callee.value (Operand.func 43), args := #[Operand.tmp 16], argTypes := #[91] }, type := 3, pos := "certificate.go:73", after := #[{ on := 2, ground := Ground.data }], guard := none }) rfl (fun K hK => ?_) AllReadyH.nil
        go_simp
        refine KS.out.mono ?_; rintro e w5 ⟨rfl, v5, hU5⟩; have hs5 := hU5.out.sz; have c25 := hU5.out.b2; have c26 := (hU5.out.over ((Below.refl _ w5).alloc (Nat.le_refl _) (.cells #[.int .i64 (z : Int)] 3))).b2; (try dsimp only)
        refine hK.out _ _ ?_ (fun hHeld => ?_)
        · trivial
        clear hK K
        try simp only [Act.put, List.setIfInBounds_toArray, List.set_cons_zero, List.set_cons_succ]
        refine wpAnyH_ready (rs := [4]) (by kernel_rfl) (by simp) ?_
        refine AllReadyH.cons (o := { dst := some 18, op := Op.buildSlice 23 1 #[(0, Operand.tmp 17)], type := 23, pos := "certificate.go:73", after := #[{ on := 3, ground := Ground.data }], guard := none }) rfl (fun K hK => ?_) AllReadyH.nil
        go_simp
        refine hK.out _ _ ?_ (fun hHeld => ?_)
        · trivial
        clear hK K
        try simp only [Act.put, List.setIfInBounds_toArray, List.set_cons_zero, List.set_cons_succ]
        refine wpAnyH_ready (rs := [5]) (by kernel_rfl) (by simp) ?_
        refine AllReadyH.cons (o := { dst := some 19, op := Op.call { callee := Callee.builtin Builtin.append, args := #[Operand.tmp 15, Operand.tmp 18], argTypes := #[23, 23] }, type := 23, pos := "certificate.go:73", after := #[{ on := 1, ground := Ground.data }, { on := 4, ground := Ground.data }, { on := 3, ground := Ground.chain }], guard := none }) rfl (fun K hK => ?_) AllReadyH.nil
        rw [if_pos (by rfl)]
        refine app_oneR (.tmp 15) (.tmp 18) (gx + 1) w5 (.slice os ns cs) lj (z : Int) rfl rfl rfl hU5.out.own hs5 hlL ?_; intro v6 w6 hO6 hb6; have hU6 := hide' (hU5.out.app hO6 hb6); clear hO6 hb6; obtain ⟨o6, n6, c6, rfl⟩ := hU6.out.shp; have f6 := World.rowIs.frozen hU6.out.bx 2; have d6 := hU6.out.b2; (try dsimp only)
        refine hK.out _ _ ?_ (fun hHeld => ?_)
        · trivial
        clear hK K
        try simp only [Act.put, List.setIfInBounds_toArray, List.set_cons_zero, List.set_cons_succ]
        refine wpAnyH_take (i := 6) (oi := { dst := some 20, op := Op.fieldAddr 50 (Operand.tmp 3) 2, type := 0, pos := "certificate.go:73", after := #[{ on := 0, ground := Ground.phase }, { on := 1, ground := Ground.phase }, { on := 2, ground := Ground.phase }, { on := 3, ground := Ground.phase }, { on := 4, ground := Ground.phase }, { on := 5, ground := Ground.phase }], guard := none }) (v := ?_) rfl (by kernel_rfl) (by kernel_rfl) (by kernel_rfl) (fun _ _ _ h => h) (Or.inl ⟨by rfl, ?_⟩) (by assumption) ?_
        rotate_left
        · intro w hSw; (try dsimp only at hSw); go_simp <;> with_reducible rfl
        simp only [Act.put, List.setIfInBounds_toArray, List.set_cons_zero, List.set_cons_succ]
        refine wpAnyH_ready (rs := [7]) (by kernel_rfl) (by simp) ?_
        refine AllReadyH.cons (o := { dst := none, op := Op.store 23 (Operand.tmp 20) (Operand.tmp 19), type := 0, pos := "certificate.go:73", after := #[{ on := 6, ground := Ground.data }, { on := 5, ground := Ground.data }, { on := 5, ground := Ground.chain }, { on := 0, ground := Ground.phase }, { on := 1, ground := Ground.phase }, { on := 2, ground := Ground.phase }, { on := 3, ground := Ground.phase }, { on := 4, ground := Ground.phase }, { on := 5, ground := Ground.phase }], guard := none }) rfl (fun K hK => ?_) AllReadyH.nil
        go_simp
        refine hK.out _ _ ?_ (fun hHeld => ?_)
        · trivial
        clear hK K
        try simp only [Act.put, List.setIfInBounds_toArray, List.set_cons_zero, List.set_cons_succ]
        refine wpAnyH_done (by kernel_rfl) ?_ _
        skip
        have hU7 := hide' hU6.out.put
        clear hU6 f6 d6 hU5 c25 c26 c2d
        go_wp2
        exact ⟨⟨j + 1, v5, .slice o6 n6 c6, by omega, by go_num, by rw [hE.out, hE2.out]; exact hU7⟩, by simp [intOf]; omega⟩
      refine AllReadyH.cons (o := { dst := some 17, op := Op.call { callee := Callee.value (Operand.func 43), args := #[Operand.tmp 16], argTypes := #[91] }, type := 3, pos := "certificate.go:73", after := #[{ on := 2, ground := Ground.data }], guard := none }) rfl (fun K hK => ?_) AllReadyH.nil
      go_simp
      refine KS.out.mono ?_; rintro e w5 ⟨rfl, v5, hU5⟩; have hs5 := hU5.out.sz; have c25 := hU5.out.b2; have c26 := (hU5.out.over ((Below.refl _ w5).alloc (Nat.le_refl _) (.cells #[.int .i64 (z : Int)] 3))).b2; (try dsimp only)
      refine hK.out _ _ ?_ (fun hHeld => ?_)
      · trivial
      clear hK K
      try simp only [Act.put, List.setIfInBounds_toArray, List.set_cons_zero, List.set_cons_succ]
      refine wpAnyH_ready (rs := [1, 4]) (by kernel_rfl) (by simp) ?_
      refine AllReadyH.cons (o := { dst := some 15, op := Op.load 23 (Operand.tmp 14), type := 23, pos := "certificate.go:73", after := #[{ on := 0, ground := Ground.data }], guard := none }) rfl (fun K hK => ?_) ?_
      · skip
        go_simp
        refine hK.out _ _ ?_ (fun hHeld => ?_)
        · trivial
        clear hK K
        try simp only [Act.put, List.setIfInBounds_toArray, List.set_cons_zero, List.set_cons_succ]
        refine wpAnyH_ready (rs := [4]) (by kernel_rfl) (by simp) ?_
        refine AllReadyH.cons (o := { dst := some 18, op := Op.buildSlice 23 1 #[(0, Operand.tmp 17)], type := 23, pos := "certificate.go:73", after := #[{ on := 3, ground := Ground.data }], guard := none }) rfl (fun K hK => ?_) AllReadyH.nil
        go_simp
        refine hK.out _ _ ?_ (fun hHeld => ?_)
        · trivial
        clear hK K
        try simp only [Act.put, List.setIfInBounds_toArray, List.set_cons_zero, List.set_cons_succ]
        refine wpAnyH_ready (rs := [5]) (by kernel_rfl) (by simp) ?_
        refine AllReadyH.cons (o := { dst := some 19, op := Op.call { callee := Callee.builtin Builtin.append, args := #[Operand.tmp 15, Operand.tmp 18], argTypes := #[23, 23] }, type := 23, pos := "certificate.go:73", after := #[{ on := 1, ground := Ground.data }, { on := 4, ground := Ground.data }, { on := 3, ground := Ground.chain }], guard := none }) rfl (fun K hK => ?_) AllReadyH.nil
        rw [if_pos (by rfl)]
        refine app_oneR (.tmp 15) (.tmp 18) (gx + 1) w5 (.slice os ns cs) lj (z : Int) rfl rfl rfl hU5.out.own hs5 hlL ?_; intro v6 w6 hO6 hb6; have hU6 := hide' (hU5.out.app hO6 hb6); clear hO6 hb6; obtain ⟨o6, n6, c6, rfl⟩ := hU6.out.shp; have f6 := World.rowIs.frozen hU6.out.bx 2; have d6 := hU6.out.b2; (try dsimp only)
        refine hK.out _ _ ?_ (fun hHeld => ?_)
        · trivial
        clear hK K
        try simp only [Act.put, List.setIfInBounds_toArray, List.set_cons_zero, List.set_cons_succ]
        refine wpAnyH_take (i := 6) (oi := { dst := some 20, op := Op.fieldAddr 50 (Operand.tmp 3) 2, type := 0, pos := "certificate.go:73", after := #[{ on := 0, ground := Ground.phase }, { on := 1, ground := Ground.phase }, { on := 2, ground := Ground.phase }, { on := 3, ground := Ground.phase }, { on := 4, ground := Ground.phase }, { on := 5, ground := Ground.phase }], guard := none }) (v := ?_) rfl (by kernel_rfl) (by kernel_rfl) (by kernel_rfl) (fun _ _ _ h => h) (Or.inl ⟨by rfl, ?_⟩) (by assumption) ?_
        rotate_left
        · intro w hSw; (try dsimp only at hSw); go_simp <;> with_reducible rfl
        simp only [Act.put, List.setIfInBounds_toArray, List.set_cons_zero, List.set_cons_succ]
        refine wpAnyH_ready (rs := [7]) (by kernel_rfl) (by simp) ?_
        refine AllReadyH.cons (o := { dst := none, op := Op.store 23 (Operand.tmp 20) (Operand.tmp 19), type := 0, pos := "certificate.go:73", after := #[{ on := 6, ground := Ground.data }, { on := 5, ground := Ground.data }, { on := 5, ground := Ground.chain }, { on := 0, ground := Ground.phase }, { on := 1, ground := Ground.phase }, { on := 2, ground := Ground.phase }, { on := 3, ground := Ground.phase }, { on := 4, ground := Ground.phase }, { on := 5, ground := Ground.phase }], guard := none }) rfl (fun K hK => ?_) AllReadyH.nil
        go_simp
        refine hK.out _ _ ?_ (fun hHeld => ?_)
        · trivial
        clear hK K
        try simp only [Act.put, List.setIfInBounds_toArray, List.set_cons_zero, List.set_cons_succ]
        refine wpAnyH_done (by kernel_rfl) ?_ _
        skip
        have hU7 := hide' hU6.out.put
        clear hU6 f6 d6 hU5 c25 c26 c2d
        go_wp2
        exact ⟨⟨j + 1, v5, .slice o6 n6 c6, by omega, by go_num, by rw [hE.out, hE2.out]; exact hU7⟩, by simp [intOf]; omega⟩
      refine AllReadyH.cons (o := { dst := some 18, op := Op.buildSlice 23 1 #[(0, Operand.tmp 17)], type := 23, pos := "certificate.go:73", after := #[{ on := 3, ground := Ground.data }], guard := none }) rfl (fun K hK => ?_) AllReadyH.nil
      go_simp
      refine hK.out _ _ ?_ (fun hHeld => ?_)
      · trivial
      clear hK K
      try simp only [Act.put, List.setIfInBounds_toArray, List.set_cons_zero, List.set_cons_succ]
      refine wpAnyH_ready (rs := [1]) (by kernel_rfl) (by simp) ?_
      refine AllReadyH.cons (o := { dst := some 15, op := Op.load 23 (Operand.tmp 14), type := 23, pos := "certificate.go:73", after := #[{ on := 0, ground := Ground.data }], guard := none }) rfl (fun K hK => ?_) AllReadyH.nil
      go_simp
      refine hK.out _ _ ?_ (fun hHeld => ?_)
      · trivial
      clear hK K
      try simp only [Act.put, List.setIfInBounds_toArray, List.set_cons_zero, List.set_cons_succ]
      refine wpAnyH_ready (rs := [5]) (by kernel_rfl) (by simp) ?_
      refine AllReadyH.cons (o := { dst := some 19, op := Op.call { callee := Callee.builtin Builtin.append, args := #[Operand.tmp 15, Operand.tmp 18], argTypes := #[23, 23] }, type := 23, pos := "certificate.go:73", after := #[{ on := 1, ground := Ground.data }, { on := 4, ground := Ground.data }, { on := 3, ground := Ground.chain }], guard := none }) rfl (fun K hK => ?_) AllReadyH.nil
      rw [if_pos (by rfl)]
      refine app_oneR (.tmp 15) (.tmp 18) (gx + 1) w5 (.slice os ns cs) lj (z : Int) rfl rfl rfl hU5.out.own hs5 hlL ?_; intro v6 w6 hO6 hb6; have hU6 := hide' (hU5.out.app hO6 hb6); clear hO6 hb6; obtain ⟨o6, n6, c6, rfl⟩ := hU6.out.shp; have f6 := World.rowIs.frozen hU6.out.bx 2; have d6 := hU6.out.b2; (try dsimp only)
      refine hK.out _ _ ?_ (fun hHeld => ?_)
      · trivial
      clear hK K
      try simp only [Act.put, List.setIfInBounds_toArray, List.set_cons_zero, List.set_cons_succ]
      refine wpAnyH_take (i := 6) (oi := { dst := some 20, op := Op.fieldAddr 50 (Operand.tmp 3) 2, type := 0, pos := "certificate.go:73", after := #[{ on := 0, ground := Ground.phase }, { on := 1, ground := Ground.phase }, { on := 2, ground := Ground.phase }, { on := 3, ground := Ground.phase }, { on := 4, ground := Ground.phase }, { on := 5, ground := Ground.phase }], guard := none }) (v := ?_) rfl (by kernel_rfl) (by kernel_rfl) (by kernel_rfl) (fun _ _ _ h => h) (Or.inl ⟨by rfl, ?_⟩) (by assumption) ?_
      rotate_left
      · intro w hSw; (try dsimp only at hSw); go_simp <;> with_reducible rfl
      simp only [Act.put, List.setIfInBounds_toArray, List.set_cons_zero, List.set_cons_succ]
      refine wpAnyH_ready (rs := [7]) (by kernel_rfl) (by simp) ?_
      refine AllReadyH.cons (o := { dst := none, op := Op.store 23 (Operand.tmp 20) (Operand.tmp 19), type := 0, pos := "certificate.go:73", after := #[{ on := 6, ground := Ground.data }, { on := 5, ground := Ground.data }, { on := 5, ground := Ground.chain }, { on := 0, ground := Ground.phase }, { on := 1, ground := Ground.phase }, { on := 2, ground := Ground.phase }, { on := 3, ground := Ground.phase }, { on := 4, ground := Ground.phase }, { on := 5, ground := Ground.phase }], guard := none }) rfl (fun K hK => ?_) AllReadyH.nil
      go_simp
      refine hK.out _ _ ?_ (fun hHeld => ?_)
      · trivial
      clear hK K
      try simp only [Act.put, List.setIfInBounds_toArray, List.set_cons_zero, List.set_cons_succ]
      refine wpAnyH_done (by kernel_rfl) ?_ _
      skip
      have hU7 := hide' hU6.out.put
      clear hU6 f6 d6 hU5 c25 c26 c2d
      go_wp2
      exact ⟨⟨j + 1, v5, .slice o6 n6 c6, by omega, by go_num, by rw [hE.out, hE2.out]; exact hU7⟩, by simp [intOf]; omega⟩
    · as_aux_lemma =>
      obtain rfl : j = n := by omega
      obtain ⟨os, ns, cs, rfl⟩ := hU.out.shp
      have a0 : wr.cell? ⟨gx, 0, none⟩ = some (.int .i64 (k1 : Int)) := World.rowIs.cell hU.out.bx (i := 0) (by decide)
      have a1 : wr.cell? ⟨gx, 1, none⟩ = some (.int .i64 (k2 : Int)) := World.rowIs.cell hU.out.bx (i := 1) (by decide)
      have a2 := hU.out.b2
      have z0 := World.rowIs.frozen hU.out.res 0
      have y0 := World.rowIs.cell hU.out.res (i := 0) (by decide)
      have z1 := World.rowIs.frozen (World.rowIs.set hU.out.res 0 (.int .i64 (k1 : Int))) 1
      have y1 := World.rowIs.cell (World.rowIs.set hU.out.res 0 (.int .i64 (k1 : Int))) (i := 1) (by decide)
      have z2 := World.rowIs.frozen (World.rowIs.set (World.rowIs.set hU.out.res 0 (.int .i64 (k1 : Int))) 1 (.int .i64 (k2 : Int))) 2
      have y2 := World.rowIs.cell (World.rowIs.set (World.rowIs.set hU.out.res 0 (.int .i64 (k1 : Int))) 1 (.int .i64 (k2 : Int))) (i := 2) (by decide)
      have hX := World.rowIs.set (World.rowIs.set (World.rowIs.set hU.out.res 0 (.int .i64 (k1 : Int))) 1 (.int .i64 (k2 : Int))) 2 (.slice os ns cs)
      have x0 := World.rowIs.cell hX (i := 0) (by decide)
      have x1 := World.rowIs.cell hX (i := 1) (by decide)
      have x2 := World.rowIs.cell hX (i := 2) (by decide)
      simp [ruV] at y0 y1 y2 x0 x1 x2
      have hF := hide' (hU.out.fin hB (.int .i64 (k1 : Int)) (.int .i64 (k2 : Int)) (.slice os ns cs))
      clear hX hU hlb3
      go_wp2
      refine bodyPost_ret (v := .agg #[.int .i64 (k1 : Int), .int .i64 (k2 : Int), .slice os ns cs]) (by simp [results, Tryd.results44, go_sem, x0, x1, x2]) rfl ?_
      obtain ⟨f1, f2, f3⟩ := hF.out
      unfold RlP
      exact ⟨.slice os ns cs, v, by rw [hFin.out]; rfl, by rw [hFin.out]; exact f3, by rw [hFinS.out]; exact f1, f2⟩
end Go.Proofs.YtgmjmliemjgioaaDoor.S
namespace Go.Proofs.YtgmjmliemjgioaaDoor.S
open Go.RowKit Go.Shelf
/-- An int laid behind a row of ints that lies beside another. -/
theorem app_pair {o : Oper} {a : Act} {Kk : Act → World → Prop} {Q : Exit → Act → World → Prop} (s x : Operand) (B : Nat) (W : World) (v : Value) (L : List Int) (v' : Value) (L' : List Int) (z : Int) (ho : o.op = .call { callee := .builtin .append, args := #[s, x], argTypes := #[23, 23] })
    (es : a.eval s = v) (ex : a.eval x = .slice (some ⟨W.heap.size, 0, none⟩) 1 1) (hT : W.ownsRow B 3 1 v L.length (cellsI L)) (hT' : W.ownsRow B 3 1 v' L'.length (cellsI L')) (hd : ∀ g, v.ownBlock = some g → v'.ownBlock ≠ some g) (hB : B ≤ W.heap.size) (hn : L.length ≤ 1000000)
    (hK : ∀ o2 n2 c2 w2, w2.ownsRow B 3 1 (.slice o2 n2 c2) (L ++ [z]).length (cellsI (L ++ [z])) → w2.ownsRow B 3 1 v' L'.length (cellsI L') → (∀ g, (Value.slice o2 n2 c2).ownBlock = some g → v'.ownBlock ≠ some g) → Below B W w2 → (∀ (B' e sz : Nat) (v'' : Value) (n : Nat) (xs : List Value), e ≠ 3 → W.ownsRow B' e sz v'' n xs → w2.ownsRow B' e sz v'' n xs) → Kk (a.put o.dst (.slice o2 n2 c2)) w2) : o.wp Tryd.prog a (W.alloc (.cells #[.int .i64 z] 3)) Kk Q := by
  obtain ⟨i0, hi, hz0, hz1, hz2⟩ := info_parts info3
  refine K.wp_append_two _ s x 23 ho B 3 i0 (.int .i64 0) 1 8 Tryd.underlying23 hi hz0 hz1 hz2 rfl (by decide) v L.length (cellsI L) es (hT.alloc _) ⟨W.heap.size, 0, none⟩ 1 1 [.int .i64 z] ex rfl (World.news_of_block (cs := #[.int .i64 z]) (heap_new _ _)) (by simp [Value.oneCell']) (by decide) (by unfold maxLen; omega) (by omega) (by simp; omega) ?_
  intro g cap w2 hnew _ hat
  have e : cellsI (L ++ [z]) = cellsI L ++ [.int .i64 z] := by simp [cellsI]
  have hB1 : Below B W (W.alloc (.cells #[.int .i64 z] 3)) := (Below.refl B W).alloc hB _
  have hl' : ∀ k, v'.ownBlock = some k → k < W.heap.size := fun k hk => (hT'.lt k hk).2
  refine hK _ _ _ _ (by rw [e, List.length_append]; exact hnew) ?_ ?_ ?_ ?_
  · rcases hat with ⟨hv, hg⟩ | ⟨hv, hg⟩
    · refine (hT'.alloc _).kept hg ?_
      cases q : v'.ownBlock with
      | none => exact .inl rfl
      | some k => exact .inr fun e => hd g (by rw [hv]; rfl) (by rw [q, e])
    · exact (hT'.alloc _).kept hg (by cases q : v'.ownBlock with | none => exact .inl rfl | some k => exact .inr (by simp))
  · intro k hk q
    have hk' : g = k := by simpa [Value.ownBlock] using hk
    subst hk'
    rcases hat with ⟨hv, _⟩ | ⟨hv, _⟩
    · exact hd g (by rw [hv]; rfl) q
    · have := hl' g q
      rw [hv] at this
      simp at this
      omega
  · rcases hat with ⟨hv, hg⟩ | ⟨_, hg⟩
    · exact hB1.grown hg (by simp; omega) (fun j ej => by cases ej; exact own_ge' hT (by rw [hv]; rfl))
    · exact hB1.grown hg (by simp; omega) (fun j ej => by cases ej)
  · intro B' e' sz v'' n xs hne ho''
    rcases hat with ⟨hv, hg⟩ | ⟨_, hg⟩
    · exact kept_kind (ho''.alloc _) (hT.alloc _) hne (by rw [hv]; exact hg)
    · exact (ho''.alloc _).kept hg (by cases q : v''.ownBlock with | none => exact .inl rfl | some k => exact .inr (by simp))
structure Cq (w : World) (B gr : Nat) (W : World) (v : Value) (t : RdS) (u : Int) (a b c va vb vc vp : Value) (L1 : List Nat) (L2 LP : List Int) (E : List (Rl × Value)) : Prop where
  rd : Rd B W gr v t
  fr : FrG gr w W
  qb : QAt W w.heap.size u a b c
  r1 : W.ownsRow (w.heap.size + 1) 48 1 va L1.length (cellsW L1)
  r2 : W.ownsRow (w.heap.size + 1) 3 1 vb L2.length (cellsI L2)
  rp : W.ownsRow (w.heap.size + 1) 3 1 vp LP.length (cellsI LP)
  r3 : TwS (w.heap.size + 1) W vc E
  dj : ∀ g, vb.ownBlock = some g → vp.ownBlock ≠ some g
  gl : B ≤ w.heap.size
section
variable {w : World} {B gr : Nat} {W W' : World} {v v' : Value} {t t' : RdS} {u : Int} {a b c va vb vc vp : Value} {L1 : List Nat} {L2 LP : List Int} {E : List (Rl × Value)}
theorem own_frg {B' e sz : Nat} {v : Value} {n : Nat} {xs : List Value} (h : W.ownsRow B' e sz v n xs) (hf : FrG gr W W') (hg : gr < B') : W'.ownsRow B' e sz v n xs :=
  own_same h fun g hg' e => hf.block g hg' (by have := own_ge' h e; omega)
theorem Cq.tk (h : Cq w B gr W v t u a b c va vb vc vp L1 L2 LP E) (hr : Rd B W' gr v' t') (hf : FrG gr W W') : Cq w B gr W' v' t' u a b c va vb vc vp L1 L2 LP E := by
  have hgr := h.rd.lowr
  have hgl := h.gl
  have hg : gr < w.heap.size + 1 := by omega
  exact ⟨hr, h.fr.trans hf, h.qb.of (hf.block _ h.qb.lt (by omega)), own_frg h.r1 hf hg, own_frg h.r2 hf hg, own_frg h.rp hf hg, ⟨own_frg h.r3.row hf hg, fun p hp => own_frg (h.r3.inner p hp) hf hg⟩, h.dj, h.gl⟩
theorem Cq.sz (h : Cq w B gr W v t u a b c va vb vc vp L1 L2 LP E) : w.heap.size + 1 ≤ W.heap.size := h.qb.lt
theorem Cq.over (h : Cq w B gr W v t u a b c va vb vc vp L1 L2 LP E) (hb : Below W.heap.size W W') : Cq w B gr W' v t u a b c va vb vc vp L1 L2 LP E := by
  have h1 := h.gl
  have h2 := h.sz
  exact ⟨h.rd.over (hb.mono (by omega)), h.fr.low hb (by omega), h.qb.of (hb.block _ h.qb.lt), own_lowB h.r1 hb, own_lowB h.r2 hb, own_lowB h.rp hb, h.r3.below hb (Nat.le_refl _), h.dj, h.gl⟩
theorem Cq.put (h : Cq w B gr W v t u a b c va vb vc vp L1 L2 LP E) {o : Nat} {x : Value} {u' : Int} {a' b' c' : Value} (hq : QAt (W.setCell ⟨w.heap.size, o, none⟩ x) w.heap.size u' a' b' c') : Cq w B gr (W.setCell ⟨w.heap.size, o, none⟩ x) v t u' a' b' c' va vb vc vp L1 L2 LP E := by
  have hgl := h.gl
  have hb : Below w.heap.size W (W.setCell ⟨w.heap.size, o, none⟩ x) := (Below.refl _ W).setCell (p := ⟨w.heap.size, o, none⟩) (Nat.le_refl _) _
  exact ⟨h.rd.over (hb.mono hgl), h.fr.low hb (Nat.le_refl _), hq, own_set h.r1 (by omega) x, own_set h.r2 (by omega) x, own_set h.rp (by omega) x, ⟨own_set h.r3.row (by omega) x, fun p hp => own_set (h.r3.inner p hp) (by omega) x⟩, h.dj, h.gl⟩
variable {o : Oper} {ac : Act} {Q : Exit → Act → World → Prop} {K : Act → World → Prop}
theorem Cq.base (h : Cq w B gr W v t u a b c va vb vc vp L1 L2 LP E) (hb : Below (w.heap.size + 1) W W') : Rd B W' gr v t ∧ FrG gr w W' ∧ QAt W' w.heap.size u a b c := by
  have hgl := h.gl
  exact ⟨h.rd.over (hb.mono (by omega)), h.fr.low hb (by omega), h.qb.of (hb.block _ (Nat.lt_succ_self _))⟩
/-- A word more. -/
theorem Cq.wapp1 (s x : Operand) (h : Cq w B gr W v t u a b c va vb (.slice none 0 0) vp L1 L2 LP []) (z : Nat) (ho : o.op = .call { callee := .builtin .append, args := #[s, x], argTypes := #[22, 22] })
    (es : ac.eval s = va) (ex : ac.eval x = .slice (some ⟨W.heap.size, 0, none⟩) 1 1) (hn : L1.length ≤ 1000000)
    (hK : ∀ o5 n5 c5 w2, Cq w B gr w2 v t u a b c (.slice o5 n5 c5) vb (.slice none 0 0) vp (L1 ++ [z]) L2 LP [] → K (ac.put o.dst (.slice o5 n5 c5)) w2) : o.wp Tryd.prog ac (W.alloc (.cells #[.int .u64 (z : Int)] 48)) K Q := by
  obtain ⟨i0, hi, hz0, hz1, hz2⟩ := info_parts infoW
  have hs := h.sz
  refine wp_append_own _ s x 22 ho (w.heap.size + 1) 48 i0 (.int .u64 0) 1 8 Tryd.underlying22 hi hz0 hz1 hz2 rfl (by decide) va L1.length (cellsW L1) es (h.r1.alloc _) ⟨W.heap.size, 0, none⟩ 1 1 [.int .u64 (z : Int)] ex rfl (World.news_of_block (cs := #[.int .u64 (z : Int)]) (heap_new _ _)) (by simp [Value.oneCell']) (by unfold maxLen; omega) (by omega) (by simp; omega) ?_
  intro v2 w2 hown hgrow _
  have hb : Below (w.heap.size + 1) W w2 := ((Below.refl _ W).alloc hs _).grown hgrow (by simp; omega) (fun j ej => own_ge' h.r1 ej)
  obtain ⟨o5, c5, rfl⟩ := own_shp hown
  obtain ⟨b1, b2, b3⟩ := h.base hb
  have e : cellsW (L1 ++ [z]) = cellsW L1 ++ [.int .u64 (z : Int)] := by simp [cellsW]
  exact hK _ _ _ _ ⟨b1, b2, b3, by rw [e, List.length_append]; exact hown, kept_kind (h.r2.alloc _) (h.r1.alloc _) (by decide) hgrow, kept_kind (h.rp.alloc _) (h.r1.alloc _) (by decide) hgrow, TwS.nil _ _, h.dj, h.gl⟩
/-- An int more, in the problem. -/
theorem Cq.wapp2 (s x : Operand) (h : Cq w B gr W v t u a b c va vb (.slice none 0 0) vp L1 L2 LP []) (z : Int) (ho : o.op = .call { callee := .builtin .append, args := #[s, x], argTypes := #[23, 23] })
    (es : ac.eval s = vb) (ex : ac.eval x = .slice (some ⟨W.heap.size, 0, none⟩) 1 1) (hn : L2.length ≤ 1000000)
    (hK : ∀ o5 n5 c5 w2, Cq w B gr w2 v t u a b c va (.slice o5 n5 c5) (.slice none 0 0) vp L1 (L2 ++ [z]) LP [] → K (ac.put o.dst (.slice o5 n5 c5)) w2) : o.wp Tryd.prog ac (W.alloc (.cells #[.int .i64 z] 3)) K Q := by
  refine app_pair s x (w.heap.size + 1) W vb L2 vp LP z ho es ex h.r2 h.rp h.dj h.sz hn ?_
  intro o5 n5 c5 w2 k1 k2 k3 k4 k5
  obtain ⟨b1, b2, b3⟩ := h.base k4
  exact hK _ _ _ _ ⟨b1, b2, b3, k5 _ _ _ _ _ _ (by decide) h.r1, k1, k2, TwS.nil _ _, k3, h.gl⟩
/-- An int more, in the plan. -/
theorem Cq.wappP (s x : Operand) (h : Cq w B gr W v t u a b c va vb (.slice none 0 0) vp L1 L2 LP []) (z : Int) (ho : o.op = .call { callee := .builtin .append, args := #[s, x], argTypes := #[23, 23] })
    (es : ac.eval s = vp) (ex : ac.eval x = .slice (some ⟨W.heap.size, 0, none⟩) 1 1) (hn : LP.length ≤ 1000000)
    (hK : ∀ o5 n5 c5 w2, Cq w B gr w2 v t u a b c va vb (.slice none 0 0) (.slice o5 n5 c5) L1 L2 (LP ++ [z]) [] → K (ac.put o.dst (.slice o5 n5 c5)) w2) : o.wp Tryd.prog ac (W.alloc (.cells #[.int .i64 z] 3)) K Q := by
  refine app_pair s x (w.heap.size + 1) W vp LP vb L2 z ho es ex h.rp h.r2 (fun g h1 h2 => h.dj g h2 h1) h.sz hn ?_
  intro o5 n5 c5 w2 k1 k2 k3 k4 k5
  obtain ⟨b1, b2, b3⟩ := h.base k4
  exact hK _ _ _ _ ⟨b1, b2, b3, k5 _ _ _ _ _ _ (by decide) h.r1, k2, k1, TwS.nil _ _, (fun g h1 h2 => k3 g h2 h1), h.gl⟩
/-- A rule more. -/
theorem Cq.wapp3 (s x : Operand) (h : Cq w B gr W v t u a b c va vb vc vp L1 L2 LP E) (p : Rl × Value) (hp : W.ownsRow (w.heap.size + 1) 3 1 p.2 p.1.steps.length (cellsI p.1.steps)) (hne : ∀ g, vc.ownBlock = some g → p.2.ownBlock ≠ some g) (ho : o.op = .call { callee := .builtin .append, args := #[s, x], argTypes := #[24, 24] })
    (es : ac.eval s = vc) (ex : ac.eval x = .slice (some ⟨W.heap.size, 0, none⟩) 1 1) (hn : E.length ≤ 1000000)
    (hK : ∀ o5 n5 c5 w2, Cq w B gr w2 v t u a b c va vb (.slice o5 n5 c5) vp L1 L2 LP (E ++ [p]) → K (ac.put o.dst (.slice o5 n5 c5)) w2) : o.wp Tryd.prog ac (W.alloc (.cells #[.int .i64 p.1.kind, .int .i64 p.1.k, p.2] 50)) K Q := by
  obtain ⟨i0, hi, hz0, hz1, hz2⟩ := info_parts infoR
  have hs := h.sz
  have hT1 : TwS (w.heap.size + 1) (W.alloc (.cells #[.int .i64 p.1.kind, .int .i64 p.1.k, p.2] 50)) vc E := ⟨h.r3.row.alloc _, fun q hq => (h.r3.inner q hq).alloc _⟩
  refine wp_append_own _ s x 24 ho (w.heap.size + 1) 50 i0 (.agg #[.int .i64 0, .int .i64 0, .slice none 0 0]) 3 40 Tryd.underlying24 hi hz0 hz1 hz2 rfl (by decide) vc E.length (cellsR E) es hT1.row ⟨W.heap.size, 0, none⟩ 1 1 (rcells p) ex rfl (World.news_of_block (cs := #[.int .i64 p.1.kind, .int .i64 p.1.k, p.2]) (heap_new _ _)) (rcells_one p (own_one hp)) (by unfold maxLen; omega) (by omega) (by simp; omega) ?_
  intro v2 w2 hown hgrow _
  have hb : Below (w.heap.size + 1) W w2 := ((Below.refl _ W).alloc hs _).grown hgrow (by simp; omega) (fun j ej => own_ge' h.r3.row ej)
  have hTw := hT1.push p (hp.alloc _) hne hown hgrow
  obtain ⟨o5, c5, rfl⟩ := own_shp hown
  obtain ⟨b1, b2, b3⟩ := h.base hb
  exact hK _ _ _ _ ⟨b1, b2, b3, kept_kind (h.r1.alloc _) hT1.row (by decide) hgrow, kept_kind (h.r2.alloc _) hT1.row (by decide) hgrow, kept_kind (h.rp.alloc _) hT1.row (by decide) hgrow, hTw, h.dj, h.gl⟩
end
end Go.Proofs.YtgmjmliemjgioaaDoor.S
namespace Go.Proofs.YtgmjmliemjgioaaDoor.S
open Go.RowKit Go.Shelf
/-- Behind the mark. -/
def mkS (s : RdS) : RdS := if tkN 2 s = 20547 then tkS 2 s else ((tkS 2 s).1, true)
def csS : Nat → RdS → RdS
  | 0, t => t
  | n + 1, t => tkS 1 (tkS 1 (tkS 8 (csS n t)))
def csW : Nat → RdS → List Nat
  | 0, _ => []
  | n + 1, t => csW n t ++ [tkN 8 (csS n t)]
def csF : Nat → RdS → List Int
  | 0, _ => []
  | n + 1, t => csF n t ++ [(tkN 1 (tkS 8 (csS n t)) : Int) - 1]
def csP : Nat → RdS → List Int
  | 0, _ => []
  | n + 1, t => csP n t ++ [(tkN 1 (tkS 1 (tkS 8 (csS n t))) : Int)]
def crS : Nat → RdS → RdS
  | 0, t => t
  | n + 1, t => rdRS (crS n t)
def crL : Nat → RdS → List Rl
  | 0, _ => []
  | n + 1, t => crL n t ++ [rdR (crS n t)]
def rcN (s : RdS) : Nat := tkN 1 (tkS 1 (mkS s))
def rcA (s : RdS) : RdS := tkS 1 (tkS 1 (mkS s))
def rcK (s : RdS) : Nat := tkN 1 (csS (rcN s) (rcA s))
def rcB (s : RdS) : RdS := tkS 1 (csS (rcN s) (rcA s))
/-- The problem, the plan, what is left. -/
def rcP (s : RdS) : Pb := ⟨(tkN 1 (mkS s) : Int), csW (rcN s) (rcA s), csF (rcN s) (rcA s), crL (rcK s) (rcB s)⟩
def rcL (s : RdS) : List Int := csP (rcN s) (rcA s)
def rcS (s : RdS) : RdS := crS (rcK s) (rcB s)
theorem mkS_len (s : RdS) : (mkS s).1.length ≤ s.1.length := by
  unfold mkS
  split
  · exact tkS_len 2 s
  · exact tkS_len 2 s
theorem csS_len (n : Nat) (t : RdS) : (csS n t).1.length ≤ t.1.length := by
  induction n with
  | zero => exact Nat.le_refl _
  | succ n ih => exact Nat.le_trans (tkS_len 1 _) (Nat.le_trans (tkS_len 1 _) (Nat.le_trans (tkS_len 8 _) ih))
theorem csW_len (n : Nat) (t : RdS) : (csW n t).length = n := by induction n with | zero => rfl | succ n ih => simp [csW, ih]
theorem csF_len (n : Nat) (t : RdS) : (csF n t).length = n := by induction n with | zero => rfl | succ n ih => simp [csF, ih]
theorem csP_len (n : Nat) (t : RdS) : (csP n t).length = n := by induction n with | zero => rfl | succ n ih => simp [csP, ih]
theorem rdRS_len (s : RdS) : (rdRS s).1.length ≤ s.1.length := Nat.le_trans (rsS_len _ _) (Nat.le_trans (tkS_len 1 _) (Nat.le_trans (tkS_len 4 _) (tkS_len 1 _)))
theorem crS_len (n : Nat) (t : RdS) : (crS n t).1.length ≤ t.1.length := by
  induction n with
  | zero => exact Nat.le_refl _
  | succ n ih => exact Nat.le_trans (rdRS_len _) ih
theorem crL_len (n : Nat) (t : RdS) : (crL n t).length = n := by induction n with | zero => rfl | succ n ih => simp [crL, ih]
theorem Rd.mark {B : Nat} {W : World} {gr : Nat} {v : Value} {s : RdS} (h : Rd B W gr v s) : Rd B (W.setCell ⟨gr, 1, none⟩ (.bool true)) gr v (s.1, true) := by
  obtain ⟨oa, cap, e⟩ := h.shp
  have hk := fun (o : Nat) (x : Int) => rd_kind (o := o) (k := .u8) (x := x) h.at_ ⟨_, _, _, e⟩
  exact ⟨rowIs_set1 h.at_ true, h.row.frg (FrG.set W gr 1 _) hk, h.byte, h.room, h.low, h.lowr⟩
theorem Cq.start {B gr : Nat} {v : Value} {s : RdS} {w : World} (h : Rd B w gr v s) (hB : B ≤ w.heap.size) : Cq w B gr (w.alloc (.cells #[.int .i64 0, .slice none 0 0, .slice none 0 0, .slice none 0 0] 26)) v s 0 (.slice none 0 0) (.slice none 0 0) (.slice none 0 0) (.slice none 0 0) (.slice none 0 0) (.slice none 0 0) (.slice none 0 0) [] [] [] [] := by
  have hb0 : Below w.heap.size w (w.alloc (.cells #[.int .i64 0, .slice none 0 0, .slice none 0 0, .slice none 0 0] 26)) := (Below.refl _ w).alloc (Nat.le_refl _) _
  exact ⟨h.over (hb0.mono hB), FrG.below hb0, QAt.block (heap_new w _), World.ownsRow_nil _ _ _ _, World.ownsRow_nil _ _ _ _, World.ownsRow_nil _ _ _ _, TwS.nil _ _, (fun g e => by cases e), hB⟩
/-- What it leaves. -/
def CcP (B : Nat) (w : World) (gr : Nat) (s : RdS) (e : Ending) (w' : World) : Prop :=
  ∃ va vb vc vp v' E, e = .returned (.tuple #[.agg #[.int .i64 (rcP s).users, va, vb, vc], vp]) ∧ Hid (w'.ownsRow w.heap.size 48 1 va (rcP s).who.length (cellsW (rcP s).who) ∧ w'.ownsRow w.heap.size 3 1 vb (rcP s).fixed.length (cellsI (rcP s).fixed) ∧ TwS w.heap.size w' vc E ∧ E.map Prod.fst = (rcP s).rules ∧ w'.ownsRow w.heap.size 3 1 vp (rcL s).length (cellsI (rcL s))) ∧ Hid (Rd B w' gr v' (rcS s)) ∧ Hid (FrG gr w w')
theorem QAt.s0 {W : World} {g : Nat} {u : Int} {a b c : Value} (h : QAt W g u a b c) (x : Int) : QAt (W.setCell ⟨g, 0, none⟩ (.int .i64 x)) g x a b c :=
  World.rowIs.congr (World.rowIs.set h 0 _) fun i hi => by
    match i, hi with
    | 0, _ => rfl
    | 1, _ => rfl
    | 2, _ => rfl
    | 3, _ => rfl
set_option maxRecDepth 100000 in
set_option maxHeartbeats 8000000 in
theorem readCF (B gr : Nat) (v : Value) (s : RdS) (w : World) (h : Rd B w gr v s) (hB : B ≤ w.heap.size) (hl : s.1.length ≤ 100000) :
    Calls Tryd.prog 25 #[.pointer (some ⟨gr, 0, none⟩)] w (CcP B w gr s) := by
  have hS0 := hide' (Cq.start h hB)
  have hlm := hide' (Nat.le_trans (mkS_len s) hl)
  have hl1 := hide' (Nat.le_trans (tkS_len 1 (mkS s)) hlm.out)
  have hl2 : Hid ((rcA s).1.length ≤ 100000) := Nat.le_trans (tkS_len 1 (tkS 1 (mkS s))) hl1.out
  have hbm : Hid (∀ b ∈ s.1, b < 256) := h.byte
  have hbk : Hid (∀ b ∈ (mkS s).1, b < 256) := fun b hb => by
    unfold mkS at hb
    split at hb
    · exact tkS_mem hbm.out b hb
    · exact tkS_mem (wd := 2) hbm.out b hb
  clear h
  go_enter Tryd.func25, Tryd.ntmps25
  go_wp2_with fail
  refine (takeF B gr 2 2 rfl v s _ hS0.out.rd (by decide) (by decide) hl).mono ?_
  rintro e w1 ⟨rfl, v1, hR1, hf1⟩
  have hS1 := hide' (hS0.out.tk hR1.out hf1.out)
  clear hS0 hR1 hf1
  go_upto_if 6 with fail
  go_cut [] from 7 to 10 (fun wx => ∃ vA, Hid (Cq w B gr wx vA (mkS s) 0 (.slice none 0 0) (.slice none 0 0) (.slice none 0 0) (.slice none 0 0) (.slice none 0 0) (.slice none 0 0) (.slice none 0 0) [] [] [] []))
  case first =>
    as_aux_lemma =>
    by_cases hm : tkN 2 s = 20547
    · have hE : Hid (mkS s = tkS 2 s) := by unfold Hid mkS; rw [if_pos hm]
      have hmI : ((tkN 2 s : Nat) : Int) = 20547 := by omega
      clear hm
      go_wp2
      go_meet
      exact ⟨v1, by rw [hE.out]; exact hS1⟩
    · have hE : Hid (mkS s = ((tkS 2 s).1, true)) := by unfold Hid mkS; rw [if_neg hm]
      have hmI : ((tkN 2 s : Nat) : Int) ≠ 20547 := by omega
      have hmb : (((tkN 2 s : Nat) : Int) != 20547) = true := by rw [bne_iff_ne]; exact hmI
      have hS2 := hide' (hS1.out.tk hS1.out.rd.mark (FrG.set w1 gr 1 _))
      have f1 := hS1.out.rd.fz 1
      have c1 := hS1.out.rd.c1
      clear hm hS1
      go_wp2
      go_meet
      exact ⟨v1, by rw [hE.out]; exact hS2⟩
  case rest =>
  obtain ⟨vA, hS2⟩ := hcut
  clear hS1
  go_wp2_with fail
  refine (smallF B gr vA (mkS s) _ hS2.out.rd hlm.out).mono ?_
  rintro e w3 ⟨rfl, v3, hR3, hf3⟩
  have hS3 := hide' (hS2.out.tk hR3.out hf3.out)
  have hf3' := hS3.out.qb.frz 0
  have hc3' := hS3.out.qb.c0
  have hS4 := hide' (hS3.out.put (hS3.out.qb.s0 ((tkN 1 (mkS s) : Nat) : Int)))
  have hub : tkN 1 (mkS s) < 256 := tkN_lt (wd := 1) hbk.out
  have hFU : Hid (rcP s = ⟨((tkN 1 (mkS s) : Nat) : Int), csW (rcN s) (rcA s), csF (rcN s) (rcA s), crL (rcK s) (rcB s)⟩) := rfl
  generalize tkN 1 (mkS s) = U at *
  clear hS2 hR3 hf3 hS3
  go_wp2_with fail
  refine (smallF B gr v3 (tkS 1 (mkS s)) _ hS4.out.rd hl1.out).mono ?_
  rintro e w5 ⟨rfl, v5, hR5, hf5⟩
  have hS5 : Hid (Cq w B gr w5 v5 (csS 0 (rcA s)) (U : Int) (.slice none 0 0) (.slice none 0 0) (.slice none 0 0) (.slice none 0 0) (.slice none 0 0) (.slice none 0 0) (.slice none 0 0) (csW 0 (rcA s)) (csF 0 (rcA s)) (csP 0 (rcA s)) []) := hS4.out.tk hR5.out hf5.out
  have hNb : rcN s < 256 := tkN_lt (wd := 1) (tkS_mem hbk.out)
  have hN : Hid (rcN s = tkN 1 (tkS 1 (mkS s))) := rfl
  rw [← hN.out]
  have hlc : Hid (∀ j, (csS j (rcA s)).1.length ≤ 100000) := fun j => Nat.le_trans (csS_len j _) hl2.out
  have hbA : Hid (∀ b ∈ (rcA s).1, b < 256) := tkS_mem (tkS_mem hbk.out)
  have hbC : Hid (∀ j, ∀ b ∈ (csS j (rcA s)).1, b < 256) := fun j => by
    induction j with
    | zero => exact hbA.out
    | succ j ih => exact tkS_mem (tkS_mem (tkS_mem ih))
  clear hS4 hR5 hf5 hlm hl1 hl2 hN hf3' hc3' hbm hbk hbA
  have hRA : Hid (rcB s = tkS 1 (csS (rcN s) (rcA s)) ∧ rcK s = tkN 1 (csS (rcN s) (rcA s)) ∧ rcL s = csP (rcN s) (rcA s) ∧ rcS s = crS (rcK s) (rcB s)) := ⟨rfl, rfl, rfl, rfl⟩
  generalize rcA s = A at *
  generalize rcN s = n at *
  go_upto_block 0 with fail
  go_cut [3] from 13 to 38 (fun q wx => ∃ va vb vx, Hid (Cq w B gr wx vx (csS n A) (U : Int) va vb (.slice none 0 0) va vb (.slice none 0 0) q (csW n A) (csF n A) (csP n A) []))
  case first =>
    as_aux_lemma =>
    go_wp2_with fail
    go_loopw [3, 15] (fun q p wr => ∃ (j : Nat) (va vb vx : Value), j ≤ n ∧ p = .int .i64 (j : Int) ∧ Hid (Cq w B gr wr vx (csS j A) (U : Int) va vb (.slice none 0 0) va vb (.slice none 0 0) q (csW j A) (csF j A) (csP j A) [])) (fun _ p _ => ((n : Int) - intOf p).toNat)
    case atStart => exact ⟨0, _, _, _, Nat.zero_le _, rfl, hS5⟩
    case round =>
      clear hS5 hFU hRA
      obtain ⟨j, va, vb, vx, hj, rfl, hS⟩ := hrel
      by_cases hlt : j < n
      · as_aux_lemma =>
        have hlt' : (j : Int) < (n : Int) := by omega
        obtain ⟨oa, na, ca, rfl⟩ : ∃ a b c, va = .slice a b c := by obtain ⟨a, c, e⟩ := own_shp hS.out.r1; exact ⟨a, _, c, e⟩
        obtain ⟨ob, nb, cb, rfl⟩ : ∃ a b c, vb = .slice a b c := by obtain ⟨a, c, e⟩ := own_shp hS.out.r2; exact ⟨a, _, c, e⟩
        obtain ⟨oq, nq, cq, rfl⟩ : ∃ a b c, u3 = .slice a b c := by obtain ⟨a, c, e⟩ := own_shp hS.out.rp; exact ⟨a, _, c, e⟩
        have hlj := hlc.out j
        have hbj := hide' (hbC.out j)
        have hl8 := hide' (Nat.le_trans (tkS_len 8 (csS j A)) hlj)
        have hl9 := hide' (Nat.le_trans (tkS_len 1 (tkS 8 (csS j A))) hl8.out)
        have hlW : (csW j A).length ≤ 1000000 := by rw [csW_len]; omega
        have hlF : (csF j A).length ≤ 1000000 := by rw [csF_len]; omega
        have hlP : (csP j A).length ≤ 1000000 := by rw [csP_len]; omega
        have hNx : Hid (csS (j + 1) A = tkS 1 (tkS 1 (tkS 8 (csS j A))) ∧ csW (j + 1) A = csW j A ++ [tkN 8 (csS j A)] ∧ csF (j + 1) A = csF j A ++ [(tkN 1 (tkS 8 (csS j A)) : Int) - 1] ∧ csP (j + 1) A = csP j A ++ [(tkN 1 (tkS 1 (tkS 8 (csS j A))) : Int)]) := ⟨rfl, rfl, rfl, rfl⟩
        have hx8 : tkN 1 (tkS 8 (csS j A)) < 256 := tkN_lt (wd := 1) (tkS_mem hbj.out)
        have hSd := hide' (hS.out.over (Below.refl _ wr).drew)
        have K8 : Hid (Calls Tryd.prog 42 #[.pointer (some ⟨gr, 0, none⟩), .int .i64 8] wr.drew fun e w' => e = .returned (.int .u64 (tkN 8 (csS j A) : Int)) ∧ ∃ v', Hid (Cq w B gr w' v' (tkS 8 (csS j A)) (U : Int) (.slice oa na ca) (.slice ob nb cb) (.slice none 0 0) (.slice oa na ca) (.slice ob nb cb) (.slice none 0 0) (.slice oq nq cq) (csW j A) (csF j A) (csP j A) [])) := (takeF B gr 8 8 rfl vx (csS j A) wr.drew hSd.out.rd (by decide) (by decide) hlj).mono fun e w' ⟨h1, v', h2, h3⟩ => ⟨h1, v', hSd.out.tk h2.out h3.out⟩
        have K1 : Hid (∀ V v' va' L1, Cq w B gr V v' (tkS 8 (csS j A)) (U : Int) va' (.slice ob nb cb) (.slice none 0 0) va' (.slice ob nb cb) (.slice none 0 0) (.slice oq nq cq) L1 (csF j A) (csP j A) [] → Calls Tryd.prog 43 #[.pointer (some ⟨gr, 0, none⟩)] V fun e w' => e = .returned (.int .i64 (tkN 1 (tkS 8 (csS j A)) : Int)) ∧ ∃ v'', Hid (Cq w B gr w' v'' (tkS 1 (tkS 8 (csS j A))) (U : Int) va' (.slice ob nb cb) (.slice none 0 0) va' (.slice ob nb cb) (.slice none 0 0) (.slice oq nq cq) L1 (csF j A) (csP j A) [])) := fun V v' va' L1 hV => (smallF B gr v' (tkS 8 (csS j A)) V hV.rd hl8.out).mono fun e w' ⟨h1, v'', h2, h3⟩ => ⟨h1, v'', hV.tk h2.out h3.out⟩
        have K2 : Hid (∀ V v' va' vb' L1 L2, Cq w B gr V v' (tkS 1 (tkS 8 (csS j A))) (U : Int) va' vb' (.slice none 0 0) va' vb' (.slice none 0 0) (.slice oq nq cq) L1 L2 (csP j A) [] → Calls Tryd.prog 43 #[.pointer (some ⟨gr, 0, none⟩)] V fun e w' => e = .returned (.int .i64 (tkN 1 (tkS 1 (tkS 8 (csS j A))) : Int)) ∧ ∃ v'', Hid (Cq w B gr w' v'' (tkS 1 (tkS 1 (tkS 8 (csS j A)))) (U : Int) va' vb' (.slice none 0 0) va' vb' (.slice none 0 0) (.slice oq nq cq) L1 L2 (csP j A) [])) := fun V v' va' vb' L1 L2 hV => (smallF B gr v' (tkS 1 (tkS 8 (csS j A))) V hV.rd hl9.out).mono fun e w' ⟨h1, v'', h2, h3⟩ => ⟨h1, v'', hV.tk h2.out h3.out⟩
        generalize tkN 8 (csS j A) = z8 at *
        generalize tkN 1 (tkS 1 (tkS 8 (csS j A))) = zp at *
        generalize tkN 1 (tkS 8 (csS j A)) = zf at *
        generalize tkS 1 (tkS 1 (tkS 8 (csS j A))) = t3 at *
        generalize tkS 1 (tkS 8 (csS j A)) = t2 at *
        generalize tkS 8 (csS j A) = t1 at *
        generalize csW j A = Lw at *
        generalize csF j A = Lf at *
        generalize csP j A = Lp at *
        have hwz : Hid (IntKind.i64.wrap ((zf : Int) + -1) = (zf : Int) - 1) := by
          unfold Hid
          simp only [IntKind.wrap, IntKind.bits, IntKind.signed]
          simp
          omega
        have c1d := hSd.out.qb.c1
        clear hS hlj hbj hlc hbC hl8 hl9
        go_wp2
        refine wp_region_held_drew (S := (fun _ => True)) (by kernel_rfl) ?_ (fun hHeld => ?_)
        · trivial
        refine wpAnyH_take (i := 0) (oi := { dst := some 17, op := Op.fieldAddr 26 (Operand.tmp 2) 1, type := 0, pos := "certificate.go:60", after := #[], guard := none }) (v := ?_) rfl (by kernel_rfl) (by kernel_rfl) (by kernel_rfl) (fun _ _ _ h => h) (Or.inl ⟨by rfl, ?_⟩) (by assumption) ?_
        rotate_left
        · intro w hSw; (try dsimp only at hSw); go_simp <;> with_reducible rfl
        simp only [Act.put, List.setIfInBounds_toArray, List.set_cons_zero, List.set_cons_succ]
        refine wpAnyH_take (i := 2) (oi := { dst := some 19, op := Op.move (Operand.tmp 0), type := 91, pos := "certificate.go:60", after := #[], guard := none }) (v := ?_) rfl (by kernel_rfl) (by kernel_rfl) (by kernel_rfl) (fun _ _ _ h => h) (Or.inl ⟨by rfl, ?_⟩) (by assumption) ?_
        rotate_left
        · intro w hSw; (try dsimp only at hSw); go_simp <;> with_reducible rfl
        simp only [Act.put, List.setIfInBounds_toArray, List.set_cons_zero, List.set_cons_succ]
        refine wpAnyH_ready (rs := [1, 3]) (by kernel_rfl) (by simp) ?_
        refine AllReadyH.cons (o := { dst := some 18, op := Op.load 22 (Operand.tmp 17), type := 22, pos := "certificate.go:60", after := #[{ on := 0, ground := Ground.data }], guard := none }) rfl (fun K hK => ?_) ?_
        · skip
          go_simp
          refine hK.out _ _ ?_ (fun hHeld => ?_)
          · trivial
          clear hK K
          try simp only [Act.put, List.setIfInBounds_toArray, List.set_cons_zero, List.set_cons_succ]
          refine wpAnyH_ready (rs := [3]) (by kernel_rfl) (by simp) ?_
          refine AllReadyH.cons (o := { dst := some 20, op := Op.call { callee := Callee.value (Operand.func 42), args := #[Operand.tmp 19, Operand.const (Value.int IntKind.i64 8)], argTypes := #[91, 3] }, type := 48, pos := "certificate.go:60", after := #[{ on := 2, ground := Ground.data }], guard := none }) rfl (fun K hK => ?_) AllReadyH.nil
          go_simp
          refine K8.out.mono ?_; rintro e w6 ⟨rfl, v6, hS6⟩; have c16 := hS6.out.qb.c1; have c17 := (hS6.out.over ((Below.refl _ w6).alloc (Nat.le_refl _) (.cells #[.int .u64 (z8 : Int)] 48))).qb.c1; (try dsimp only)
          refine hK.out _ _ ?_ (fun hHeld => ?_)
          · trivial
          clear hK K
          try simp only [Act.put, List.setIfInBounds_toArray, List.set_cons_zero, List.set_cons_succ]
          refine wpAnyH_ready (rs := [4]) (by kernel_rfl) (by simp) ?_
          refine AllReadyH.cons (o := { dst := some 21, op := Op.buildSlice 22 1 #[(0, Operand.tmp 20)], type := 22, pos := "certificate.go:60", after := #[{ on := 3, ground := Ground.data }], guard := none }) rfl (fun K hK => ?_) AllReadyH.nil
          go_simp
          refine hK.out _ _ ?_ (fun hHeld => ?_)
          · trivial
          clear hK K
          try simp only [Act.put, List.setIfInBounds_toArray, List.set_cons_zero, List.set_cons_succ]
          refine wpAnyH_ready (rs := [5]) (by kernel_rfl) (by simp) ?_
          refine AllReadyH.cons (o := { dst := some 22, op := Op.call { callee := Callee.builtin Builtin.append, args := #[Operand.tmp 18, Operand.tmp 21], argTypes := #[22, 22] }, type := 22, pos := "certificate.go:60", after := #[{ on := 1, ground := Ground.data }, { on := 4, ground := Ground.data }, { on := 3, ground := Ground.chain }], guard := none }) rfl (fun K hK => ?_) AllReadyH.nil
          rw [if_pos (by rfl)]
          refine Cq.wapp1 (.tmp 18) (.tmp 21) hS6.out z8 rfl rfl rfl hlW ?_; intro o7 n7 c7 w7 hS7; have f7 := hS7.qb.frz 1; have d7 := hS7.qb.c1; (try dsimp only)
          refine hK.out _ _ ?_ (fun hHeld => ?_)
          · trivial
          clear hK K
          try simp only [Act.put, List.setIfInBounds_toArray, List.set_cons_zero, List.set_cons_succ]
          refine wpAnyH_take (i := 6) (oi := { dst := some 23, op := Op.fieldAddr 26 (Operand.tmp 2) 1, type := 0, pos := "certificate.go:60", after := #[{ on := 0, ground := Ground.phase }, { on := 1, ground := Ground.phase }, { on := 2, ground := Ground.phase }, { on := 3, ground := Ground.phase }, { on := 4, ground := Ground.phase }, { on := 5, ground := Ground.phase }], guard := none }) (v := ?_) rfl (by kernel_rfl) (by kernel_rfl) (by kernel_rfl) (fun _ _ _ h => h) (Or.inl ⟨by rfl, ?_⟩) (by assumption) ?_
          rotate_left
          · intro w hSw; (try dsimp only at hSw); go_simp <;> with_reducible rfl
          simp only [Act.put, List.setIfInBounds_toArray, List.set_cons_zero, List.set_cons_succ]
          refine wpAnyH_ready (rs := [7]) (by kernel_rfl) (by simp) ?_
          refine AllReadyH.cons (o := { dst := none, op := Op.store 22 (Operand.tmp 23) (Operand.tmp 22), type := 0, pos := "certificate.go:60", after := #[{ on := 6, ground := Ground.data }, { on := 5, ground := Ground.data }, { on := 5, ground := Ground.chain }, { on := 0, ground := Ground.phase }, { on := 1, ground := Ground.phase }, { on := 2, ground := Ground.phase }, { on := 3, ground := Ground.phase }, { on := 4, ground := Ground.phase }, { on := 5, ground := Ground.phase }], guard := none }) rfl (fun K hK => ?_) AllReadyH.nil
          go_simp
          refine hK.out _ _ ?_ (fun hHeld => ?_)
          · trivial
          clear hK K
          try simp only [Act.put, List.setIfInBounds_toArray, List.set_cons_zero, List.set_cons_succ]
          refine wpAnyH_done (by kernel_rfl) ?_ _
          skip
          have hS8 := hide' (hS7.put (hS7.qb.s1 (.slice o7 n7 c7)))
          clear hS7 f7 d7 hS6 c16 c17 c1d hSd
          have hS8d := hide' (hS8.out.over (Below.refl _ _).drew)
          have c28 := hS8d.out.qb.c2
          clear hS8
          go_wp2
          refine wp_region_held_drew (S := (fun _ => True)) (by kernel_rfl) ?_ (fun hHeld => ?_)
          · trivial
          refine wpAnyH_take (i := 0) (oi := { dst := some 24, op := Op.fieldAddr 26 (Operand.tmp 2) 2, type := 0, pos := "certificate.go:61", after := #[], guard := none }) (v := ?_) rfl (by kernel_rfl) (by kernel_rfl) (by kernel_rfl) (fun _ _ _ h => h) (Or.inl ⟨by rfl, ?_⟩) (by assumption) ?_
          rotate_left
          · intro w hSw; (try dsimp only at hSw); go_simp <;> with_reducible rfl
          simp only [Act.put, List.setIfInBounds_toArray, List.set_cons_zero, List.set_cons_succ]
          refine wpAnyH_take (i := 2) (oi := { dst := some 26, op := Op.move (Operand.tmp 0), type := 91, pos := "certificate.go:61", after := #[], guard := none }) (v := ?_) rfl (by kernel_rfl) (by kernel_rfl) (by kernel_rfl) (fun _ _ _ h => h) (Or.inl ⟨by rfl, ?_⟩) (by assumption) ?_
          rotate_left
          · intro w hSw; (try dsimp only at hSw); go_simp <;> with_reducible rfl
          simp only [Act.put, List.setIfInBounds_toArray, List.set_cons_zero, List.set_cons_succ]
          refine wpAnyH_ready (rs := [1, 3]) (by kernel_rfl) (by simp) ?_
          refine AllReadyH.cons (o := { dst := some 25, op := Op.load 23 (Operand.tmp 24), type := 23, pos := "certificate.go:61", after := #[{ on := 0, ground := Ground.data }], guard := none }) rfl (fun K hK => ?_) ?_
          · skip
            go_simp
            refine hK.out _ _ ?_ (fun hHeld => ?_)
            · trivial
            clear hK K
            try simp only [Act.put, List.setIfInBounds_toArray, List.set_cons_zero, List.set_cons_succ]
            refine wpAnyH_ready (rs := [3]) (by kernel_rfl) (by simp) ?_
            refine AllReadyH.cons (o := { dst := some 27, op := Op.call { callee := Callee.value (Operand.func 43), args := #[Operand.tmp 26], argTypes := #[91] }, type := 3, pos := "certificate.go:61", after := #[{ on := 2, ground := Ground.data }], guard := none }) rfl (fun K hK => ?_) AllReadyH.nil
            go_simp
            refine (K1.out _ _ _ _ hS8d.out).mono ?_; rintro e w9 ⟨rfl, v9, hS9⟩; have c29 := hS9.out.qb.c2; have c2a := (hS9.out.over ((Below.refl _ w9).alloc (Nat.le_refl _) (.cells #[.int .i64 (IntKind.i64.wrap ((zf : Int) + -1))] 3))).qb.c2; (try dsimp only)
            refine hK.out _ _ ?_ (fun hHeld => ?_)
            · trivial
            clear hK K
            try simp only [Act.put, List.setIfInBounds_toArray, List.set_cons_zero, List.set_cons_succ]
            refine wpAnyH_take (i := 4) (oi := { dst := some 28, op := Op.binOp BinOp.add 3 (Operand.tmp 27) (Operand.const (Value.int IntKind.i64 (-1))) 3, type := 3, pos := "certificate.go:61", after := #[{ on := 3, ground := Ground.data }], guard := none }) (v := ?_) rfl (by kernel_rfl) (by kernel_rfl) (by kernel_rfl) (fun _ _ _ h => h) (Or.inl ⟨by rfl, ?_⟩) (by assumption) ?_
            rotate_left
            · intro w hSw; (try dsimp only at hSw); go_simp <;> with_reducible rfl
            simp only [Act.put, List.setIfInBounds_toArray, List.set_cons_zero, List.set_cons_succ]
            refine wpAnyH_ready (rs := [5]) (by kernel_rfl) (by simp) ?_
            refine AllReadyH.cons (o := { dst := some 29, op := Op.buildSlice 23 1 #[(0, Operand.tmp 28)], type := 23, pos := "certificate.go:61", after := #[{ on := 4, ground := Ground.data }], guard := none }) rfl (fun K hK => ?_) AllReadyH.nil
            go_simp
            refine hK.out _ _ ?_ (fun hHeld => ?_)
            · trivial
            clear hK K
            try simp only [Act.put, List.setIfInBounds_toArray, List.set_cons_zero, List.set_cons_succ]
            refine wpAnyH_ready (rs := [6]) (by kernel_rfl) (by simp) ?_
            refine AllReadyH.cons (o := { dst := some 30, op := Op.call { callee := Callee.builtin Builtin.append, args := #[Operand.tmp 25, Operand.tmp 29], argTypes := #[23, 23] }, type := 23, pos := "certificate.go:61", after := #[{ on := 1, ground := Ground.data }, { on := 5, ground := Ground.data }, { on := 3, ground := Ground.chain }], guard := none }) rfl (fun K hK => ?_) AllReadyH.nil
            rw [if_pos (by rfl)]
            refine Cq.wapp2 (.tmp 25) (.tmp 29) hS9.out (IntKind.i64.wrap ((zf : Int) + -1)) rfl rfl rfl hlF ?_; intro oA nA cA wA hSA; have fA := hSA.qb.frz 2; have dA := hSA.qb.c2; (try dsimp only)
            refine hK.out _ _ ?_ (fun hHeld => ?_)
            · trivial
            clear hK K
            try simp only [Act.put, List.setIfInBounds_toArray, List.set_cons_zero, List.set_cons_succ]
            refine wpAnyH_take (i := 7) (oi := { dst := some 31, op := Op.fieldAddr 26 (Operand.tmp 2) 2, type := 0, pos := "certificate.go:61", after := #[{ on := 0, ground := Ground.phase }, { on := 1, ground := Ground.phase }, { on := 2, ground := Ground.phase }, { on := 3, ground := Ground.phase }, { on := 4, ground := Ground.phase }, { on := 5, ground := Ground.phase }, { on := 6, ground := Ground.phase }], guard := none }) (v := ?_) rfl (by kernel_rfl) (by kernel_rfl) (by kernel_rfl) (fun _ _ _ h => h) (Or.inl ⟨by rfl, ?_⟩) (by assumption) ?_
            rotate_left
            · intro w hSw; (try dsimp only at hSw); go_simp <;> with_reducible rfl
            simp only [Act.put, List.setIfInBounds_toArray, List.set_cons_zero, List.set_cons_succ]
            refine wpAnyH_ready (rs := [8]) (by kernel_rfl) (by simp) ?_
            refine AllReadyH.cons (o := { dst := none, op := Op.store 23 (Operand.tmp 31) (Operand.tmp 30), type := 0, pos := "certificate.go:61", after := #[{ on := 7, ground := Ground.data }, { on := 6, ground := Ground.data }, { on := 6, ground := Ground.chain }, { on := 0, ground := Ground.phase }, { on := 1, ground := Ground.phase }, { on := 2, ground := Ground.phase }, { on := 3, ground := Ground.phase }, { on := 4, ground := Ground.phase }, { on := 5, ground := Ground.phase }, { on := 6, ground := Ground.phase }], guard := none }) rfl (fun K hK => ?_) AllReadyH.nil
            go_simp
            refine hK.out _ _ ?_ (fun hHeld => ?_)
            · trivial
            clear hK K
            try simp only [Act.put, List.setIfInBounds_toArray, List.set_cons_zero, List.set_cons_succ]
            refine wpAnyH_done (by kernel_rfl) ?_ _
            skip
            have hSB := hide' (hSA.put (hSA.qb.s2 (.slice oA nA cA)))
            clear hSA fA dA hS9 c29 c2a hS8d c28
            go_wp2_with fail
            refine (K2.out _ _ _ _ _ _ hSB.out).mono ?_
            rintro e wC ⟨rfl, vC, hSC⟩
            go_wp2_with (at_builtin; refine wpList_plain rfl fun _ hK => Cq.wappP (.tmp 32) (.tmp 35) hSC.out (zp : Int) rfl rfl rfl hlP fun oD nD cD wD hSD => hK _ _ ?_; have hSE := hide' hSD; clear hSD)
            rw [hwz.out] at hSE
            obtain ⟨e1, e2, e3, e4⟩ := hNx.out
            exact ⟨⟨j + 1, .slice o7 n7 c7, .slice oA nA cA, vC, by omega, by go_num, by rw [e1, e2, e3, e4]; exact hSE⟩, by simp [intOf]; omega⟩
          refine AllReadyH.cons (o := { dst := some 27, op := Op.call { callee := Callee.value (Operand.func 43), args := #[Operand.tmp 26], argTypes := #[91] }, type := 3, pos := "certificate.go:61", after := #[{ on := 2, ground := Ground.data }], guard := none }) rfl (fun K hK => ?_) AllReadyH.nil
          go_simp
          refine (K1.out _ _ _ _ hS8d.out).mono ?_; rintro e w9 ⟨rfl, v9, hS9⟩; have c29 := hS9.out.qb.c2; have c2a := (hS9.out.over ((Below.refl _ w9).alloc (Nat.le_refl _) (.cells #[.int .i64 (IntKind.i64.wrap ((zf : Int) + -1))] 3))).qb.c2; (try dsimp only)
          refine hK.out _ _ ?_ (fun hHeld => ?_)
          · trivial
          clear hK K
          try simp only [Act.put, List.setIfInBounds_toArray, List.set_cons_zero, List.set_cons_succ]
          refine wpAnyH_take (i := 4) (oi := { dst := some 28, op := Op.binOp BinOp.add 3 (Operand.tmp 27) (Operand.const (Value.int IntKind.i64 (-1))) 3, type := 3, pos := "certificate.go:61", after := #[{ on := 3, ground := Ground.data }], guard := none }) (v := ?_) rfl (by kernel_rfl) (by kernel_rfl) (by kernel_rfl) (fun _ _ _ h => h) (Or.inl ⟨by rfl, ?_⟩) (by assumption) ?_
          rotate_left
          · intro w hSw; (try dsimp only at hSw); go_simp <;> with_reducible rfl
          simp only [Act.put, List.setIfInBounds_toArray, List.set_cons_zero, List.set_cons_succ]
          refine wpAnyH_ready (rs := [1, 5]) (by kernel_rfl) (by simp) ?_
          refine AllReadyH.cons (o := { dst := some 25, op := Op.load 23 (Operand.tmp 24), type := 23, pos := "certificate.go:61", after := #[{ on := 0, ground := Ground.data }], guard := none }) rfl (fun K hK => ?_) ?_
          · skip
            go_simp
            refine hK.out _ _ ?_ (fun hHeld => ?_)
            · trivial
            clear hK K
            try simp only [Act.put, List.setIfInBounds_toArray, List.set_cons_zero, List.set_cons_succ]
            refine wpAnyH_ready (rs := [5]) (by kernel_rfl) (by simp) ?_
            refine AllReadyH.cons (o := { dst := some 29, op := Op.buildSlice 23 1 #[(0, Operand.tmp 28)], type := 23, pos := "certificate.go:61", after := #[{ on := 4, ground := Ground.data }], guard := none }) rfl (fun K hK => ?_) AllReadyH.nil
            go_simp
            refine hK.out _ _ ?_ (fun hHeld => ?_)
            · trivial
            clear hK K
            try simp only [Act.put, List.setIfInBounds_toArray, List.set_cons_zero, List.set_cons_succ]
            refine wpAnyH_ready (rs := [6]) (by kernel_rfl) (by simp) ?_
            refine AllReadyH.cons (o := { dst := some 30, op := Op.call { callee := Callee.builtin Builtin.append, args := #[Operand.tmp 25, Operand.tmp 29], argTypes := #[23, 23] }, type := 23, pos := "certificate.go:61", after := #[{ on := 1, ground := Ground.data }, { on := 5, ground := Ground.data }, { on := 3, ground := Ground.chain }], guard := none }) rfl (fun K hK => ?_) AllReadyH.nil
            rw [if_pos (by rfl)]
            refine Cq.wapp2 (.tmp 25) (.tmp 29) hS9.out (IntKind.i64.wrap ((zf : Int) + -1)) rfl rfl rfl hlF ?_; intro oA nA cA wA hSA; have fA := hSA.qb.frz 2; have dA := hSA.qb.c2; (try dsimp only)
            refine hK.out _ _ ?_ (fun hHeld => ?_)
            · trivial
            clear hK K
            try simp only [Act.put, List.setIfInBounds_toArray, List.set_cons_zero, List.set_cons_succ]
            refine wpAnyH_take (i := 7) (oi := { dst := some 31, op := Op.fieldAddr 26 (Operand.tmp 2) 2, type := 0, pos := "certificate.go:61", after := #[{ on := 0, ground := Ground.phase }, { on := 1, ground := Ground.phase }, { on := 2, ground := Ground.phase }, { on := 3, ground := Ground.phase }, { on := 4, ground := Ground.phase }, { on := 5, ground := Ground.phase }, { on := 6, ground := Ground.phase }], guard := none }) (v := ?_) rfl (by kernel_rfl) (by kernel_rfl) (by kernel_rfl) (fun _ _ _ h => h) (Or.inl ⟨by rfl, ?_⟩) (by assumption) ?_
            rotate_left
            · intro w hSw; (try dsimp only at hSw); go_simp <;> with_reducible rfl
            simp only [Act.put, List.setIfInBounds_toArray, List.set_cons_zero, List.set_cons_succ]
            refine wpAnyH_ready (rs := [8]) (by kernel_rfl) (by simp) ?_
            refine AllReadyH.cons (o := { dst := none, op := Op.store 23 (Operand.tmp 31) (Operand.tmp 30), type := 0, pos := "certificate.go:61", after := #[{ on := 7, ground := Ground.data }, { on := 6, ground := Ground.data }, { on := 6, ground := Ground.chain }, { on := 0, ground := Ground.phase }, { on := 1, ground := Ground.phase }, { on := 2, ground := Ground.phase }, { on := 3, ground := Ground.phase }, { on := 4, ground := Ground.phase }, { on := 5, ground := Ground.phase }, { on := 6, ground := Ground.phase }], guard := none }) rfl (fun K hK => ?_) AllReadyH.nil
            go_simp
            refine hK.out _ _ ?_ (fun hHeld => ?_)
            · trivial
            clear hK K
            try simp only [Act.put, List.setIfInBounds_toArray, List.set_cons_zero, List.set_cons_succ]
            refine wpAnyH_done (by kernel_rfl) ?_ _
            skip
            have hSB := hide' (hSA.put (hSA.qb.s2 (.slice oA nA cA)))
            clear hSA fA dA hS9 c29 c2a hS8d c28
            go_wp2_with fail
            refine (K2.out _ _ _ _ _ _ hSB.out).mono ?_
            rintro e wC ⟨rfl, vC, hSC⟩
            go_wp2_with (at_builtin; refine wpList_plain rfl fun _ hK => Cq.wappP (.tmp 32) (.tmp 35) hSC.out (zp : Int) rfl rfl rfl hlP fun oD nD cD wD hSD => hK _ _ ?_; have hSE := hide' hSD; clear hSD)
            rw [hwz.out] at hSE
            obtain ⟨e1, e2, e3, e4⟩ := hNx.out
            exact ⟨⟨j + 1, .slice o7 n7 c7, .slice oA nA cA, vC, by omega, by go_num, by rw [e1, e2, e3, e4]; exact hSE⟩, by simp [intOf]; omega⟩
          refine AllReadyH.cons (o := { dst := some 29, op := Op.buildSlice 23 1 #[(0, Operand.tmp 28)], type := 23, pos := "certificate.go:61", after := #[{ on := 4, ground := Ground.data }], guard := none }) rfl (fun K hK => ?_) AllReadyH.nil
          go_simp
          refine hK.out _ _ ?_ (fun hHeld => ?_)
          · trivial
          clear hK K
          try simp only [Act.put, List.setIfInBounds_toArray, List.set_cons_zero, List.set_cons_succ]
          refine wpAnyH_ready (rs := [1]) (by kernel_rfl) (by simp) ?_
          refine AllReadyH.cons (o := { dst := some 25, op := Op.load 23 (Operand.tmp 24), type := 23, pos := "certificate.go:61", after := #[{ on := 0, ground := Ground.data }], guard := none }) rfl (fun K hK => ?_) AllReadyH.nil
          go_simp
          refine hK.out _ _ ?_ (fun hHeld => ?_)
          · trivial
          clear hK K
          try simp only [Act.put, List.setIfInBounds_toArray, List.set_cons_zero, List.set_cons_succ]
          refine wpAnyH_ready (rs := [6]) (by kernel_rfl) (by simp) ?_
          refine AllReadyH.cons (o := { dst := some 30, op := Op.call { callee := Callee.builtin Builtin.append, args := #[Operand.tmp 25, Operand.tmp 29], argTypes := #[23, 23] }, type := 23, pos := "certificate.go:61", after := #[{ on := 1, ground := Ground.data }, { on := 5, ground := Ground.data }, { on := 3, ground := Ground.chain }], guard := none }) rfl (fun K hK => ?_) AllReadyH.nil
          rw [if_pos (by rfl)]
          refine Cq.wapp2 (.tmp 25) (.tmp 29) hS9.out (IntKind.i64.wrap ((zf : Int) + -1)) rfl rfl rfl hlF ?_; intro oA nA cA wA hSA; have fA := hSA.qb.frz 2; have dA := hSA.qb.c2; (try dsimp only)
          refine hK.out _ _ ?_ (fun hHeld => ?_)
          · trivial
          clear hK K
          try simp only [Act.put, List.setIfInBounds_toArray, List.set_cons_zero, List.set_cons_succ]
          refine wpAnyH_take (i := 7) (oi := { dst := some 31, op := Op.fieldAddr 26 (Operand.tmp 2) 2, type := 0, pos := "certificate.go:61", after := #[{ on := 0, ground := Ground.phase }, { on := 1, ground := Ground.phase }, { on := 2, ground := Ground.phase }, { on := 3, ground := Ground.phase }, { on := 4, ground := Ground.phase }, { on := 5, ground := Ground.phase }, { on := 6, ground := Ground.phase }], guard := none }) (v := ?_) rfl (by kernel_rfl) (by kernel_rfl) (by kernel_rfl) (fun _ _ _ h => h) (Or.inl ⟨by rfl, ?_⟩) (by assumption) ?_
          rotate_left
          · intro w hSw; (try dsimp only at hSw); go_simp <;> with_reducible rfl
          simp only [Act.put, List.setIfInBounds_toArray, List.set_cons_zero, List.set_cons_succ]
          refine wpAnyH_ready (rs := [8]) (by kernel_rfl) (by simp) ?_
          refine AllReadyH.cons (o := { dst := none, op := Op.store 23 (Operand.tmp 31) (Operand.tmp 30), type := 0, pos := "certificate.go:61", after := #[{ on := 7, ground := Ground.data }, { on := 6, ground := Ground.data }, { on := 6, ground := Ground.chain }, { on := 0, ground := Ground.phase }, { on := 1, ground := Ground.phase }, { on := 2, ground := Ground.phase }, { on := 3, ground := Ground.phase }, { on := 4, ground := Ground.phase }, { on := 5, ground := Ground.phase }, { on := 6, ground := Ground.phase }], guard := none }) rfl (fun K hK => ?_) AllReadyH.nil
          go_simp
          refine hK.out _ _ ?_ (fun hHeld => ?_)
          · trivial
          clear hK K
          try simp only [Act.put, List.setIfInBounds_toArray, List.set_cons_zero, List.set_cons_succ]
          refine wpAnyH_done (by kernel_rfl) ?_ _
          skip
          have hSB := hide' (hSA.put (hSA.qb.s2 (.slice oA nA cA)))
          clear hSA fA dA hS9 c29 c2a hS8d c28
          go_wp2_with fail
          refine (K2.out _ _ _ _ _ _ hSB.out).mono ?_
          rintro e wC ⟨rfl, vC, hSC⟩
          go_wp2_with (at_builtin; refine wpList_plain rfl fun _ hK => Cq.wappP (.tmp 32) (.tmp 35) hSC.out (zp : Int) rfl rfl rfl hlP fun oD nD cD wD hSD => hK _ _ ?_; have hSE := hide' hSD; clear hSD)
          rw [hwz.out] at hSE
          obtain ⟨e1, e2, e3, e4⟩ := hNx.out
          exact ⟨⟨j + 1, .slice o7 n7 c7, .slice oA nA cA, vC, by omega, by go_num, by rw [e1, e2, e3, e4]; exact hSE⟩, by simp [intOf]; omega⟩
        refine AllReadyH.cons (o := { dst := some 20, op := Op.call { callee := Callee.value (Operand.func 42), args := #[Operand.tmp 19, Operand.const (Value.int IntKind.i64 8)], argTypes := #[91, 3] }, type := 48, pos := "certificate.go:60", after := #[{ on := 2, ground := Ground.data }], guard := none }) rfl (fun K hK => ?_) AllReadyH.nil
        go_simp
        refine K8.out.mono ?_; rintro e w6 ⟨rfl, v6, hS6⟩; have c16 := hS6.out.qb.c1; have c17 := (hS6.out.over ((Below.refl _ w6).alloc (Nat.le_refl _) (.cells #[.int .u64 (z8 : Int)] 48))).qb.c1; (try dsimp only)
        refine hK.out _ _ ?_ (fun hHeld => ?_)
        · trivial
        clear hK K
        try simp only [Act.put, List.setIfInBounds_toArray, List.set_cons_zero, List.set_cons_succ]
        refine wpAnyH_ready (rs := [1, 4]) (by kernel_rfl) (by simp) ?_
        refine AllReadyH.cons (o := { dst := some 18, op := Op.load 22 (Operand.tmp 17), type := 22, pos := "certificate.go:60", after := #[{ on := 0, ground := Ground.data }], guard := none }) rfl (fun K hK => ?_) ?_
        · skip
          go_simp
          refine hK.out _ _ ?_ (fun hHeld => ?_)
          · trivial
          clear hK K
          try simp only [Act.put, List.setIfInBounds_toArray, List.set_cons_zero, List.set_cons_succ]
          refine wpAnyH_ready (rs := [4]) (by kernel_rfl) (by simp) ?_
          refine AllReadyH.cons (o := { dst := some 21, op := Op.buildSlice 22 1 #[(0, Operand.tmp 20)], type := 22, pos := "certificate.go:60", after := #[{ on := 3, ground := Ground.data }], guard := none }) rfl (fun K hK => ?_) AllReadyH.nil
          go_simp
          refine hK.out _ _ ?_ (fun hHeld => ?_)
          · trivial
          clear hK K
          try simp only [Act.put, List.setIfInBounds_toArray, List.set_cons_zero, List.set_cons_succ]
          refine wpAnyH_ready (rs := [5]) (by kernel_rfl) (by simp) ?_
          refine AllReadyH.cons (o := { dst := some 22, op := Op.call { callee := Callee.builtin Builtin.append, args := #[Operand.tmp 18, Operand.tmp 21], argTypes := #[22, 22] }, type := 22, pos := "certificate.go:60", after := #[{ on := 1, ground := Ground.data }, { on := 4, ground := Ground.data }, { on := 3, ground := Ground.chain }], guard := none }) rfl (fun K hK => ?_) AllReadyH.nil
          rw [if_pos (by rfl)]
          refine Cq.wapp1 (.tmp 18) (.tmp 21) hS6.out z8 rfl rfl rfl hlW ?_; intro o7 n7 c7 w7 hS7; have f7 := hS7.qb.frz 1; have d7 := hS7.qb.c1; (try dsimp only)
          refine hK.out _ _ ?_ (fun hHeld => ?_)
          · trivial
          clear hK K
          try simp only [Act.put, List.setIfInBounds_toArray, List.set_cons_zero, List.set_cons_succ]
          refine wpAnyH_take (i := 6) (oi := { dst := some 23, op := Op.fieldAddr 26 (Operand.tmp 2) 1, type := 0, pos := "certificate.go:60", after := #[{ on := 0, ground := Ground.phase }, { on := 1, ground := Ground.phase }, { on := 2, ground := Ground.phase }, { on := 3, ground := Ground.phase }, { on := 4, ground := Ground.phase }, { on := 5, ground := Ground.phase }], guard := none }) (v := ?_) rfl (by kernel_rfl) (by kernel_rfl) (by kernel_rfl) (fun _ _ _ h => h) (Or.inl ⟨by rfl, ?_⟩) (by assumption) ?_
          rotate_left
          · intro w hSw; (try dsimp only at hSw); go_simp <;> with_reducible rfl
          simp only [Act.put, List.setIfInBounds_toArray, List.set_cons_zero, List.set_cons_succ]
          refine wpAnyH_ready (rs := [7]) (by kernel_rfl) (by simp) ?_
          refine AllReadyH.cons (o := { dst := none, op := Op.store 22 (Operand.tmp 23) (Operand.tmp 22), type := 0, pos := "certificate.go:60", after := #[{ on := 6, ground := Ground.data }, { on := 5, ground := Ground.data }, { on := 5, ground := Ground.chain }, { on := 0, ground := Ground.phase }, { on := 1, ground := Ground.phase }, { on := 2, ground := Ground.phase }, { on := 3, ground := Ground.phase }, { on := 4, ground := Ground.phase }, { on := 5, ground := Ground.phase }], guard := none }) rfl (fun K hK => ?_) AllReadyH.nil
          go_simp
          refine hK.out _ _ ?_ (fun hHeld => ?_)
          · trivial
          clear hK K
          try simp only [Act.put, List.setIfInBounds_toArray, List.set_cons_zero, List.set_cons_succ]
          refine wpAnyH_done (by kernel_rfl) ?_ _
          skip
          have hS8 := hide' (hS7.put (hS7.qb.s1 (.slice o7 n7 c7)))
          clear hS7 f7 d7 hS6 c16 c17 c1d hSd
          have hS8d := hide' (hS8.out.over (Below.refl _ _).drew)
          have c28 := hS8d.out.qb.c2
          clear hS8
          go_wp2
          refine wp_region_held_drew (S := (fun _ => True)) (by kernel_rfl) ?_ (fun hHeld => ?_)
          · trivial
          refine wpAnyH_take (i := 0) (oi := { dst := some 24, op := Op.fieldAddr 26 (Operand.tmp 2) 2, type := 0, pos := "certificate.go:61", after := #[], guard := none }) (v := ?_) rfl (by kernel_rfl) (by kernel_rfl) (by kernel_rfl) (fun _ _ _ h => h) (Or.inl ⟨by rfl, ?_⟩) (by assumption) ?_
          rotate_left
          · intro w hSw; (try dsimp only at hSw); go_simp <;> with_reducible rfl
          simp only [Act.put, List.setIfInBounds_toArray, List.set_cons_zero, List.set_cons_succ]
          refine wpAnyH_take (i := 2) (oi := { dst := some 26, op := Op.move (Operand.tmp 0), type := 91, pos := "certificate.go:61", after := #[], guard := none }) (v := ?_) rfl (by kernel_rfl) (by kernel_rfl) (by kernel_rfl) (fun _ _ _ h => h) (Or.inl ⟨by rfl, ?_⟩) (by assumption) ?_
          rotate_left
          · intro w hSw; (try dsimp only at hSw); go_simp <;> with_reducible rfl
          simp only [Act.put, List.setIfInBounds_toArray, List.set_cons_zero, List.set_cons_succ]
          refine wpAnyH_ready (rs := [1, 3]) (by kernel_rfl) (by simp) ?_
          refine AllReadyH.cons (o := { dst := some 25, op := Op.load 23 (Operand.tmp 24), type := 23, pos := "certificate.go:61", after := #[{ on := 0, ground := Ground.data }], guard := none }) rfl (fun K hK => ?_) ?_
          · skip
            go_simp
            refine hK.out _ _ ?_ (fun hHeld => ?_)
            · trivial
            clear hK K
            try simp only [Act.put, List.setIfInBounds_toArray, List.set_cons_zero, List.set_cons_succ]
            refine wpAnyH_ready (rs := [3]) (by kernel_rfl) (by simp) ?_
            refine AllReadyH.cons (o := { dst := some 27, op := Op.call { callee := Callee.value (Operand.func 43), args := #[Operand.tmp 26], argTypes := #[91] }, type := 3, pos := "certificate.go:61", after := #[{ on := 2, ground := Ground.data }], guard := none }) rfl (fun K hK => ?_) AllReadyH.nil
            go_simp
            refine (K1.out _ _ _ _ hS8d.out).mono ?_; rintro e w9 ⟨rfl, v9, hS9⟩; have c29 := hS9.out.qb.c2; have c2a := (hS9.out.over ((Below.refl _ w9).alloc (Nat.le_refl _) (.cells #[.int .i64 (IntKind.i64.wrap ((zf : Int) + -1))] 3))).qb.c2; (try dsimp only)
            refine hK.out _ _ ?_ (fun hHeld => ?_)
            · trivial
            clear hK K
            try simp only [Act.put, List.setIfInBounds_toArray, List.set_cons_zero, List.set_cons_succ]
            refine wpAnyH_take (i := 4) (oi := { dst := some 28, op := Op.binOp BinOp.add 3 (Operand.tmp 27) (Operand.const (Value.int IntKind.i64 (-1))) 3, type := 3, pos := "certificate.go:61", after := #[{ on := 3, ground := Ground.data }], guard := none }) (v := ?_) rfl (by kernel_rfl) (by kernel_rfl) (by kernel_rfl) (fun _ _ _ h => h) (Or.inl ⟨by rfl, ?_⟩) (by assumption) ?_
            rotate_left
            · intro w hSw; (try dsimp only at hSw); go_simp <;> with_reducible rfl
            simp only [Act.put, List.setIfInBounds_toArray, List.set_cons_zero, List.set_cons_succ]
            refine wpAnyH_ready (rs := [5]) (by kernel_rfl) (by simp) ?_
            refine AllReadyH.cons (o := { dst := some 29, op := Op.buildSlice 23 1 #[(0, Operand.tmp 28)], type := 23, pos := "certificate.go:61", after := #[{ on := 4, ground := Ground.data }], guard := none }) rfl (fun K hK => ?_) AllReadyH.nil
            go_simp
            refine hK.out _ _ ?_ (fun hHeld => ?_)
            · trivial
            clear hK K
            try simp only [Act.put, List.setIfInBounds_toArray, List.set_cons_zero, List.set_cons_succ]
            refine wpAnyH_ready (rs := [6]) (by kernel_rfl) (by simp) ?_
            refine AllReadyH.cons (o := { dst := some 30, op := Op.call { callee := Callee.builtin Builtin.append, args := #[Operand.tmp 25, Operand.tmp 29], argTypes := #[23, 23] }, type := 23, pos := "certificate.go:61", after := #[{ on := 1, ground := Ground.data }, { on := 5, ground := Ground.data }, { on := 3, ground := Ground.chain }], guard := none }) rfl (fun K hK => ?_) AllReadyH.nil
            rw [if_pos (by rfl)]
            refine Cq.wapp2 (.tmp 25) (.tmp 29) hS9.out (IntKind.i64.wrap ((zf : Int) + -1)) rfl rfl rfl hlF ?_; intro oA nA cA wA hSA; have fA := hSA.qb.frz 2; have dA := hSA.qb.c2; (try dsimp only)
            refine hK.out _ _ ?_ (fun hHeld => ?_)
            · trivial
            clear hK K
            try simp only [Act.put, List.setIfInBounds_toArray, List.set_cons_zero, List.set_cons_succ]
            refine wpAnyH_take (i := 7) (oi := { dst := some 31, op := Op.fieldAddr 26 (Operand.tmp 2) 2, type := 0, pos := "certificate.go:61", after := #[{ on := 0, ground := Ground.phase }, { on := 1, ground := Ground.phase }, { on := 2, ground := Ground.phase }, { on := 3, ground := Ground.phase }, { on := 4, ground := Ground.phase }, { on := 5, ground := Ground.phase }, { on := 6, ground := Ground.phase }], guard := none }) (v := ?_) rfl (by kernel_rfl) (by kernel_rfl) (by kernel_rfl) (fun _ _ _ h => h) (Or.inl ⟨by rfl, ?_⟩) (by assumption) ?_
            rotate_left
            · intro w hSw; (try dsimp only at hSw); go_simp <;> with_reducible rfl
            simp only [Act.put, List.setIfInBounds_toArray, List.set_cons_zero, List.set_cons_succ]
            refine wpAnyH_ready (rs := [8]) (by kernel_rfl) (by simp) ?_
            refine AllReadyH.cons (o := { dst := none, op := Op.store 23 (Operand.tmp 31) (Operand.tmp 30), type := 0, pos := "certificate.go:61", after := #[{ on := 7, ground := Ground.data }, { on := 6, ground := Ground.data }, { on := 6, ground := Ground.chain }, { on := 0, ground := Ground.phase }, { on := 1, ground := Ground.phase }, { on := 2, ground := Ground.phase }, { on := 3, ground := Ground.phase }, { on := 4, ground := Ground.phase }, { on := 5, ground := Ground.phase }, { on := 6, ground := Ground.phase }], guard := none }) rfl (fun K hK => ?_) AllReadyH.nil
            go_simp
            refine hK.out _ _ ?_ (fun hHeld => ?_)
            · trivial
            clear hK K
            try simp only [Act.put, List.setIfInBounds_toArray, List.set_cons_zero, List.set_cons_succ]
            refine wpAnyH_done (by kernel_rfl) ?_ _
            skip
            have hSB := hide' (hSA.put (hSA.qb.s2 (.slice oA nA cA)))
            clear hSA fA dA hS9 c29 c2a hS8d c28
            go_wp2_with fail
            refine (K2.out _ _ _ _ _ _ hSB.out).mono ?_
            rintro e wC ⟨rfl, vC, hSC⟩
            go_wp2_with (at_builtin; refine wpList_plain rfl fun _ hK => Cq.wappP (.tmp 32) (.tmp 35) hSC.out (zp : Int) rfl rfl rfl hlP fun oD nD cD wD hSD => hK _ _ ?_; have hSE := hide' hSD; clear hSD)
            rw [hwz.out] at hSE
            obtain ⟨e1, e2, e3, e4⟩ := hNx.out
            exact ⟨⟨j + 1, .slice o7 n7 c7, .slice oA nA cA, vC, by omega, by go_num, by rw [e1, e2, e3, e4]; exact hSE⟩, by simp [intOf]; omega⟩
          refine AllReadyH.cons (o := { dst := some 27, op := Op.call { callee := Callee.value (Operand.func 43), args := #[Operand.tmp 26], argTypes := #[91] }, type := 3, pos := "certificate.go:61", after := #[{ on := 2, ground := Ground.data }], guard := none }) rfl (fun K hK => ?_) AllReadyH.nil
          go_simp
          refine (K1.out _ _ _ _ hS8d.out).mono ?_; rintro e w9 ⟨rfl, v9, hS9⟩; have c29 := hS9.out.qb.c2; have c2a := (hS9.out.over ((Below.refl _ w9).alloc (Nat.le_refl _) (.cells #[.int .i64 (IntKind.i64.wrap ((zf : Int) + -1))] 3))).qb.c2; (try dsimp only)
          refine hK.out _ _ ?_ (fun hHeld => ?_)
          · trivial
          clear hK K
          try simp only [Act.put, List.setIfInBounds_toArray, List.set_cons_zero, List.set_cons_succ]
          refine wpAnyH_take (i := 4) (oi := { dst := some 28, op := Op.binOp BinOp.add 3 (Operand.tmp 27) (Operand.const (Value.int IntKind.i64 (-1))) 3, type := 3, pos := "certificate.go:61", after := #[{ on := 3, ground := Ground.data }], guard := none }) (v := ?_) rfl (by kernel_rfl) (by kernel_rfl) (by kernel_rfl) (fun _ _ _ h => h) (Or.inl ⟨by rfl, ?_⟩) (by assumption) ?_
          rotate_left
          · intro w hSw; (try dsimp only at hSw); go_simp <;> with_reducible rfl
          simp only [Act.put, List.setIfInBounds_toArray, List.set_cons_zero, List.set_cons_succ]
          refine wpAnyH_ready (rs := [1, 5]) (by kernel_rfl) (by simp) ?_
          refine AllReadyH.cons (o := { dst := some 25, op := Op.load 23 (Operand.tmp 24), type := 23, pos := "certificate.go:61", after := #[{ on := 0, ground := Ground.data }], guard := none }) rfl (fun K hK => ?_) ?_
          · skip
            go_simp
            refine hK.out _ _ ?_ (fun hHeld => ?_)
            · trivial
            clear hK K
            try simp only [Act.put, List.setIfInBounds_toArray, List.set_cons_zero, List.set_cons_succ]
            refine wpAnyH_ready (rs := [5]) (by kernel_rfl) (by simp) ?_
            refine AllReadyH.cons (o := { dst := some 29, op := Op.buildSlice 23 1 #[(0, Operand.tmp 28)], type := 23, pos := "certificate.go:61", after := #[{ on := 4, ground := Ground.data }], guard := none }) rfl (fun K hK => ?_) AllReadyH.nil
            go_simp
            refine hK.out _ _ ?_ (fun hHeld => ?_)
            · trivial
            clear hK K
            try simp only [Act.put, List.setIfInBounds_toArray, List.set_cons_zero, List.set_cons_succ]
            refine wpAnyH_ready (rs := [6]) (by kernel_rfl) (by simp) ?_
            refine AllReadyH.cons (o := { dst := some 30, op := Op.call { callee := Callee.builtin Builtin.append, args := #[Operand.tmp 25, Operand.tmp 29], argTypes := #[23, 23] }, type := 23, pos := "certificate.go:61", after := #[{ on := 1, ground := Ground.data }, { on := 5, ground := Ground.data }, { on := 3, ground := Ground.chain }], guard := none }) rfl (fun K hK => ?_) AllReadyH.nil
            rw [if_pos (by rfl)]
            refine Cq.wapp2 (.tmp 25) (.tmp 29) hS9.out (IntKind.i64.wrap ((zf : Int) + -1)) rfl rfl rfl hlF ?_; intro oA nA cA wA hSA; have fA := hSA.qb.frz 2; have dA := hSA.qb.c2; (try dsimp only)
            refine hK.out _ _ ?_ (fun hHeld => ?_)
            · trivial
            clear hK K
            try simp only [Act.put, List.setIfInBounds_toArray, List.set_cons_zero, List.set_cons_succ]
            refine wpAnyH_take (i := 7) (oi := { dst := some 31, op := Op.fieldAddr 26 (Operand.tmp 2) 2, type := 0, pos := "certificate.go:61", after := #[{ on := 0, ground := Ground.phase }, { on := 1, ground := Ground.phase }, { on := 2, ground := Ground.phase }, { on := 3, ground := Ground.phase }, { on := 4, ground := Ground.phase }, { on := 5, ground := Ground.phase }, { on := 6, ground := Ground.phase }], guard := none }) (v := ?_) rfl (by kernel_rfl) (by kernel_rfl) (by kernel_rfl) (fun _ _ _ h => h) (Or.inl ⟨by rfl, ?_⟩) (by assumption) ?_
            rotate_left
            · intro w hSw; (try dsimp only at hSw); go_simp <;> with_reducible rfl
            simp only [Act.put, List.setIfInBounds_toArray, List.set_cons_zero, List.set_cons_succ]
            refine wpAnyH_ready (rs := [8]) (by kernel_rfl) (by simp) ?_
            refine AllReadyH.cons (o := { dst := none, op := Op.store 23 (Operand.tmp 31) (Operand.tmp 30), type := 0, pos := "certificate.go:61", after := #[{ on := 7, ground := Ground.data }, { on := 6, ground := Ground.data }, { on := 6, ground := Ground.chain }, { on := 0, ground := Ground.phase }, { on := 1, ground := Ground.phase }, { on := 2, ground := Ground.phase }, { on := 3, ground := Ground.phase }, { on := 4, ground := Ground.phase }, { on := 5, ground := Ground.phase }, { on := 6, ground := Ground.phase }], guard := none }) rfl (fun K hK => ?_) AllReadyH.nil
            go_simp
            refine hK.out _ _ ?_ (fun hHeld => ?_)
            · trivial
            clear hK K
            try simp only [Act.put, List.setIfInBounds_toArray, List.set_cons_zero, List.set_cons_succ]
            refine wpAnyH_done (by kernel_rfl) ?_ _
            skip
            have hSB := hide' (hSA.put (hSA.qb.s2 (.slice oA nA cA)))
            clear hSA fA dA hS9 c29 c2a hS8d c28
            go_wp2_with fail
            refine (K2.out _ _ _ _ _ _ hSB.out).mono ?_
            rintro e wC ⟨rfl, vC, hSC⟩
            go_wp2_with (at_builtin; refine wpList_plain rfl fun _ hK => Cq.wappP (.tmp 32) (.tmp 35) hSC.out (zp : Int) rfl rfl rfl hlP fun oD nD cD wD hSD => hK _ _ ?_; have hSE := hide' hSD; clear hSD)
            rw [hwz.out] at hSE
            obtain ⟨e1, e2, e3, e4⟩ := hNx.out
            exact ⟨⟨j + 1, .slice o7 n7 c7, .slice oA nA cA, vC, by omega, by go_num, by rw [e1, e2, e3, e4]; exact hSE⟩, by simp [intOf]; omega⟩
          refine AllReadyH.cons (o := { dst := some 29, op := Op.buildSlice 23 1 #[(0, Operand.tmp 28)], type := 23, pos := "certificate.go:61", after := #[{ on := 4, ground := Ground.data }], guard := none }) rfl (fun K hK => ?_) AllReadyH.nil
          go_simp
          refine hK.out _ _ ?_ (fun hHeld => ?_)
          · trivial
          clear hK K
          try simp only [Act.put, List.setIfInBounds_toArray, List.set_cons_zero, List.set_cons_succ]
          refine wpAnyH_ready (rs := [1]) (by kernel_rfl) (by simp) ?_
          refine AllReadyH.cons (o := { dst := some 25, op := Op.load 23 (Operand.tmp 24), type := 23, pos := "certificate.go:61", after := #[{ on := 0, ground := Ground.data }], guard := none }) rfl (fun K hK => ?_) AllReadyH.nil
          go_simp
          refine hK.out _ _ ?_ (fun hHeld => ?_)
          · trivial
          clear hK K
          try simp only [Act.put, List.setIfInBounds_toArray, List.set_cons_zero, List.set_cons_succ]
          refine wpAnyH_ready (rs := [6]) (by kernel_rfl) (by simp) ?_
          refine AllReadyH.cons (o := { dst := some 30, op := Op.call { callee := Callee.builtin Builtin.append, args := #[Operand.tmp 25, Operand.tmp 29], argTypes := #[23, 23] }, type := 23, pos := "certificate.go:61", after := #[{ on := 1, ground := Ground.data }, { on := 5, ground := Ground.data }, { on := 3, ground := Ground.chain }], guard := none }) rfl (fun K hK => ?_) AllReadyH.nil
          rw [if_pos (by rfl)]
          refine Cq.wapp2 (.tmp 25) (.tmp 29) hS9.out (IntKind.i64.wrap ((zf : Int) + -1)) rfl rfl rfl hlF ?_; intro oA nA cA wA hSA; have fA := hSA.qb.frz 2; have dA := hSA.qb.c2; (try dsimp only)
          refine hK.out _ _ ?_ (fun hHeld => ?_)
          · trivial
          clear hK K
          try simp only [Act.put, List.setIfInBounds_toArray, List.set_cons_zero, List.set_cons_succ]
          refine wpAnyH_take (i := 7) (oi := { dst := some 31, op := Op.fieldAddr 26 (Operand.tmp 2) 2, type := 0, pos := "certificate.go:61", after := #[{ on := 0, ground := Ground.phase }, { on := 1, ground := Ground.phase }, { on := 2, ground := Ground.phase }, { on := 3, ground := Ground.phase }, { on := 4, ground := Ground.phase }, { on := 5, ground := Ground.phase }, { on := 6, ground := Ground.phase }], guard := none }) (v := ?_) rfl (by kernel_rfl) (by kernel_rfl) (by kernel_rfl) (fun _ _ _ h => h) (Or.inl ⟨by rfl, ?_⟩) (by assumption) ?_
          rotate_left
          · intro w hSw; (try dsimp only at hSw); go_simp <;> with_reducible rfl
          simp only [Act.put, List.setIfInBounds_toArray, List.set_cons_zero, List.set_cons_succ]
          refine wpAnyH_ready (rs := [8]) (by kernel_rfl) (by simp) ?_
          refine AllReadyH.cons (o := { dst := none, op := Op.store 23 (Operand.tmp 31) (Operand.tmp 30), type := 0, pos := "certificate.go:61", after := #[{ on := 7, ground := Ground.data }, { on := 6, ground := Ground.data }, { on := 6, ground := Ground.chain }, { on := 0, ground := Ground.phase }, { on := 1, ground := Ground.phase }, { on := 2, ground := Ground.phase }, { on := 3, ground := Ground.phase }, { on := 4, ground := Ground.phase }, { on := 5, ground := Ground.phase }, { on := 6, ground := Ground.phase }], guard := none }) rfl (fun K hK => ?_) AllReadyH.nil
          go_simp
          refine hK.out _ _ ?_ (fun hHeld => ?_)
          · trivial
          clear hK K
          try simp only [Act.put, List.setIfInBounds_toArray, List.set_cons_zero, List.set_cons_succ]
          refine wpAnyH_done (by kernel_rfl) ?_ _
          skip
          have hSB := hide' (hSA.put (hSA.qb.s2 (.slice oA nA cA)))
          clear hSA fA dA hS9 c29 c2a hS8d c28
          go_wp2_with fail
          refine (K2.out _ _ _ _ _ _ hSB.out).mono ?_
          rintro e wC ⟨rfl, vC, hSC⟩
          go_wp2_with (at_builtin; refine wpList_plain rfl fun _ hK => Cq.wappP (.tmp 32) (.tmp 35) hSC.out (zp : Int) rfl rfl rfl hlP fun oD nD cD wD hSD => hK _ _ ?_; have hSE := hide' hSD; clear hSD)
          rw [hwz.out] at hSE
          obtain ⟨e1, e2, e3, e4⟩ := hNx.out
          exact ⟨⟨j + 1, .slice o7 n7 c7, .slice oA nA cA, vC, by omega, by go_num, by rw [e1, e2, e3, e4]; exact hSE⟩, by simp [intOf]; omega⟩
        refine AllReadyH.cons (o := { dst := some 21, op := Op.buildSlice 22 1 #[(0, Operand.tmp 20)], type := 22, pos := "certificate.go:60", after := #[{ on := 3, ground := Ground.data }], guard := none }) rfl (fun K hK => ?_) AllReadyH.nil
        go_simp
        refine hK.out _ _ ?_ (fun hHeld => ?_)
        · trivial
        clear hK K
        try simp only [Act.put, List.setIfInBounds_toArray, List.set_cons_zero, List.set_cons_succ]
        refine wpAnyH_ready (rs := [1]) (by kernel_rfl) (by simp) ?_
        refine AllReadyH.cons (o := { dst := some 18, op := Op.load 22 (Operand.tmp 17), type := 22, pos := "certificate.go:60", after := #[{ on := 0, ground := Ground.data }], guard := none }) rfl (fun K hK => ?_) AllReadyH.nil
        go_simp
        refine hK.out _ _ ?_ (fun hHeld => ?_)
        · trivial
        clear hK K
        try simp only [Act.put, List.setIfInBounds_toArray, List.set_cons_zero, List.set_cons_succ]
        refine wpAnyH_ready (rs := [5]) (by kernel_rfl) (by simp) ?_
        refine AllReadyH.cons (o := { dst := some 22, op := Op.call { callee := Callee.builtin Builtin.append, args := #[Operand.tmp 18, Operand.tmp 21], argTypes := #[22, 22] }, type := 22, pos := "certificate.go:60", after := #[{ on := 1, ground := Ground.data }, { on := 4, ground := Ground.data }, { on := 3, ground := Ground.chain }], guard := none }) rfl (fun K hK => ?_) AllReadyH.nil
        rw [if_pos (by rfl)]
        refine Cq.wapp1 (.tmp 18) (.tmp 21) hS6.out z8 rfl rfl rfl hlW ?_; intro o7 n7 c7 w7 hS7; have f7 := hS7.qb.frz 1; have d7 := hS7.qb.c1; (try dsimp only)
        refine hK.out _ _ ?_ (fun hHeld => ?_)
        · trivial
        clear hK K
        try simp only [Act.put, List.setIfInBounds_toArray, List.set_cons_zero, List.set_cons_succ]
        refine wpAnyH_take (i := 6) (oi := { dst := some 23, op := Op.fieldAddr 26 (Operand.tmp 2) 1, type := 0, pos := "certificate.go:60", after := #[{ on := 0, ground := Ground.phase }, { on := 1, ground := Ground.phase }, { on := 2, ground := Ground.phase }, { on := 3, ground := Ground.phase }, { on := 4, ground := Ground.phase }, { on := 5, ground := Ground.phase }], guard := none }) (v := ?_) rfl (by kernel_rfl) (by kernel_rfl) (by kernel_rfl) (fun _ _ _ h => h) (Or.inl ⟨by rfl, ?_⟩) (by assumption) ?_
        rotate_left
        · intro w hSw; (try dsimp only at hSw); go_simp <;> with_reducible rfl
        simp only [Act.put, List.setIfInBounds_toArray, List.set_cons_zero, List.set_cons_succ]
        refine wpAnyH_ready (rs := [7]) (by kernel_rfl) (by simp) ?_
        refine AllReadyH.cons (o := { dst := none, op := Op.store 22 (Operand.tmp 23) (Operand.tmp 22), type := 0, pos := "certificate.go:60", after := #[{ on := 6, ground := Ground.data }, { on := 5, ground := Ground.data }, { on := 5, ground := Ground.chain }, { on := 0, ground := Ground.phase }, { on := 1, ground := Ground.phase }, { on := 2, ground := Ground.phase }, { on := 3, ground := Ground.phase }, { on := 4, ground := Ground.phase }, { on := 5, ground := Ground.phase }], guard := none }) rfl (fun K hK => ?_) AllReadyH.nil
        go_simp
        refine hK.out _ _ ?_ (fun hHeld => ?_)
        · trivial
        clear hK K
        try simp only [Act.put, List.setIfInBounds_toArray, List.set_cons_zero, List.set_cons_succ]
        refine wpAnyH_done (by kernel_rfl) ?_ _
        skip
        have hS8 := hide' (hS7.put (hS7.qb.s1 (.slice o7 n7 c7)))
        clear hS7 f7 d7 hS6 c16 c17 c1d hSd
        have hS8d := hide' (hS8.out.over (Below.refl _ _).drew)
        have c28 := hS8d.out.qb.c2
        clear hS8
        go_wp2
        refine wp_region_held_drew (S := (fun _ => True)) (by kernel_rfl) ?_ (fun hHeld => ?_)
        · trivial
        refine wpAnyH_take (i := 0) (oi := { dst := some 24, op := Op.fieldAddr 26 (Operand.tmp 2) 2, type := 0, pos := "certificate.go:61", after := #[], guard := none }) (v := ?_) rfl (by kernel_rfl) (by kernel_rfl) (by kernel_rfl) (fun _ _ _ h => h) (Or.inl ⟨by rfl, ?_⟩) (by assumption) ?_
        rotate_left
        · intro w hSw; (try dsimp only at hSw); go_simp <;> with_reducible rfl
        simp only [Act.put, List.setIfInBounds_toArray, List.set_cons_zero, List.set_cons_succ]
        refine wpAnyH_take (i := 2) (oi := { dst := some 26, op := Op.move (Operand.tmp 0), type := 91, pos := "certificate.go:61", after := #[], guard := none }) (v := ?_) rfl (by kernel_rfl) (by kernel_rfl) (by kernel_rfl) (fun _ _ _ h => h) (Or.inl ⟨by rfl, ?_⟩) (by assumption) ?_
        rotate_left
        · intro w hSw; (try dsimp only at hSw); go_simp <;> with_reducible rfl
        simp only [Act.put, List.setIfInBounds_toArray, List.set_cons_zero, List.set_cons_succ]
        refine wpAnyH_ready (rs := [1, 3]) (by kernel_rfl) (by simp) ?_
        refine AllReadyH.cons (o := { dst := some 25, op := Op.load 23 (Operand.tmp 24), type := 23, pos := "certificate.go:61", after := #[{ on := 0, ground := Ground.data }], guard := none }) rfl (fun K hK => ?_) ?_
        · skip
          go_simp
          refine hK.out _ _ ?_ (fun hHeld => ?_)
          · trivial
          clear hK K
          try simp only [Act.put, List.setIfInBounds_toArray, List.set_cons_zero, List.set_cons_succ]
          refine wpAnyH_ready (rs := [3]) (by kernel_rfl) (by simp) ?_
          refine AllReadyH.cons (o := { dst := some 27, op := Op.call { callee := Callee.value (Operand.func 43), args := #[Operand.tmp 26], argTypes := #[91] }, type := 3, pos := "certificate.go:61", after := #[{ on := 2, ground := Ground.data }], guard := none }) rfl (fun K hK => ?_) AllReadyH.nil
          go_simp
          refine (K1.out _ _ _ _ hS8d.out).mono ?_; rintro e w9 ⟨rfl, v9, hS9⟩; have c29 := hS9.out.qb.c2; have c2a := (hS9.out.over ((Below.refl _ w9).alloc (Nat.le_refl _) (.cells #[.int .i64 (IntKind.i64.wrap ((zf : Int) + -1))] 3))).qb.c2; (try dsimp only)
          refine hK.out _ _ ?_ (fun hHeld => ?_)
          · trivial
          clear hK K
          try simp only [Act.put, List.setIfInBounds_toArray, List.set_cons_zero, List.set_cons_succ]
          refine wpAnyH_take (i := 4) (oi := { dst := some 28, op := Op.binOp BinOp.add 3 (Operand.tmp 27) (Operand.const (Value.int IntKind.i64 (-1))) 3, type := 3, pos := "certificate.go:61", after := #[{ on := 3, ground := Ground.data }], guard := none }) (v := ?_) rfl (by kernel_rfl) (by kernel_rfl) (by kernel_rfl) (fun _ _ _ h => h) (Or.inl ⟨by rfl, ?_⟩) (by assumption) ?_
          rotate_left
          · intro w hSw; (try dsimp only at hSw); go_simp <;> with_reducible rfl
          simp only [Act.put, List.setIfInBounds_toArray, List.set_cons_zero, List.set_cons_succ]
          refine wpAnyH_ready (rs := [5]) (by kernel_rfl) (by simp) ?_
          refine AllReadyH.cons (o := { dst := some 29, op := Op.buildSlice 23 1 #[(0, Operand.tmp 28)], type := 23, pos := "certificate.go:61", after := #[{ on := 4, ground := Ground.data }], guard := none }) rfl (fun K hK => ?_) AllReadyH.nil
          go_simp
          refine hK.out _ _ ?_ (fun hHeld => ?_)
          · trivial
          clear hK K
          try simp only [Act.put, List.setIfInBounds_toArray, List.set_cons_zero, List.set_cons_succ]
          refine wpAnyH_ready (rs := [6]) (by kernel_rfl) (by simp) ?_
          refine AllReadyH.cons (o := { dst := some 30, op := Op.call { callee := Callee.builtin Builtin.append, args := #[Operand.tmp 25, Operand.tmp 29], argTypes := #[23, 23] }, type := 23, pos := "certificate.go:61", after := #[{ on := 1, ground := Ground.data }, { on := 5, ground := Ground.data }, { on := 3, ground := Ground.chain }], guard := none }) rfl (fun K hK => ?_) AllReadyH.nil
          rw [if_pos (by rfl)]
          refine Cq.wapp2 (.tmp 25) (.tmp 29) hS9.out (IntKind.i64.wrap ((zf : Int) + -1)) rfl rfl rfl hlF ?_; intro oA nA cA wA hSA; have fA := hSA.qb.frz 2; have dA := hSA.qb.c2; (try dsimp only)
          refine hK.out _ _ ?_ (fun hHeld => ?_)
          · trivial
          clear hK K
          try simp only [Act.put, List.setIfInBounds_toArray, List.set_cons_zero, List.set_cons_succ]
          refine wpAnyH_take (i := 7) (oi := { dst := some 31, op := Op.fieldAddr 26 (Operand.tmp 2) 2, type := 0, pos := "certificate.go:61", after := #[{ on := 0, ground := Ground.phase }, { on := 1, ground := Ground.phase }, { on := 2, ground := Ground.phase }, { on := 3, ground := Ground.phase }, { on := 4, ground := Ground.phase }, { on := 5, ground := Ground.phase }, { on := 6, ground := Ground.phase }], guard := none }) (v := ?_) rfl (by kernel_rfl) (by kernel_rfl) (by kernel_rfl) (fun _ _ _ h => h) (Or.inl ⟨by rfl, ?_⟩) (by assumption) ?_
          rotate_left
          · intro w hSw; (try dsimp only at hSw); go_simp <;> with_reducible rfl
          simp only [Act.put, List.setIfInBounds_toArray, List.set_cons_zero, List.set_cons_succ]
          refine wpAnyH_ready (rs := [8]) (by kernel_rfl) (by simp) ?_
          refine AllReadyH.cons (o := { dst := none, op := Op.store 23 (Operand.tmp 31) (Operand.tmp 30), type := 0, pos := "certificate.go:61", after := #[{ on := 7, ground := Ground.data }, { on := 6, ground := Ground.data }, { on := 6, ground := Ground.chain }, { on := 0, ground := Ground.phase }, { on := 1, ground := Ground.phase }, { on := 2, ground := Ground.phase }, { on := 3, ground := Ground.phase }, { on := 4, ground := Ground.phase }, { on := 5, ground := Ground.phase }, { on := 6, ground := Ground.phase }], guard := none }) rfl (fun K hK => ?_) AllReadyH.nil
          go_simp
          refine hK.out _ _ ?_ (fun hHeld => ?_)
          · trivial
          clear hK K
          try simp only [Act.put, List.setIfInBounds_toArray, List.set_cons_zero, List.set_cons_succ]
          refine wpAnyH_done (by kernel_rfl) ?_ _
          skip
          have hSB := hide' (hSA.put (hSA.qb.s2 (.slice oA nA cA)))
          clear hSA fA dA hS9 c29 c2a hS8d c28
          go_wp2_with fail
          refine (K2.out _ _ _ _ _ _ hSB.out).mono ?_
          rintro e wC ⟨rfl, vC, hSC⟩
          go_wp2_with (at_builtin; refine wpList_plain rfl fun _ hK => Cq.wappP (.tmp 32) (.tmp 35) hSC.out (zp : Int) rfl rfl rfl hlP fun oD nD cD wD hSD => hK _ _ ?_; have hSE := hide' hSD; clear hSD)
          rw [hwz.out] at hSE
          obtain ⟨e1, e2, e3, e4⟩ := hNx.out
          exact ⟨⟨j + 1, .slice o7 n7 c7, .slice oA nA cA, vC, by omega, by go_num, by rw [e1, e2, e3, e4]; exact hSE⟩, by simp [intOf]; omega⟩
        refine AllReadyH.cons (o := { dst := some 27, op := Op.call { callee := Callee.value (Operand.func 43), args := #[Operand.tmp 26], argTypes := #[91] }, type := 3, pos := "certificate.go:61", after := #[{ on := 2, ground := Ground.data }], guard := none }) rfl (fun K hK => ?_) AllReadyH.nil
        go_simp
        refine (K1.out _ _ _ _ hS8d.out).mono ?_; rintro e w9 ⟨rfl, v9, hS9⟩; have c29 := hS9.out.qb.c2; have c2a := (hS9.out.over ((Below.refl _ w9).alloc (Nat.le_refl _) (.cells #[.int .i64 (IntKind.i64.wrap ((zf : Int) + -1))] 3))).qb.c2; (try dsimp only)
        refine hK.out _ _ ?_ (fun hHeld => ?_)
        · trivial
        clear hK K
        try simp only [Act.put, List.setIfInBounds_toArray, List.set_cons_zero, List.set_cons_succ]
        refine wpAnyH_take (i := 4) (oi := { dst := some 28, op := Op.binOp BinOp.add 3 (Operand.tmp 27) (Operand.const (Value.int IntKind.i64 (-1))) 3, type := 3, pos := "certificate.go:61", after := #[{ on := 3, ground := Ground.data }], guard := none }) (v := ?_) rfl (by kernel_rfl) (by kernel_rfl) (by kernel_rfl) (fun _ _ _ h => h) (Or.inl ⟨by rfl, ?_⟩) (by assumption) ?_
        rotate_left
        · intro w hSw; (try dsimp only at hSw); go_simp <;> with_reducible rfl
        simp only [Act.put, List.setIfInBounds_toArray, List.set_cons_zero, List.set_cons_succ]
        refine wpAnyH_ready (rs := [1, 5]) (by kernel_rfl) (by simp) ?_
        refine AllReadyH.cons (o := { dst := some 25, op := Op.load 23 (Operand.tmp 24), type := 23, pos := "certificate.go:61", after := #[{ on := 0, ground := Ground.data }], guard := none }) rfl (fun K hK => ?_) ?_
        · skip
          go_simp
          refine hK.out _ _ ?_ (fun hHeld => ?_)
          · trivial
          clear hK K
          try simp only [Act.put, List.setIfInBounds_toArray, List.set_cons_zero, List.set_cons_succ]
          refine wpAnyH_ready (rs := [5]) (by kernel_rfl) (by simp) ?_
          refine AllReadyH.cons (o := { dst := some 29, op := Op.buildSlice 23 1 #[(0, Operand.tmp 28)], type := 23, pos := "certificate.go:61", after := #[{ on := 4, ground := Ground.data }], guard := none }) rfl (fun K hK => ?_) AllReadyH.nil
          go_simp
          refine hK.out _ _ ?_ (fun hHeld => ?_)
          · trivial
          clear hK K
          try simp only [Act.put, List.setIfInBounds_toArray, List.set_cons_zero, List.set_cons_succ]
          refine wpAnyH_ready (rs := [6]) (by kernel_rfl) (by simp) ?_
          refine AllReadyH.cons (o := { dst := some 30, op := Op.call { callee := Callee.builtin Builtin.append, args := #[Operand.tmp 25, Operand.tmp 29], argTypes := #[23, 23] }, type := 23, pos := "certificate.go:61", after := #[{ on := 1, ground := Ground.data }, { on := 5, ground := Ground.data }, { on := 3, ground := Ground.chain }], guard := none }) rfl (fun K hK => ?_) AllReadyH.nil
          rw [if_pos (by rfl)]
          refine Cq.wapp2 (.tmp 25) (.tmp 29) hS9.out (IntKind.i64.wrap ((zf : Int) + -1)) rfl rfl rfl hlF ?_; intro oA nA cA wA hSA; have fA := hSA.qb.frz 2; have dA := hSA.qb.c2; (try dsimp only)
          refine hK.out _ _ ?_ (fun hHeld => ?_)
          · trivial
          clear hK K
          try simp only [Act.put, List.setIfInBounds_toArray, List.set_cons_zero, List.set_cons_succ]
          refine wpAnyH_take (i := 7) (oi := { dst := some 31, op := Op.fieldAddr 26 (Operand.tmp 2) 2, type := 0, pos := "certificate.go:61", after := #[{ on := 0, ground := Ground.phase }, { on := 1, ground := Ground.phase }, { on := 2, ground := Ground.phase }, { on := 3, ground := Ground.phase }, { on := 4, ground := Ground.phase }, { on := 5, ground := Ground.phase }, { on := 6, ground := Ground.phase }], guard := none }) (v := ?_) rfl (by kernel_rfl) (by kernel_rfl) (by kernel_rfl) (fun _ _ _ h => h) (Or.inl ⟨by rfl, ?_⟩) (by assumption) ?_
          rotate_left
          · intro w hSw; (try dsimp only at hSw); go_simp <;> with_reducible rfl
          simp only [Act.put, List.setIfInBounds_toArray, List.set_cons_zero, List.set_cons_succ]
          refine wpAnyH_ready (rs := [8]) (by kernel_rfl) (by simp) ?_
          refine AllReadyH.cons (o := { dst := none, op := Op.store 23 (Operand.tmp 31) (Operand.tmp 30), type := 0, pos := "certificate.go:61", after := #[{ on := 7, ground := Ground.data }, { on := 6, ground := Ground.data }, { on := 6, ground := Ground.chain }, { on := 0, ground := Ground.phase }, { on := 1, ground := Ground.phase }, { on := 2, ground := Ground.phase }, { on := 3, ground := Ground.phase }, { on := 4, ground := Ground.phase }, { on := 5, ground := Ground.phase }, { on := 6, ground := Ground.phase }], guard := none }) rfl (fun K hK => ?_) AllReadyH.nil
          go_simp
          refine hK.out _ _ ?_ (fun hHeld => ?_)
          · trivial
          clear hK K
          try simp only [Act.put, List.setIfInBounds_toArray, List.set_cons_zero, List.set_cons_succ]
          refine wpAnyH_done (by kernel_rfl) ?_ _
          skip
          have hSB := hide' (hSA.put (hSA.qb.s2 (.slice oA nA cA)))
          clear hSA fA dA hS9 c29 c2a hS8d c28
          go_wp2_with fail
          refine (K2.out _ _ _ _ _ _ hSB.out).mono ?_
          rintro e wC ⟨rfl, vC, hSC⟩
          go_wp2_with (at_builtin; refine wpList_plain rfl fun _ hK => Cq.wappP (.tmp 32) (.tmp 35) hSC.out (zp : Int) rfl rfl rfl hlP fun oD nD cD wD hSD => hK _ _ ?_; have hSE := hide' hSD; clear hSD)
          rw [hwz.out] at hSE
          obtain ⟨e1, e2, e3, e4⟩ := hNx.out
          exact ⟨⟨j + 1, .slice o7 n7 c7, .slice oA nA cA, vC, by omega, by go_num, by rw [e1, e2, e3, e4]; exact hSE⟩, by simp [intOf]; omega⟩
        refine AllReadyH.cons (o := { dst := some 29, op := Op.buildSlice 23 1 #[(0, Operand.tmp 28)], type := 23, pos := "certificate.go:61", after := #[{ on := 4, ground := Ground.data }], guard := none }) rfl (fun K hK => ?_) AllReadyH.nil
        go_simp
        refine hK.out _ _ ?_ (fun hHeld => ?_)
        · trivial
        clear hK K
        try simp only [Act.put, List.setIfInBounds_toArray, List.set_cons_zero, List.set_cons_succ]
        refine wpAnyH_ready (rs := [1]) (by kernel_rfl) (by simp) ?_
        refine AllReadyH.cons (o := { dst := some 25, op := Op.load 23 (Operand.tmp 24), type := 23, pos := "certificate.go:61", after := #[{ on := 0, ground := Ground.data }], guard := none }) rfl (fun K hK => ?_) AllReadyH.nil
        go_simp
        refine hK.out _ _ ?_ (fun hHeld => ?_)
        · trivial
        clear hK K
        try simp only [Act.put, List.setIfInBounds_toArray, List.set_cons_zero, List.set_cons_succ]
        refine wpAnyH_ready (rs := [6]) (by kernel_rfl) (by simp) ?_
        refine AllReadyH.cons (o := { dst := some 30, op := Op.call { callee := Callee.builtin Builtin.append, args := #[Operand.tmp 25, Operand.tmp 29], argTypes := #[23, 23] }, type := 23, pos := "certificate.go:61", after := #[{ on := 1, ground := Ground.data }, { on := 5, ground := Ground.data }, { on := 3, ground := Ground.chain }], guard := none }) rfl (fun K hK => ?_) AllReadyH.nil
        rw [if_pos (by rfl)]
        refine Cq.wapp2 (.tmp 25) (.tmp 29) hS9.out (IntKind.i64.wrap ((zf : Int) + -1)) rfl rfl rfl hlF ?_; intro oA nA cA wA hSA; have fA := hSA.qb.frz 2; have dA := hSA.qb.c2; (try dsimp only)
        refine hK.out _ _ ?_ (fun hHeld => ?_)
        · trivial
        clear hK K
        try simp only [Act.put, List.setIfInBounds_toArray, List.set_cons_zero, List.set_cons_succ]
        refine wpAnyH_take (i := 7) (oi := { dst := some 31, op := Op.fieldAddr 26 (Operand.tmp 2) 2, type := 0, pos := "certificate.go:61", after := #[{ on := 0, ground := Ground.phase }, { on := 1, ground := Ground.phase }, { on := 2, ground := Ground.phase }, { on := 3, ground := Ground.phase }, { on := 4, ground := Ground.phase }, { on := 5, ground := Ground.phase }, { on := 6, ground := Ground.phase }], guard := none }) (v := ?_) rfl (by kernel_rfl) (by kernel_rfl) (by kernel_rfl) (fun _ _ _ h => h) (Or.inl ⟨by rfl, ?_⟩) (by assumption) ?_
        rotate_left
        · intro w hSw; (try dsimp only at hSw); go_simp <;> with_reducible rfl
        simp only [Act.put, List.setIfInBounds_toArray, List.set_cons_zero, List.set_cons_succ]
        refine wpAnyH_ready (rs := [8]) (by kernel_rfl) (by simp) ?_
        refine AllReadyH.cons (o := { dst := none, op := Op.store 23 (Operand.tmp 31) (Operand.tmp 30), type := 0, pos := "certificate.go:61", after := #[{ on := 7, ground := Ground.data }, { on := 6, ground := Ground.data }, { on := 6, ground := Ground.chain }, { on := 0, ground := Ground.phase }, { on := 1, ground := Ground.phase }, { on := 2, ground := Ground.phase }, { on := 3, ground := Ground.phase }, { on := 4, ground := Ground.phase }, { on := 5, ground := Ground.phase }, { on := 6, ground := Ground.phase }], guard := none }) rfl (fun K hK => ?_) AllReadyH.nil
        go_simp
        refine hK.out _ _ ?_ (fun hHeld => ?_)
        · trivial
        clear hK K
        try simp only [Act.put, List.setIfInBounds_toArray, List.set_cons_zero, List.set_cons_succ]
        refine wpAnyH_done (by kernel_rfl) ?_ _
        skip
        have hSB := hide' (hSA.put (hSA.qb.s2 (.slice oA nA cA)))
        clear hSA fA dA hS9 c29 c2a hS8d c28
        go_wp2_with fail
        refine (K2.out _ _ _ _ _ _ hSB.out).mono ?_
        rintro e wC ⟨rfl, vC, hSC⟩
        go_wp2_with (at_builtin; refine wpList_plain rfl fun _ hK => Cq.wappP (.tmp 32) (.tmp 35) hSC.out (zp : Int) rfl rfl rfl hlP fun oD nD cD wD hSD => hK _ _ ?_; have hSE := hide' hSD; clear hSD)
        rw [hwz.out] at hSE
        obtain ⟨e1, e2, e3, e4⟩ := hNx.out
        exact ⟨⟨j + 1, .slice o7 n7 c7, .slice oA nA cA, vC, by omega, by go_num, by rw [e1, e2, e3, e4]; exact hSE⟩, by simp [intOf]; omega⟩
      · as_aux_lemma =>
        obtain rfl : j = n := by omega
        clear hlc hbC
        go_wp2
        go_meet
        exact ⟨va, vb, vx, hS⟩
  case rest =>
  obtain ⟨va, vb, vx, hS⟩ := hcut
  obtain ⟨oa, na, ca, rfl⟩ : ∃ a b c, va = .slice a b c := by obtain ⟨a, c, e⟩ := own_shp hS.out.r1; exact ⟨a, _, c, e⟩
  obtain ⟨ob, nb, cb, rfl⟩ : ∃ a b c, vb = .slice a b c := by obtain ⟨a, c, e⟩ := own_shp hS.out.r2; exact ⟨a, _, c, e⟩
  obtain ⟨oq, nq, cq, rfl⟩ : ∃ a b c, u3 = .slice a b c := by obtain ⟨a, c, e⟩ := own_shp hS.out.rp; exact ⟨a, _, c, e⟩
  have hln := hlc.out n
  have hKb : tkN 1 (csS n A) < 256 := tkN_lt (wd := 1) (hbC.out n)
  have hlB : Hid (∀ j, (crS j (tkS 1 (csS n A))).1.length ≤ 100000) := fun j => Nat.le_trans (crS_len j _) (Nat.le_trans (tkS_len 1 _) hln)
  have hlF := hide' hln
  clear hS5 hlc hbC hln
  go_wp2_with fail
  refine (smallF B gr vx (csS n A) _ hS.out.rd hlF.out).mono ?_
  rintro e w6 ⟨rfl, v6, hR6, hf6⟩
  have hS6 := hide' (hS.out.tk hR6.out hf6.out)
  obtain ⟨r1, r2, r3, r4⟩ := hRA.out
  rw [← r1] at hS6 hlB
  rw [← r2] at hKb ⊢
  have hFin : Hid (rcP s = ⟨(U : Int), csW n A, csF n A, crL (rcK s) (rcB s)⟩ ∧ rcL s = csP n A ∧ rcS s = crS (rcK s) (rcB s)) := ⟨hFU.out, r3, r4⟩
  have hS7 : Hid (Cq w B gr w6 v6 (crS 0 (rcB s)) (U : Int) (.slice oa na ca) (.slice ob nb cb) (.slice none 0 0) (.slice oa na ca) (.slice ob nb cb) (.slice none 0 0) (.slice oq nq cq) (csW n A) (csF n A) (csP n A) []) := hS6
  clear hS hR6 hf6 hRA hFU r1 r2 r3 r4 hS6 hlF
  generalize rcB s = T at *
  generalize rcK s = m at *
  generalize csW n A = Lw at *
  generalize csF n A = Lf at *
  generalize csP n A = Lp at *
  go_wp2
  go_loopw [40] (fun p wr => ∃ (j : Nat) (vc vx : Value) (E : List (Rl × Value)), j ≤ m ∧ p = .int .i64 (j : Int) ∧ Hid (E.map Prod.fst = crL j T) ∧ Hid (Cq w B gr wr vx (crS j T) (U : Int) (.slice oa na ca) (.slice ob nb cb) vc (.slice oa na ca) (.slice ob nb cb) vc (.slice oq nq cq) Lw Lf Lp E)) (fun p _ => ((m : Int) - intOf p).toNat)
  case atStart => exact ⟨0, _, _, [], Nat.zero_le _, rfl, rfl, hS7⟩
  case round =>
    clear hS7
    obtain ⟨j, vc, vx, E, hj, rfl, hE, hS⟩ := hrel
    obtain ⟨oc, nc, cc, rfl⟩ : ∃ a b c, vc = .slice a b c := by obtain ⟨a, c, e⟩ := own_shp hS.out.r3.row; exact ⟨a, _, c, e⟩
    by_cases hlt : j < m
    · as_aux_lemma =>
      have hlt' : (j : Int) < (m : Int) := by omega
      have hEl : E.length ≤ 1000000 := by
        have := congrArg List.length hE.out
        rw [List.length_map, crL_len] at this
        omega
      have hE2 : Hid (∀ sv : Value, (E ++ [(rdR (crS j T), sv)]).map Prod.fst = crL (j + 1) T) := fun sv => by rw [List.map_append, hE.out]; rfl
      have hT2 : Hid (crS (j + 1) T = rdRS (crS j T)) := rfl
      have hSd := hide' (hS.out.over (Below.refl _ wr).drew)
      have KR : Hid (Calls Tryd.prog 44 #[.pointer (some ⟨gr, 0, none⟩)] wr.drew fun e w' => ∃ sv v', e = .returned (.agg #[.int .i64 (rdR (crS j T)).kind, .int .i64 (rdR (crS j T)).k, sv]) ∧ Hid (Cq w B gr w' v' (rdRS (crS j T)) (U : Int) (.slice oa na ca) (.slice ob nb cb) (.slice oc nc cc) (.slice oa na ca) (.slice ob nb cb) (.slice oc nc cc) (.slice oq nq cq) Lw Lf Lp E ∧ w'.ownsRow (w.heap.size + 1) 3 1 sv (rdR (crS j T)).steps.length (cellsI (rdR (crS j T)).steps) ∧ ∀ g, (Value.slice oc nc cc).ownBlock = some g → sv.ownBlock ≠ some g)) := by
        have hsz := hSd.out.sz
        have hgl := hSd.out.gl
        refine (ruleF B gr vx (crS j T) wr.drew hSd.out.rd (by omega) (hlB.out j)).mono ?_
        rintro e w' ⟨sv, v', rfl, h1, h2, h3⟩
        refine ⟨sv, v', rfl, hSd.out.tk h2.out h3.out, owns_lowS h1.out hsz, fun g e1 e2 => ?_⟩
        have k1 := (hSd.out.r3.row.lt g e1).2
        have k2 := (h1.out.lt g e2).1
        omega
      generalize rdR (crS j T) = rr at *
      generalize rdRS (crS j T) = tt at *
      have c3d := hSd.out.qb.c3
      clear hS hE hlB hFin
      go_wp2
      refine wp_region_held_drew (S := (fun _ => True)) (by kernel_rfl) ?_ (fun hHeld => ?_)
      · trivial
      refine wpAnyH_take (i := 0) (oi := { dst := some 42, op := Op.fieldAddr 26 (Operand.tmp 2) 3, type := 0, pos := "certificate.go:65", after := #[], guard := none }) (v := ?_) rfl (by kernel_rfl) (by kernel_rfl) (by kernel_rfl) (fun _ _ _ h => h) (Or.inl ⟨by rfl, ?_⟩) (by assumption) ?_
      rotate_left
      · intro w hSw; (try dsimp only at hSw); go_simp <;> with_reducible rfl
      simp only [Act.put, List.setIfInBounds_toArray, List.set_cons_zero, List.set_cons_succ]
      refine wpAnyH_take (i := 2) (oi := { dst := some 44, op := Op.move (Operand.tmp 0), type := 91, pos := "certificate.go:65", after := #[], guard := none }) (v := ?_) rfl (by kernel_rfl) (by kernel_rfl) (by kernel_rfl) (fun _ _ _ h => h) (Or.inl ⟨by rfl, ?_⟩) (by assumption) ?_
      rotate_left
      · intro w hSw; (try dsimp only at hSw); go_simp <;> with_reducible rfl
      simp only [Act.put, List.setIfInBounds_toArray, List.set_cons_zero, List.set_cons_succ]
      refine wpAnyH_ready (rs := [1, 3]) (by kernel_rfl) (by simp) ?_
      refine AllReadyH.cons (o := { dst := some 43, op := Op.load 24 (Operand.tmp 42), type := 24, pos := "certificate.go:65", after := #[{ on := 0, ground := Ground.data }], guard := none }) rfl (fun K hK => ?_) ?_
      · skip
        go_simp
        refine hK.out _ _ ?_ (fun hHeld => ?_)
        · trivial
        clear hK K
        try simp only [Act.put, List.setIfInBounds_toArray, List.set_cons_zero, List.set_cons_succ]
        refine wpAnyH_ready (rs := [3]) (by kernel_rfl) (by simp) ?_
        refine AllReadyH.cons (o := { dst := some 45, op := Op.call { callee := Callee.value (Operand.func 44), args := #[Operand.tmp 44], argTypes := #[91] }, type := 50, pos := "certificate.go:65", after := #[{ on := 2, ground := Ground.data }], guard := none }) rfl (fun K hK => ?_) AllReadyH.nil
        go_simp
        refine KR.out.mono ?_; rintro e w8 ⟨sv, v8, rfl, hS8⟩; obtain ⟨os, ns, cs, rfl⟩ : ∃ a b c, sv = .slice a b c := (by obtain ⟨a, c, e⟩ := own_shp hS8.out.2.1; exact ⟨a, _, c, e⟩); have c38 := hS8.out.1.qb.c3; have c39 := (hS8.out.1.over ((Below.refl _ w8).alloc (Nat.le_refl _) (.cells #[.int .i64 rr.kind, .int .i64 rr.k, .slice os ns cs] 50))).qb.c3; (try dsimp only)
        refine hK.out _ _ ?_ (fun hHeld => ?_)
        · trivial
        clear hK K
        try simp only [Act.put, List.setIfInBounds_toArray, List.set_cons_zero, List.set_cons_succ]
        refine wpAnyH_ready (rs := [4]) (by kernel_rfl) (by simp) ?_
        refine AllReadyH.cons (o := { dst := some 46, op := Op.buildSlice 24 1 #[(0, Operand.tmp 45)], type := 24, pos := "certificate.go:65", after := #[{ on := 3, ground := Ground.data }], guard := none }) rfl (fun K hK => ?_) AllReadyH.nil
        go_simp
        refine hK.out _ _ ?_ (fun hHeld => ?_)
        · trivial
        clear hK K
        try simp only [Act.put, List.setIfInBounds_toArray, List.set_cons_zero, List.set_cons_succ]
        refine wpAnyH_ready (rs := [5]) (by kernel_rfl) (by simp) ?_
        refine AllReadyH.cons (o := { dst := some 47, op := Op.call { callee := Callee.builtin Builtin.append, args := #[Operand.tmp 43, Operand.tmp 46], argTypes := #[24, 24] }, type := 24, pos := "certificate.go:65", after := #[{ on := 1, ground := Ground.data }, { on := 4, ground := Ground.data }, { on := 3, ground := Ground.chain }], guard := none }) rfl (fun K hK => ?_) AllReadyH.nil
        rw [if_pos (by rfl)]
        refine Cq.wapp3 (.tmp 43) (.tmp 46) hS8.out.1 (rr, .slice os ns cs) hS8.out.2.1 hS8.out.2.2 rfl rfl rfl hEl ?_; intro o9 n9 c9 w9 hS9; have f9 := hS9.qb.frz 3; have d9 := hS9.qb.c3; (try dsimp only)
        refine hK.out _ _ ?_ (fun hHeld => ?_)
        · trivial
        clear hK K
        try simp only [Act.put, List.setIfInBounds_toArray, List.set_cons_zero, List.set_cons_succ]
        refine wpAnyH_take (i := 6) (oi := { dst := some 48, op := Op.fieldAddr 26 (Operand.tmp 2) 3, type := 0, pos := "certificate.go:65", after := #[{ on := 0, ground := Ground.phase }, { on := 1, ground := Ground.phase }, { on := 2, ground := Ground.phase }, { on := 3, ground := Ground.phase }, { on := 4, ground := Ground.phase }, { on := 5, ground := Ground.phase }], guard := none }) (v := ?_) rfl (by kernel_rfl) (by kernel_rfl) (by kernel_rfl) (fun _ _ _ h => h) (Or.inl ⟨by rfl, ?_⟩) (by assumption) ?_
        rotate_left
        · intro w hSw; (try dsimp only at hSw); go_simp <;> with_reducible rfl
        simp only [Act.put, List.setIfInBounds_toArray, List.set_cons_zero, List.set_cons_succ]
        refine wpAnyH_ready (rs := [7]) (by kernel_rfl) (by simp) ?_
        refine AllReadyH.cons (o := { dst := none, op := Op.store 24 (Operand.tmp 48) (Operand.tmp 47), type := 0, pos := "certificate.go:65", after := #[{ on := 6, ground := Ground.data }, { on := 5, ground := Ground.data }, { on := 5, ground := Ground.chain }, { on := 0, ground := Ground.phase }, { on := 1, ground := Ground.phase }, { on := 2, ground := Ground.phase }, { on := 3, ground := Ground.phase }, { on := 4, ground := Ground.phase }, { on := 5, ground := Ground.phase }], guard := none }) rfl (fun K hK => ?_) AllReadyH.nil
        go_simp
        refine hK.out _ _ ?_ (fun hHeld => ?_)
        · trivial
        clear hK K
        try simp only [Act.put, List.setIfInBounds_toArray, List.set_cons_zero, List.set_cons_succ]
        refine wpAnyH_done (by kernel_rfl) ?_ _
        skip
        have hSA := hide' (hS9.put (hS9.qb.s3 (.slice o9 n9 c9)))
        clear hS9 f9 d9 hS8 c38 c39 c3d hSd
        go_wp2
        exact ⟨⟨j + 1, .slice o9 n9 c9, v8, E ++ [(rr, .slice os ns cs)], by omega, by go_num, hE2.out _, by rw [hT2.out]; exact hSA⟩, by simp [intOf]; omega⟩
      refine AllReadyH.cons (o := { dst := some 45, op := Op.call { callee := Callee.value (Operand.func 44), args := #[Operand.tmp 44], argTypes := #[91] }, type := 50, pos := "certificate.go:65", after := #[{ on := 2, ground := Ground.data }], guard := none }) rfl (fun K hK => ?_) AllReadyH.nil
      go_simp
      refine KR.out.mono ?_; rintro e w8 ⟨sv, v8, rfl, hS8⟩; obtain ⟨os, ns, cs, rfl⟩ : ∃ a b c, sv = .slice a b c := (by obtain ⟨a, c, e⟩ := own_shp hS8.out.2.1; exact ⟨a, _, c, e⟩); have c38 := hS8.out.1.qb.c3; have c39 := (hS8.out.1.over ((Below.refl _ w8).alloc (Nat.le_refl _) (.cells #[.int .i64 rr.kind, .int .i64 rr.k, .slice os ns cs] 50))).qb.c3; (try dsimp only)
      refine hK.out _ _ ?_ (fun hHeld => ?_)
      · trivial
      clear hK K
      try simp only [Act.put, List.setIfInBounds_toArray, List.set_cons_zero, List.set_cons_succ]
      refine wpAnyH_ready (rs := [1, 4]) (by kernel_rfl) (by simp) ?_
      refine AllReadyH.cons (o := { dst := some 43, op := Op.load 24 (Operand.tmp 42), type := 24, pos := "certificate.go:65", after := #[{ on := 0, ground := Ground.data }], guard := none }) rfl (fun K hK => ?_) ?_
      · skip
        go_simp
        refine hK.out _ _ ?_ (fun hHeld => ?_)
        · trivial
        clear hK K
        try simp only [Act.put, List.setIfInBounds_toArray, List.set_cons_zero, List.set_cons_succ]
        refine wpAnyH_ready (rs := [4]) (by kernel_rfl) (by simp) ?_
        refine AllReadyH.cons (o := { dst := some 46, op := Op.buildSlice 24 1 #[(0, Operand.tmp 45)], type := 24, pos := "certificate.go:65", after := #[{ on := 3, ground := Ground.data }], guard := none }) rfl (fun K hK => ?_) AllReadyH.nil
        go_simp
        refine hK.out _ _ ?_ (fun hHeld => ?_)
        · trivial
        clear hK K
        try simp only [Act.put, List.setIfInBounds_toArray, List.set_cons_zero, List.set_cons_succ]
        refine wpAnyH_ready (rs := [5]) (by kernel_rfl) (by simp) ?_
        refine AllReadyH.cons (o := { dst := some 47, op := Op.call { callee := Callee.builtin Builtin.append, args := #[Operand.tmp 43, Operand.tmp 46], argTypes := #[24, 24] }, type := 24, pos := "certificate.go:65", after := #[{ on := 1, ground := Ground.data }, { on := 4, ground := Ground.data }, { on := 3, ground := Ground.chain }], guard := none }) rfl (fun K hK => ?_) AllReadyH.nil
        rw [if_pos (by rfl)]
        refine Cq.wapp3 (.tmp 43) (.tmp 46) hS8.out.1 (rr, .slice os ns cs) hS8.out.2.1 hS8.out.2.2 rfl rfl rfl hEl ?_; intro o9 n9 c9 w9 hS9; have f9 := hS9.qb.frz 3; have d9 := hS9.qb.c3; (try dsimp only)
        refine hK.out _ _ ?_ (fun hHeld => ?_)
        · trivial
        clear hK K
        try simp only [Act.put, List.setIfInBounds_toArray, List.set_cons_zero, List.set_cons_succ]
        refine wpAnyH_take (i := 6) (oi := { dst := some 48, op := Op.fieldAddr 26 (Operand.tmp 2) 3, type := 0, pos := "certificate.go:65", after := #[{ on := 0, ground := Ground.phase }, { on := 1, ground := Ground.phase }, { on := 2, ground := Ground.phase }, { on := 3, ground := Ground.phase }, { on := 4, ground := Ground.phase }, { on := 5, ground := Ground.phase }], guard := none }) (v := ?_) rfl (by kernel_rfl) (by kernel_rfl) (by kernel_rfl) (fun _ _ _ h => h) (Or.inl ⟨by rfl, ?_⟩) (by assumption) ?_
        rotate_left
        · intro w hSw; (try dsimp only at hSw); go_simp <;> with_reducible rfl
        simp only [Act.put, List.setIfInBounds_toArray, List.set_cons_zero, List.set_cons_succ]
        refine wpAnyH_ready (rs := [7]) (by kernel_rfl) (by simp) ?_
        refine AllReadyH.cons (o := { dst := none, op := Op.store 24 (Operand.tmp 48) (Operand.tmp 47), type := 0, pos := "certificate.go:65", after := #[{ on := 6, ground := Ground.data }, { on := 5, ground := Ground.data }, { on := 5, ground := Ground.chain }, { on := 0, ground := Ground.phase }, { on := 1, ground := Ground.phase }, { on := 2, ground := Ground.phase }, { on := 3, ground := Ground.phase }, { on := 4, ground := Ground.phase }, { on := 5, ground := Ground.phase }], guard := none }) rfl (fun K hK => ?_) AllReadyH.nil
        go_simp
        refine hK.out _ _ ?_ (fun hHeld => ?_)
        · trivial
        clear hK K
        try simp only [Act.put, List.setIfInBounds_toArray, List.set_cons_zero, List.set_cons_succ]
        refine wpAnyH_done (by kernel_rfl) ?_ _
        skip
        have hSA := hide' (hS9.put (hS9.qb.s3 (.slice o9 n9 c9)))
        clear hS9 f9 d9 hS8 c38 c39 c3d hSd
        go_wp2
        exact ⟨⟨j + 1, .slice o9 n9 c9, v8, E ++ [(rr, .slice os ns cs)], by omega, by go_num, hE2.out _, by rw [hT2.out]; exact hSA⟩, by simp [intOf]; omega⟩
      refine AllReadyH.cons (o := { dst := some 46, op := Op.buildSlice 24 1 #[(0, Operand.tmp 45)], type := 24, pos := "certificate.go:65", after := #[{ on := 3, ground := Ground.data }], guard := none }) rfl (fun K hK => ?_) AllReadyH.nil
      go_simp
      refine hK.out _ _ ?_ (fun hHeld => ?_)
      · trivial
      clear hK K
      try simp only [Act.put, List.setIfInBounds_toArray, List.set_cons_zero, List.set_cons_succ]
      refine wpAnyH_ready (rs := [1]) (by kernel_rfl) (by simp) ?_
      refine AllReadyH.cons (o := { dst := some 43, op := Op.load 24 (Operand.tmp 42), type := 24, pos := "certificate.go:65", after := #[{ on := 0, ground := Ground.data }], guard := none }) rfl (fun K hK => ?_) AllReadyH.nil
      go_simp
      refine hK.out _ _ ?_ (fun hHeld => ?_)
      · trivial
      clear hK K
      try simp only [Act.put, List.setIfInBounds_toArray, List.set_cons_zero, List.set_cons_succ]
      refine wpAnyH_ready (rs := [5]) (by kernel_rfl) (by simp) ?_
      refine AllReadyH.cons (o := { dst := some 47, op := Op.call { callee := Callee.builtin Builtin.append, args := #[Operand.tmp 43, Operand.tmp 46], argTypes := #[24, 24] }, type := 24, pos := "certificate.go:65", after := #[{ on := 1, ground := Ground.data }, { on := 4, ground := Ground.data }, { on := 3, ground := Ground.chain }], guard := none }) rfl (fun K hK => ?_) AllReadyH.nil
      rw [if_pos (by rfl)]
      refine Cq.wapp3 (.tmp 43) (.tmp 46) hS8.out.1 (rr, .slice os ns cs) hS8.out.2.1 hS8.out.2.2 rfl rfl rfl hEl ?_; intro o9 n9 c9 w9 hS9; have f9 := hS9.qb.frz 3; have d9 := hS9.qb.c3; (try dsimp only)
      refine hK.out _ _ ?_ (fun hHeld => ?_)
      · trivial
      clear hK K
      try simp only [Act.put, List.setIfInBounds_toArray, List.set_cons_zero, List.set_cons_succ]
      refine wpAnyH_take (i := 6) (oi := { dst := some 48, op := Op.fieldAddr 26 (Operand.tmp 2) 3, type := 0, pos := "certificate.go:65", after := #[{ on := 0, ground := Ground.phase }, { on := 1, ground := Ground.phase }, { on := 2, ground := Ground.phase }, { on := 3, ground := Ground.phase }, { on := 4, ground := Ground.phase }, { on := 5, ground := Ground.phase }], guard := none }) (v := ?_) rfl (by kernel_rfl) (by kernel_rfl) (by kernel_rfl) (fun _ _ _ h => h) (Or.inl ⟨by rfl, ?_⟩) (by assumption) ?_
      rotate_left
      · intro w hSw; (try dsimp only at hSw); go_simp <;> with_reducible rfl
      simp only [Act.put, List.setIfInBounds_toArray, List.set_cons_zero, List.set_cons_succ]
      refine wpAnyH_ready (rs := [7]) (by kernel_rfl) (by simp) ?_
      refine AllReadyH.cons (o := { dst := none, op := Op.store 24 (Operand.tmp 48) (Operand.tmp 47), type := 0, pos := "certificate.go:65", after := #[{ on := 6, ground := Ground.data }, { on := 5, ground := Ground.data }, { on := 5, ground := Ground.chain }, { on := 0, ground := Ground.phase }, { on := 1, ground := Ground.phase }, { on := 2, ground := Ground.phase }, { on := 3, ground := Ground.phase }, { on := 4, ground := Ground.phase }, { on := 5, ground := Ground.phase }], guard := none }) rfl (fun K hK => ?_) AllReadyH.nil
      go_simp
      refine hK.out _ _ ?_ (fun hHeld => ?_)
      · trivial
      clear hK K
      try simp only [Act.put, List.setIfInBounds_toArray, List.set_cons_zero, List.set_cons_succ]
      refine wpAnyH_done (by kernel_rfl) ?_ _
      skip
      have hSA := hide' (hS9.put (hS9.qb.s3 (.slice o9 n9 c9)))
      clear hS9 f9 d9 hS8 c38 c39 c3d hSd
      go_wp2
      exact ⟨⟨j + 1, .slice o9 n9 c9, v8, E ++ [(rr, .slice os ns cs)], by omega, by go_num, hE2.out _, by rw [hT2.out]; exact hSA⟩, by simp [intOf]; omega⟩
    · as_aux_lemma =>
      obtain rfl : j = m := by omega
      have hP0 := hide' (hS.out.put (hS.out.qb.s0 (U : Int)))
      have hP1 := hide' (hP0.out.put (hP0.out.qb.s1 (.slice oa na ca)))
      have hP2 := hide' (hP1.out.put (hP1.out.qb.s2 (.slice ob nb cb)))
      have hP3 := hide' (hP2.out.put (hP2.out.qb.s3 (.slice oc nc cc)))
      have q0 := hS.out.qb.c0
      have q1 := hS.out.qb.c1
      have q2 := hS.out.qb.c2
      have q3 := hS.out.qb.c3
      have f0 := hS.out.qb.frz 0
      have f1 := hP0.out.qb.frz 1
      have f2 := hP1.out.qb.frz 2
      have f3 := hP2.out.qb.frz 3
      have y1 := hP0.out.qb.c1
      have y2 := hP1.out.qb.c2
      have y3 := hP2.out.qb.c3
      have x0 := hP3.out.qb.c0
      have x1 := hP3.out.qb.c1
      have x2 := hP3.out.qb.c2
      have x3 := hP3.out.qb.c3
      clear hlB hP0 hP1 hP2
      go_wp2
      refine bodyPost_ret (v := .tuple #[.agg #[.int .i64 (U : Int), .slice oa na ca, .slice ob nb cb, .slice oc nc cc], .slice oq nq cq]) (by simp [results, Tryd.results25, go_sem, x0, x1, x2, x3]) rfl ?_
      obtain ⟨e1, e2, e3⟩ := hFin.out
      unfold CcP
      rw [e1, e2, e3]
      exact ⟨_, _, _, _, vx, E, rfl, ⟨owns_lowS hP3.out.r1 (Nat.le_succ _), owns_lowS hP3.out.r2 (Nat.le_succ _), ⟨owns_lowS hP3.out.r3.row (Nat.le_succ _), fun p hp => owns_lowS (hP3.out.r3.inner p hp) (Nat.le_succ _)⟩, hE.out, owns_lowS hP3.out.rp (Nat.le_succ _)⟩, hP3.out.rd, hP3.out.fr⟩
end Go.Proofs.YtgmjmliemjgioaaDoor.S
namespace Go.Proofs.YtgmjmliemjgioaaDoor.S
open Go.RowKit Go.Shelf
theorem csW_mem {n : Nat} {t : RdS} (h : ∀ b ∈ t.1, b < 256) : ∀ z ∈ csW n t, z < 18446744073709551616 := by
  have hb : ∀ j, ∀ b ∈ (csS j t).1, b < 256 := fun j => by
    induction j with
    | zero => exact h
    | succ j ih => exact tkS_mem (tkS_mem (tkS_mem ih))
  induction n with
  | zero => intro z hz; cases hz
  | succ n ih =>
    intro z hz
    rcases List.mem_append.1 (show z ∈ csW n t ++ [tkN 8 (csS n t)] from hz) with q | q
    · exact ih z q
    · rw [List.mem_singleton] at q
      subst q
      exact tkN_lt (wd := 8) (hb n)
theorem rsS_mem {n : Nat} {t : RdS} (h : ∀ b ∈ t.1, b < 256) : ∀ b ∈ (rsS n t).1, b < 256 := by
  induction n with
  | zero => exact h
  | succ n ih => exact tkS_mem ih
theorem rdRS_mem {s : RdS} (h : ∀ b ∈ s.1, b < 256) : ∀ b ∈ (rdRS s).1, b < 256 := rsS_mem (tkS_mem (tkS_mem (tkS_mem h)))
theorem crS_mem {n : Nat} {t : RdS} (h : ∀ b ∈ t.1, b < 256) : ∀ b ∈ (crS n t).1, b < 256 := by
  induction n with
  | zero => exact h
  | succ n ih => exact rdRS_mem ih
theorem csS_mem {n : Nat} {t : RdS} (h : ∀ b ∈ t.1, b < 256) : ∀ b ∈ (csS n t).1, b < 256 := by
  induction n with
  | zero => exact h
  | succ n ih => exact tkS_mem (tkS_mem (tkS_mem ih))
theorem mkS_mem {s : RdS} (h : ∀ b ∈ s.1, b < 256) : ∀ b ∈ (mkS s).1, b < 256 := fun b hb => by
  unfold mkS at hb
  split at hb
  · exact tkS_mem h b hb
  · exact tkS_mem (wd := 2) h b hb
theorem crL_steps {n : Nat} {t : RdS} (h : ∀ b ∈ t.1, b < 256) : ∀ r ∈ crL n t, r.steps.length ≤ 1000 := by
  induction n with
  | zero => intro r hr; cases hr
  | succ n ih =>
    intro r hr
    rcases List.mem_append.1 (show r ∈ crL n t ++ [rdR (crS n t)] from hr) with q | q
    · exact ih r q
    · rw [List.mem_singleton] at q
      subst q
      show (rsL _ _).length ≤ 1000
      rw [rsL_len]
      have := tkN_lt (wd := 1) (tkS_mem (wd := 4) (tkS_mem (wd := 1) (crS_mem (n := n) h)))
      omega
theorem rcP_ok {s : RdS} (h : ∀ b ∈ s.1, b < 256) : Pok (rcP s) := by
  have hA : ∀ b ∈ (rcA s).1, b < 256 := tkS_mem (tkS_mem (mkS_mem h))
  have hN : rcN s < 256 ^ 1 := tkN_lt (wd := 1) (tkS_mem (mkS_mem h))
  have hK : rcK s < 256 ^ 1 := tkN_lt (wd := 1) (csS_mem hA)
  have hB : ∀ b ∈ (rcB s).1, b < 256 := tkS_mem (csS_mem hA)
  refine ⟨?_, ?_, ?_, crL_steps hB, csW_mem hA⟩
  · show (csW _ _).length ≤ 1000; rw [csW_len]; omega
  · show (csF _ _).length ≤ 1000; rw [csF_len]; omega
  · show (crL _ _).length ≤ 1000; rw [crL_len]; omega
theorem rcL_len {s : RdS} (h : ∀ b ∈ s.1, b < 256) : (rcL s).length ≤ 1000 := by
  have hN : rcN s < 256 ^ 1 := tkN_lt (wd := 1) (tkS_mem (mkS_mem h))
  show (csP _ _).length ≤ 1000
  rw [csP_len]; omega
/-- Were these bytes of that form, and no others? -/
def rdF_ (L : List Nat) : Bool := !(rcS (L, false)).2 && decide ((rcS (L, false)).1.length = 0)
/-- The error's number, the problem, the plan. -/
def rdN (L : List Nat) : Nat := if rdF_ L = true ∧ chkN (rcP (L, false)) = 0 then (if holP (rcP (L, false)) (rcL (L, false)) = true then 0 else 52) else 3
def rdP (L : List Nat) : Pb := if rdN L = 0 then rcP (L, false) else ⟨0, [], [], []⟩
def rdL (L : List Nat) : List Int := if rdN L = 0 then rcL (L, false) else []
/-- What stands while bytes are read. -/
structure Re (w : World) (Q : Pb) (gp : Nat) (va vb vc vp : Value) (M : List Int) (E : List (Rl × Value)) (W : World) : Prop where
  z : QAt W w.heap.size 0 (.slice none 0 0) (.slice none 0 0) (.slice none 0 0)
  pb : PbB W gp Q va vb vc
  r1 : W.ownsRow (w.heap.size + 2) 48 1 va Q.who.length (cellsW Q.who)
  r2 : W.ownsRow (w.heap.size + 2) 3 1 vb Q.fixed.length (cellsI Q.fixed)
  r3 : TwS (w.heap.size + 2) W vc E
  rp : W.ownsRow (w.heap.size + 2) 3 1 vp M.length (cellsI M)
  ee : E.map Prod.fst = Q.rules
  be : Below w.heap.size w W
section
variable {w W W' : World} {Q : Pb} {gp : Nat} {va vb vc vp : Value} {M : List Int} {E : List (Rl × Value)}
theorem Re.over (h : Re w Q gp va vb vc vp M E W) (hb : Below W.heap.size W W') : Re w Q gp va vb vc vp M E W' :=
  ⟨h.z.of (hb.block _ h.z.lt), h.pb.below hb, own_lowB h.r1 hb, own_lowB h.r2 hb, h.r3.below hb (Nat.le_refl _), own_lowB h.rp hb, h.ee, h.be.trans (hb.mono h.be.size)⟩
theorem Re.pv (h : Re w Q gp va vb vc vp M E W) : PbV W Q va vb vc := by
  refine ⟨RowW.of_owns h.r1, RowI.of_owns h.r2, ?_⟩
  have := h.r3.rowR
  rw [h.ee] at this
  exact this
/-- The problem and the plan behind the result's cells, whatever is written there. -/
theorem Re.fin (h : Re w Q gp va vb vc vp M E W) (x0 x1 x2 x3 : Value) :
    let W' := (((W.setCell ⟨w.heap.size, 0, none⟩ x0).setCell ⟨w.heap.size, 1, none⟩ x1).setCell ⟨w.heap.size, 2, none⟩ x2).setCell ⟨w.heap.size, 3, none⟩ x3
    PbV W' Q va vb vc ∧ RowI W' vp M ∧ Below w.heap.size w W' := by
  intro W'
  have hb : Below w.heap.size W W' := ((((Below.refl _ W).setCell (p := ⟨w.heap.size, 0, none⟩) (Nat.le_refl _) x0).setCell (p := ⟨w.heap.size, 1, none⟩) (Nat.le_refl _) x1).setCell (p := ⟨w.heap.size, 2, none⟩) (Nat.le_refl _) x2).setCell (p := ⟨w.heap.size, 3, none⟩) (Nat.le_refl _) x3
  have s4 : ∀ {B e sz : Nat} {v : Value} {n : Nat} {xs : List Value}, W.ownsRow B e sz v n xs → w.heap.size < B → W'.ownsRow B e sz v n xs := fun h hB => own_set (own_set (own_set (own_set h hB x0) hB x1) hB x2) hB x3
  refine ⟨⟨RowW.of_owns (s4 h.r1 (by omega)), RowI.of_owns (s4 h.r2 (by omega)), ?_⟩, RowI.of_owns (s4 h.rp (by omega)), h.be.trans hb⟩
  have hT : TwS (w.heap.size + 2) W' vc E := ⟨s4 h.r3.row (by omega), fun p hp => s4 (h.r3.inner p hp) (by omega)⟩
  have := hT.rowR
  rw [h.ee] at this
  exact this
end
/-- Read's answer. -/
def ReP (w : World) (L : List Nat) (e : Ending) (w' : World) : Prop :=
  ∃ va vb vc vp, e = .returned (.tuple #[.agg #[.int .i64 (rdP L).users, va, vb, vc], vp, .int .i64 (rdN L : Int)]) ∧ Hid (PbV w' (rdP L) va vb vc ∧ RowI w' vp (rdL L)) ∧ Hid (Below w.heap.size w w')
theorem nil_pv (W : World) : PbV W ⟨0, [], [], []⟩ (.slice none 0 0) (.slice none 0 0) (.slice none 0 0) ∧ RowI W (.slice none 0 0) [] :=
  ⟨⟨⟨none, 0, rfl, ⟨Nat.le_refl _, fun _ => rfl⟩, fun i z hz => by cases hz⟩, ⟨none, 0, rfl, ⟨Nat.le_refl _, fun _ => rfl⟩, fun i z hz => by cases hz⟩, ⟨none, 0, rfl, ⟨Nat.le_refl _, fun _ => rfl⟩, fun i z hz => by cases hz⟩⟩, ⟨none, 0, rfl, ⟨Nat.le_refl _, fun _ => rfl⟩, fun i z hz => by cases hz⟩⟩
end Go.Proofs.YtgmjmliemjgioaaDoor.S
namespace Go.Proofs.YtgmjmliemjgioaaDoor.S
open Go.RowKit Go.Shelf
theorem be_succ (wd n : Nat) : be (wd + 1) n = be wd (n / 256) ++ [n % 256] := by
  unfold be
  rw [List.range_succ, List.map_append]
  congr 1
  · refine List.map_congr_left fun i hi => ?_
    rw [List.mem_range] at hi
    rw [Nat.div_div_eq_div_mul, show wd + 1 - 1 - i = (wd - 1 - i) + 1 by omega, Nat.pow_succ, Nat.mul_comm]
  · simp
theorem val_be : ∀ (wd n : Nat), n < 256 ^ wd → valB (be wd n) = n
  | 0, n, h => by simp at h; subst h; rfl
  | wd + 1, n, h => by
    rw [be_succ, valB_snoc, val_be wd (n / 256) (by rw [Nat.pow_succ] at h; omega)]
    omega
theorem be_val : ∀ (l : List Nat), (∀ b ∈ l, b < 256) → be l.length (valB l) = l := by
  have key : ∀ n, ∀ l : List Nat, l.length = n → (∀ b ∈ l, b < 256) → be n (valB l) = l := by
    intro n
    induction n with
    | zero => intro l hl _; rw [List.eq_nil_of_length_eq_zero hl]; rfl
    | succ n ih =>
      intro l hl hb
      have hne : l ≠ [] := fun e => by rw [e] at hl; cases hl
      have e : l = l.dropLast ++ [l.getLast hne] := (List.dropLast_concat_getLast hne).symm
      have h1 := ih l.dropLast (by rw [List.length_dropLast]; omega) (fun b hb' => hb b ((List.dropLast_sublist l).subset hb'))
      have h2 := hb (l.getLast hne) (List.getLast_mem hne)
      rw [be_succ]
      have hv : valB l = 256 * valB l.dropLast + l.getLast hne := by rw [← valB_snoc, ← e]
      rw [hv, show (256 * valB l.dropLast + l.getLast hne) / 256 = valB l.dropLast by omega, show (256 * valB l.dropLast + l.getLast hne) % 256 = l.getLast hne by omega, h1, ← e]
  exact fun l hb => key _ l rfl hb
theorem tk_be {wd n : Nat} (h : n < 256 ^ wd) (r : List Nat) (b : Bool) : tkN wd (be wd n ++ r, b) = n ∧ tkS wd (be wd n ++ r, b) = (r, b) := by
  have hl : ¬ (be wd n ++ r).length < wd := by rw [List.length_append, be_len]; omega
  unfold tkN tkS
  rw [if_neg hl, if_neg hl]
  refine ⟨?_, ?_⟩
  · show valB ((be wd n ++ r).take wd) = n
    rw [List.take_left' (be_len wd n), val_be wd n h]
  · show ((be wd n ++ r).drop wd, b) = (r, b)
    rw [List.drop_left' (be_len wd n)]
/-- A number that was there was there. -/
theorem tk_inv {wd : Nat} {s : RdS} (hb : ∀ b ∈ s.1, b < 256) (h : (tkS wd s).2 = false) : s.2 = false ∧ s.1 = be wd (tkN wd s) ++ (tkS wd s).1 := by
  unfold tkS tkN at *
  by_cases hl : s.1.length < wd
  · rw [if_pos hl] at h; cases h
  · rw [if_neg hl] at h ⊢
    rw [if_neg hl]
    refine ⟨h, ?_⟩
    have hk := be_val (s.1.take wd) (fun b hb' => hb b (List.mem_of_mem_take hb'))
    rw [List.length_take, Nat.min_eq_left (by omega)] at hk
    rw [hk]
    exact (List.take_append_drop wd s.1).symm
theorem spB_cons (x : Int) (l : List Int) : spB (x :: l) = be 1 x.toNat ++ spB l := by simp [spB]
theorem drop_cons_at {α : Type} {l : List α} {j : Nat} {x : α} (h : l[j]? = some x) : l.drop j = x :: l.drop (j + 1) := by
  obtain ⟨hj, e⟩ := List.getElem?_eq_some_iff.1 h
  rw [← e]
  exact List.drop_eq_getElem_cons hj
theorem take_snoc_at {α : Type} {l : List α} {j : Nat} {x : α} (h : l[j]? = some x) : l.take (j + 1) = l.take j ++ [x] := by rw [List.take_add_one, h]; rfl
theorem rs_fwd (S : List Int) (hS : ∀ x ∈ S, 0 ≤ x ∧ x < 256) (r : List Nat) (b : Bool) : ∀ j, j ≤ S.length → rsS j (spB S ++ r, b) = (spB (S.drop j) ++ r, b) ∧ rsL j (spB S ++ r, b) = S.take j
  | 0, _ => ⟨rfl, rfl⟩
  | j + 1, hj => by
    obtain ⟨h1, h2⟩ := rs_fwd S hS r b j (by omega)
    obtain ⟨x, hx⟩ : ∃ x, S[j]? = some x := ⟨_, List.getElem?_eq_getElem (by omega)⟩
    have hxr := hS x (List.mem_of_getElem? hx)
    have ht := tk_be (wd := 1) (n := x.toNat) (by omega) (spB (S.drop (j + 1)) ++ r) b
    rw [rsS, rsL, h1, h2, drop_cons_at hx, spB_cons, List.append_assoc, ht.1, ht.2, take_snoc_at hx]
    refine ⟨rfl, ?_⟩
    rw [Int.toNat_of_nonneg hxr.1]
theorem rs_inv (n : Nat) {s : RdS} (hb : ∀ b ∈ s.1, b < 256) (h : (rsS n s).2 = false) : s.2 = false ∧ s.1 = spB (rsL n s) ++ (rsS n s).1 := by
  induction n with
  | zero => exact ⟨h, by simp [rsL, rsS, spB]⟩
  | succ n ih =>
    obtain ⟨h1, h2⟩ := tk_inv (rsS_mem hb) h
    obtain ⟨h3, h4⟩ := ih h1
    refine ⟨h3, ?_⟩
    show s.1 = spB (rsL n s ++ [(tkN 1 (rsS n s) : Int)]) ++ (tkS 1 (rsS n s)).1
    have e : spB (rsL n s ++ [(tkN 1 (rsS n s) : Int)]) = spB (rsL n s) ++ be 1 (tkN 1 (rsS n s)) := by simp [spB]
    rw [e, List.append_assoc, ← h2]
    exact h4
theorem rd_fwd {n : Int} {r : Rl} (hr : chk n r = true) (rest : List Nat) (b : Bool) : rdR (ruB r ++ rest, b) = r ∧ rdRS (ruB r ++ rest, b) = (rest, b) := by
  obtain ⟨k1, k2, k3, k4, k5, k6⟩ := rule_small hr
  have e : ruB r ++ rest = be 1 r.kind.toNat ++ (be 4 r.k.toNat ++ (be 1 r.steps.length ++ (spB r.steps ++ rest))) := by simp [ruB]
  have t1 := tk_be (wd := 1) (n := r.kind.toNat) (by omega) (be 4 r.k.toNat ++ (be 1 r.steps.length ++ (spB r.steps ++ rest))) b
  have t2 := tk_be (wd := 4) (n := r.k.toNat) (by omega) (be 1 r.steps.length ++ (spB r.steps ++ rest)) b
  have t3 := tk_be (wd := 1) (n := r.steps.length) (by omega) (spB r.steps ++ rest) b
  have t4 := rs_fwd r.steps (fun x hx => by have := k5 x hx; omega) rest b r.steps.length (Nat.le_refl _)
  unfold rdR rdRS
  rw [e, t1.1, t1.2, t2.1, t2.2, t3.1, t3.2, t4.1, t4.2, List.take_length, List.drop_length]
  refine ⟨?_, rfl⟩
  rw [Int.toNat_of_nonneg k1, Int.toNat_of_nonneg k3]
theorem rd_inv {s : RdS} (hb : ∀ b ∈ s.1, b < 256) (h : (rdRS s).2 = false) : s.2 = false ∧ s.1 = ruB (rdR s) ++ (rdRS s).1 := by
  obtain ⟨a1, a2⟩ := rs_inv _ (tkS_mem (wd := 1) (tkS_mem (wd := 4) (tkS_mem (wd := 1) hb))) h
  obtain ⟨b1, b2⟩ := tk_inv (tkS_mem (wd := 4) (tkS_mem (wd := 1) hb)) a1
  obtain ⟨c1, c2⟩ := tk_inv (tkS_mem (wd := 1) hb) b1
  obtain ⟨d1, d2⟩ := tk_inv hb c1
  refine ⟨d1, ?_⟩
  have e : ruB (rdR s) = be 1 (tkN 1 s) ++ be 4 (tkN 4 (tkS 1 s)) ++ be 1 (tkN 1 (tkS 4 (tkS 1 s))) ++ spB (rsL (tkN 1 (tkS 4 (tkS 1 s))) (tkS 1 (tkS 4 (tkS 1 s)))) := by
    unfold ruB rdR
    simp only [rsL_len, Int.toNat_natCast]
  have a2' : (tkS 1 (tkS 4 (tkS 1 s))).1 = spB (rsL (tkN 1 (tkS 4 (tkS 1 s))) (tkS 1 (tkS 4 (tkS 1 s)))) ++ (rdRS s).1 := a2
  rw [e]
  simp only [List.append_assoc]
  rw [← a2', ← b2, ← c2]
  exact d2
theorem rusB_cons (r : Rl) (l : List Rl) : rusB (r :: l) = ruB r ++ rusB l := by simp [rusB]
theorem cr_fwd {n : Int} (R : List Rl) (hR : ∀ r ∈ R, chk n r = true) (rest : List Nat) (b : Bool) : ∀ j, j ≤ R.length → crS j (rusB R ++ rest, b) = (rusB (R.drop j) ++ rest, b) ∧ crL j (rusB R ++ rest, b) = R.take j
  | 0, _ => ⟨rfl, rfl⟩
  | j + 1, hj => by
    obtain ⟨h1, h2⟩ := cr_fwd R hR rest b j (by omega)
    obtain ⟨x, hx⟩ : ∃ x, R[j]? = some x := ⟨_, List.getElem?_eq_getElem (by omega)⟩
    have ht := rd_fwd (hR x (List.mem_of_getElem? hx)) (rusB (R.drop (j + 1)) ++ rest) b
    rw [crS, crL, h1, h2, drop_cons_at hx, rusB_cons, List.append_assoc, ht.1, ht.2, take_snoc_at hx]
    exact ⟨rfl, rfl⟩
theorem cr_inv (n : Nat) {s : RdS} (hb : ∀ b ∈ s.1, b < 256) (h : (crS n s).2 = false) : s.2 = false ∧ s.1 = rusB (crL n s) ++ (crS n s).1 := by
  induction n with
  | zero => exact ⟨h, by simp [crL, crS, rusB]⟩
  | succ n ih =>
    obtain ⟨h1, h2⟩ := rd_inv (crS_mem hb) h
    obtain ⟨h3, h4⟩ := ih h1
    refine ⟨h3, ?_⟩
    show s.1 = rusB (crL n s ++ [rdR (crS n s)]) ++ (rdRS (crS n s)).1
    have e : rusB (crL n s ++ [rdR (crS n s)]) = rusB (crL n s) ++ ruB (rdR (crS n s)) := by simp [rusB]
    rw [e, List.append_assoc, ← h2]
    exact h4
/-- The bytes of the steps from one on. -/
def stT (P : Pb) (L : List Int) (j : Nat) : List Nat := ((List.range P.who.length).drop j).flatMap (stB P L)
theorem stT_step {P : Pb} {L : List Int} {j : Nat} (h : j < P.who.length) : stT P L j = stB P L j ++ stT P L (j + 1) := by
  unfold stT
  rw [drop_cons_at (x := j) (by rw [List.getElem?_range h])]
  simp
theorem cs_fwd (P : Pb) (L : List Int) (hh : holP P L = true) (hk : Pok P) (rest : List Nat) (b : Bool) : ∀ j, j ≤ P.who.length → csS j (stT P L 0 ++ rest, b) = (stT P L j ++ rest, b) ∧ csW j (stT P L 0 ++ rest, b) = P.who.take j ∧ csF j (stT P L 0 ++ rest, b) = P.fixed.take j ∧ csP j (stT P L 0 ++ rest, b) = L.take j
  | 0, _ => ⟨rfl, rfl, rfl, rfl⟩
  | j + 1, hj => by
    obtain ⟨h1, h2, h3, h4⟩ := cs_fwd P L hh hk rest b j (by omega)
    have hC := holP_chk hh
    obtain ⟨_, g0, g64, _, gF, _, _⟩ := chkN_zero hC
    obtain ⟨gl, gx⟩ := fixB_of gF g64
    have hl : L.length = P.who.length := by unfold holP at hh; simp only [Bool.and_eq_true, decide_eq_true_eq] at hh; exact hh.1.1.2
    obtain ⟨z, hz⟩ : ∃ x, P.who[j]? = some x := ⟨_, List.getElem?_eq_getElem (by omega)⟩
    obtain ⟨y, hy⟩ : ∃ x, P.fixed[j]? = some x := ⟨_, List.getElem?_eq_getElem (by omega)⟩
    obtain ⟨x, hx⟩ : ∃ x, L[j]? = some x := ⟨_, List.getElem?_eq_getElem (by omega)⟩
    have hzb := hk.b z (List.mem_of_getElem? hz)
    have hyb := gx y (List.mem_of_getElem? hy)
    have hxb : 0 ≤ x ∧ x < 64 := by
      unfold holP at hh
      simp only [Bool.and_eq_true, decide_eq_true_eq] at hh
      have q3 := hh.1.2
      unfold okA at q3
      rw [List.all_eq_true] at q3
      have q4 := q3 j (List.mem_range.2 (by omega))
      rw [show L.getD j 0 = x by simp [List.getD_eq_getElem?_getD, hx]] at q4
      unfold okU at q4
      rw [Bool.and_eq_true] at q4
      have q5 := (isU_iff P x).1 q4.1
      omega
    have e : stT P L j ++ rest = be 8 z ++ (be 1 (y + 1).toNat ++ (be 1 x.toNat ++ (stT P L (j + 1) ++ rest))) := by
      rw [stT_step (by omega), stB_at hz hy hx]; simp
    have t1 := tk_be (wd := 8) (n := z) hzb (be 1 (y + 1).toNat ++ (be 1 x.toNat ++ (stT P L (j + 1) ++ rest))) b
    have t2 := tk_be (wd := 1) (n := (y + 1).toNat) (by omega) (be 1 x.toNat ++ (stT P L (j + 1) ++ rest)) b
    have t3 := tk_be (wd := 1) (n := x.toNat) (by omega) (stT P L (j + 1) ++ rest) b
    rw [csS, csW, csF, csP, h1, h2, h3, h4, e, t1.1, t1.2, t2.1, t2.2, t3.1, t3.2, take_snoc_at hz, take_snoc_at hy, take_snoc_at hx]
    refine ⟨rfl, rfl, ?_, ?_⟩
    · rw [Int.toNat_of_nonneg (by omega)]; simp
    · rw [Int.toNat_of_nonneg hxb.1]
theorem stT_zero (P : Pb) (L : List Int) : stT P L 0 = stsB P L P.who.length := rfl
/-- What is written is read. -/
theorem back_fwd {P : Pb} {L : List Int} (hh : holP P L = true) (hk : Pok P) : rcP (certL P L, false) = P ∧ rcL (certL P L, false) = L ∧ rcS (certL P L, false) = ([], false) := by
  have hC := holP_chk hh
  obtain ⟨g12, g0, g64, g32, gF, _, gR⟩ := chkN_zero hC
  obtain ⟨gl, gx⟩ := fixB_of gF g64
  have hl : L.length = P.who.length := by unfold holP at hh; simp only [Bool.and_eq_true, decide_eq_true_eq] at hh; exact hh.1.1.2
  have e : certL P L = be 2 20547 ++ (be 1 P.users.toNat ++ (be 1 P.who.length ++ (stT P L 0 ++ (be 1 P.rules.length ++ (rusB P.rules ++ []))))) := by
    unfold certL hdB
    rw [stT_zero]
    simp
  have t0 := tk_be (wd := 2) (n := 20547) (by decide) (be 1 P.users.toNat ++ (be 1 P.who.length ++ (stT P L 0 ++ (be 1 P.rules.length ++ (rusB P.rules ++ []))))) false
  have t1 := tk_be (wd := 1) (n := P.users.toNat) (by omega) (be 1 P.who.length ++ (stT P L 0 ++ (be 1 P.rules.length ++ (rusB P.rules ++ [])))) false
  have t2 := tk_be (wd := 1) (n := P.who.length) (by omega) (stT P L 0 ++ (be 1 P.rules.length ++ (rusB P.rules ++ []))) false
  have t3 := cs_fwd P L hh hk (be 1 P.rules.length ++ (rusB P.rules ++ [])) false P.who.length (Nat.le_refl _)
  have t4 := tk_be (wd := 1) (n := P.rules.length) (by omega) (rusB P.rules ++ []) false
  have t5 := cr_fwd (n := (P.who.length : Int)) P.rules (fun r hr => List.all_eq_true.1 gR r hr) [] false P.rules.length (Nat.le_refl _)
  have hm : mkS (certL P L, false) = (be 1 P.users.toNat ++ (be 1 P.who.length ++ (stT P L 0 ++ (be 1 P.rules.length ++ (rusB P.rules ++ [])))), false) := by
    unfold mkS
    rw [e, t0.1, if_pos rfl, t0.2]
  have hd : stT P L P.who.length = [] := by
    unfold stT
    rw [List.drop_eq_nil_of_le (by simp)]
    rfl
  rw [hd, List.nil_append] at t3
  have hN : rcN (certL P L, false) = P.who.length := by unfold rcN; rw [hm, t1.2, t2.1]
  have hA : rcA (certL P L, false) = (stT P L 0 ++ (be 1 P.rules.length ++ (rusB P.rules ++ [])), false) := by unfold rcA; rw [hm, t1.2, t2.2]
  have hK : rcK (certL P L, false) = P.rules.length := by unfold rcK; rw [hN, hA, t3.1, t4.1]
  have hB : rcB (certL P L, false) = (rusB P.rules ++ [], false) := by unfold rcB; rw [hN, hA, t3.1, t4.2]
  refine ⟨?_, ?_, ?_⟩
  · unfold rcP
    rw [hN, hA, hK, hB, hm, t1.1, t3.2.1, t3.2.2.1, t5.2, List.take_length, List.take_length, List.take_of_length_le (by omega), Int.toNat_of_nonneg g0]
  · unfold rcL
    rw [hN, hA, t3.2.2.2, List.take_of_length_le (by omega)]
  · unfold rcS
    rw [hK, hB, t5.1, List.drop_length]
    rfl
theorem back_rd {P : Pb} {L : List Int} (hh : holP P L = true) (hk : Pok P) : rdN (certL P L) = 0 ∧ rdP (certL P L) = P ∧ rdL (certL P L) = L := by
  obtain ⟨h1, h2, h3⟩ := back_fwd hh hk
  have h0 : rdN (certL P L) = 0 := by
    unfold rdN rdF_
    rw [h1, h2, h3, if_pos ⟨rfl, holP_chk hh⟩, hh, if_pos rfl]
  refine ⟨h0, ?_, ?_⟩
  · unfold rdP; rw [if_pos h0]; exact h1
  · unfold rdL; rw [if_pos h0]; exact h2
end Go.Proofs.YtgmjmliemjgioaaDoor.S
namespace Go.Proofs.YtgmjmliemjgioaaDoor.S
open Go.RowKit Go.Shelf
theorem getD_left {α : Type} {l : List α} {x d : α} {i : Nat} (h : i < l.length) : (l ++ [x]).getD i d = l.getD i d := by
  simp [List.getD_eq_getElem?_getD, List.getElem?_append_left h]
theorem stsB_snoc (u u' : Int) (W : List Nat) (F : List Int) (R R' : List Rl) (L : List Int) (z : Nat) (y x : Int) (n : Nat) (hW : W.length = n) (hF : F.length = n) (hL : L.length = n) :
    stsB ⟨u, W ++ [z], F ++ [y], R⟩ (L ++ [x]) (n + 1) = stsB ⟨u', W, F, R'⟩ L n ++ (be 8 z ++ be 1 (y + 1).toNat ++ be 1 x.toNat) := by
  rw [stsB_succ]
  congr 1
  · unfold stsB
    have : ∀ t ∈ List.range n, stB ⟨u, W ++ [z], F ++ [y], R⟩ (L ++ [x]) t = stB ⟨u', W, F, R'⟩ L t := fun t ht => by
      rw [List.mem_range] at ht
      unfold stB
      show be 8 ((W ++ [z]).getD t 0) ++ be 1 ((F ++ [y]).getD t 0 + 1).toNat ++ be 1 ((L ++ [x]).getD t 0).toNat = be 8 (W.getD t 0) ++ be 1 (F.getD t 0 + 1).toNat ++ be 1 (L.getD t 0).toNat
      rw [getD_left (by omega), getD_left (by omega), getD_left (by omega)]
    rw [List.flatMap_def, List.flatMap_def, List.map_congr_left this]
  · refine stB_at ?_ ?_ ?_
    · show (W ++ [z])[n]? = some z
      rw [← hW]; simp
    · show (F ++ [y])[n]? = some y
      rw [← hF]; simp
    · rw [← hL]; simp
theorem cs_inv (u : Int) (R : List Rl) (n : Nat) {s : RdS} (hb : ∀ b ∈ s.1, b < 256) (h : (csS n s).2 = false) : s.2 = false ∧ s.1 = stsB ⟨u, csW n s, csF n s, R⟩ (csP n s) n ++ (csS n s).1 := by
  induction n with
  | zero => exact ⟨h, by simp [csS, stsB]⟩
  | succ n ih =>
    have hc := csS_mem (n := n) hb
    obtain ⟨a1, a2⟩ := tk_inv (tkS_mem (wd := 1) (tkS_mem (wd := 8) hc)) h
    obtain ⟨b1, b2⟩ := tk_inv (tkS_mem (wd := 8) hc) a1
    obtain ⟨c1, c2⟩ := tk_inv hc b1
    obtain ⟨d1, d2⟩ := ih c1
    refine ⟨d1, ?_⟩
    show s.1 = stsB ⟨u, csW n s ++ [tkN 8 (csS n s)], csF n s ++ [(tkN 1 (tkS 8 (csS n s)) : Int) - 1], R⟩ (csP n s ++ [(tkN 1 (tkS 1 (tkS 8 (csS n s))) : Int)]) (n + 1) ++ (tkS 1 (tkS 1 (tkS 8 (csS n s)))).1
    rw [stsB_snoc u u _ _ R R _ _ _ _ n (csW_len n s) (csF_len n s) (csP_len n s)]
    have e1 : ((tkN 1 (tkS 8 (csS n s)) : Int) - 1 + 1).toNat = tkN 1 (tkS 8 (csS n s)) := by omega
    rw [e1, Int.toNat_natCast]
    simp only [List.append_assoc]
    rw [← a2, ← b2, ← c2]
    exact d2
/-- What is taken is written again. -/
theorem back_inv {L : List Nat} (hb : ∀ b ∈ L, b < 256) (h : (rcS (L, false)).2 = false) (h0 : (rcS (L, false)).1.length = 0) : certL (rcP (L, false)) (rcL (L, false)) = L := by
  have hm := mkS_mem (s := (L, false)) hb
  have hA : ∀ b ∈ (rcA (L, false)).1, b < 256 := tkS_mem (tkS_mem hm)
  have hBm : ∀ b ∈ (rcB (L, false)).1, b < 256 := tkS_mem (csS_mem hA)
  obtain ⟨a1, a2⟩ := cr_inv (rcK (L, false)) hBm h
  obtain ⟨b1, b2⟩ := tk_inv (csS_mem (n := rcN (L, false)) hA) a1
  obtain ⟨c1, c2⟩ := cs_inv ((tkN 1 (mkS (L, false)) : Nat) : Int) (crL (rcK (L, false)) (rcB (L, false))) (rcN (L, false)) hA b1
  obtain ⟨d1, d2⟩ := tk_inv (tkS_mem (wd := 1) hm) c1
  obtain ⟨e1, e2⟩ := tk_inv hm d1
  have hk : tkN 2 (L, false) = 20547 := by
    by_cases q : tkN 2 (L, false) = 20547
    · exact q
    · unfold mkS at e1
      rw [if_neg q] at e1
      cases e1
  have hms : mkS (L, false) = tkS 2 (L, false) := by unfold mkS; rw [if_pos hk]
  rw [hms] at e1
  obtain ⟨_, f2⟩ := tk_inv (s := (L, false)) hb e1
  have hz : (crS (rcK (L, false)) (rcB (L, false))).1 = [] := List.eq_nil_of_length_eq_zero h0
  rw [hz, List.append_nil] at a2
  have a2' : (tkS 1 (csS (rcN (L, false)) (rcA (L, false)))).1 = rusB (crL (rcK (L, false)) (rcB (L, false))) := a2
  have c2' : (tkS 1 (tkS 1 (mkS (L, false)))).1 = stsB (rcP (L, false)) (rcL (L, false)) (rcN (L, false)) ++ (csS (rcN (L, false)) (rcA (L, false))).1 := c2
  have b2' : (csS (rcN (L, false)) (rcA (L, false))).1 = be 1 (rcK (L, false)) ++ (tkS 1 (csS (rcN (L, false)) (rcA (L, false)))).1 := b2
  have d2' : (tkS 1 (mkS (L, false))).1 = be 1 (rcN (L, false)) ++ (tkS 1 (tkS 1 (mkS (L, false)))).1 := d2
  have hw : (rcP (L, false)).who.length = rcN (L, false) := csW_len _ _
  have hr : (rcP (L, false)).rules.length = rcK (L, false) := crL_len _ _
  have hu : (rcP (L, false)).users.toNat = tkN 1 (mkS (L, false)) := Int.toNat_natCast _
  unfold certL hdB
  rw [hw, hr, hu]
  simp only [List.append_assoc]
  have hrr : rusB (rcP (L, false)).rules = (tkS 1 (csS (rcN (L, false)) (rcA (L, false)))).1 := a2'.symm
  rw [hrr, ← b2', ← c2', ← d2', ← e2, hms, ← hk]
  exact f2.symm
theorem back_wr {L : List Nat} (hb : ∀ b ∈ L, b < 256) (h : rdN L = 0) : holP (rdP L) (rdL L) = true ∧ certL (rdP L) (rdL L) = L ∧ Pok (rdP L) := by
  have hP : rdP L = rcP (L, false) := by unfold rdP; rw [if_pos h]
  have hL : rdL L = rcL (L, false) := by unfold rdL; rw [if_pos h]
  rw [hP, hL]
  unfold rdN at h
  split at h
  · rename_i hc
    split at h
    · rename_i hh
      have hf := hc.1
      unfold rdF_ at hf
      rw [Bool.and_eq_true, decide_eq_true_eq] at hf
      have hf1 : (rcS (L, false)).2 = false := by cases q : (rcS (L, false)).2; rfl; rw [q] at hf; cases hf.1
      exact ⟨hh, back_inv hb hf1 hf.2, rcP_ok hb⟩
    · cases h
  · cases h
end Go.Proofs.YtgmjmliemjgioaaDoor.S
namespace Go.Proofs.YtgmjmliemjgioaaDoor.S
open Go.RowKit Go.Shelf
/-- What is written is read, whatever stands behind it. -/
theorem back_rest {P : Pb} {L : List Int} (hh : holP P L = true) (hk : Pok P) (r : List Nat) : rcP (certL P L ++ r, false) = P ∧ rcL (certL P L ++ r, false) = L ∧ rcS (certL P L ++ r, false) = (r, false) := by
  have hC := holP_chk hh
  obtain ⟨g12, g0, g64, g32, gF, _, gR⟩ := chkN_zero hC
  obtain ⟨gl, gx⟩ := fixB_of gF g64
  have hl : L.length = P.who.length := by unfold holP at hh; simp only [Bool.and_eq_true, decide_eq_true_eq] at hh; exact hh.1.1.2
  have e : certL P L ++ r = be 2 20547 ++ (be 1 P.users.toNat ++ (be 1 P.who.length ++ (stT P L 0 ++ (be 1 P.rules.length ++ (rusB P.rules ++ r))))) := by
    unfold certL hdB
    rw [stT_zero]
    simp
  have t0 := tk_be (wd := 2) (n := 20547) (by decide) (be 1 P.users.toNat ++ (be 1 P.who.length ++ (stT P L 0 ++ (be 1 P.rules.length ++ (rusB P.rules ++ r))))) false
  have t1 := tk_be (wd := 1) (n := P.users.toNat) (by omega) (be 1 P.who.length ++ (stT P L 0 ++ (be 1 P.rules.length ++ (rusB P.rules ++ r)))) false
  have t2 := tk_be (wd := 1) (n := P.who.length) (by omega) (stT P L 0 ++ (be 1 P.rules.length ++ (rusB P.rules ++ r))) false
  have t3 := cs_fwd P L hh hk (be 1 P.rules.length ++ (rusB P.rules ++ r)) false P.who.length (Nat.le_refl _)
  have t4 := tk_be (wd := 1) (n := P.rules.length) (by omega) (rusB P.rules ++ r) false
  have t5 := cr_fwd (n := (P.who.length : Int)) P.rules (fun x hx => List.all_eq_true.1 gR x hx) r false P.rules.length (Nat.le_refl _)
  have hm : mkS (certL P L ++ r, false) = (be 1 P.users.toNat ++ (be 1 P.who.length ++ (stT P L 0 ++ (be 1 P.rules.length ++ (rusB P.rules ++ r)))), false) := by
    unfold mkS
    rw [e, t0.1, if_pos rfl, t0.2]
  have hd : stT P L P.who.length = [] := by
    unfold stT
    rw [List.drop_eq_nil_of_le (by simp)]
    rfl
  rw [hd, List.nil_append] at t3
  have hN : rcN (certL P L ++ r, false) = P.who.length := by unfold rcN; rw [hm, t1.2, t2.1]
  have hA : rcA (certL P L ++ r, false) = (stT P L 0 ++ (be 1 P.rules.length ++ (rusB P.rules ++ r)), false) := by unfold rcA; rw [hm, t1.2, t2.2]
  have hK : rcK (certL P L ++ r, false) = P.rules.length := by unfold rcK; rw [hN, hA, t3.1, t4.1]
  have hB : rcB (certL P L ++ r, false) = (rusB P.rules ++ r, false) := by unfold rcB; rw [hN, hA, t3.1, t4.2]
  refine ⟨?_, ?_, ?_⟩
  · unfold rcP
    rw [hN, hA, hK, hB, hm, t1.1, t3.2.1, t3.2.2.1, t5.2, List.take_length, List.take_length, List.take_of_length_le (by omega), Int.toNat_of_nonneg g0]
  · unfold rcL
    rw [hN, hA, t3.2.2.2, List.take_of_length_le (by omega)]
  · unfold rcS
    rw [hK, hB, t5.1, List.drop_length]
    rfl
/-- With bytes more it is none. -/
theorem more_none {P : Pb} {L : List Int} (hh : holP P L = true) (hk : Pok P) {r : List Nat} (hr : r ≠ []) : rdN (certL P L ++ r) ≠ 0 := by
  obtain ⟨_, _, h3⟩ := back_rest hh hk r
  have hf : rdF_ (certL P L ++ r) = false := by
    unfold rdF_
    rw [h3]
    have : ¬ r.length = 0 := fun e => hr (List.eq_nil_of_length_eq_zero e)
    simp [this]
  unfold rdN
  rw [if_neg (fun q => by rw [hf] at q; cases q.1)]
  decide
/-- With bytes less it is none. -/
theorem less_none {P : Pb} {L : List Int} (hh : holP P L = true) (hk : Pok P) {a r : List Nat} (e : certL P L = a ++ r) (hr : r ≠ []) (ha : ∀ b ∈ a, b < 256) : rdN a ≠ 0 := fun h0 => by
  obtain ⟨h1, h2, h3⟩ := back_wr ha h0
  have h4 := more_none h1 h3 hr
  rw [h2, ← e] at h4
  exact h4 (back_rd hh hk).1
end Go.Proofs.YtgmjmliemjgioaaDoor.S
namespace Go.Proofs.YtgmjmliemjgioaaDoor.S
open Go.RowKit Go.Shelf
theorem rd_bad {L : List Nat} {e : Nat} (h : rdN L = e) (h0 : e ≠ 0) : rdN L = e ∧ rdP L = ⟨0, [], [], []⟩ ∧ rdL L = [] := by
  refine ⟨h, ?_, ?_⟩
  · unfold rdP; rw [if_neg (by rw [h]; exact h0)]
  · unfold rdL; rw [if_neg (by rw [h]; exact h0)]
set_option maxRecDepth 100000 in
set_option maxHeartbeats 8000000 in
theorem readF (L : List Nat) (oa : Option Addr) (cap : Nat) (w : World) (h : RowB w (.slice oa L.length cap) L) (hb : ∀ b ∈ L, b < 256) (hcap : L.length ≤ cap) (hlow : ∀ ad, oa = some ad → ad.block < w.heap.size) (hl : L.length ≤ 100000) :
    Calls Tryd.prog 13 #[.slice oa L.length cap] w (ReP w L) := by
  have hbA : Below w.heap.size w (w.alloc (.cells #[.int .i64 0, .slice none 0 0, .slice none 0 0, .slice none 0 0] 26)) := (Below.refl _ w).alloc (Nat.le_refl _) _
  have hbB := (Below.refl _ (w.alloc (.cells #[.int .i64 0, .slice none 0 0, .slice none 0 0, .slice none 0 0] 26))).alloc (Nat.le_refl _) (.cells #[.slice oa L.length cap, .bool false] 65)
  have hzA : (w.alloc (.cells #[.int .i64 0, .slice none 0 0, .slice none 0 0, .slice none 0 0] 26)).heap.size = w.heap.size + 1 := by simp
  have hzB : ((w.alloc (.cells #[.int .i64 0, .slice none 0 0, .slice none 0 0, .slice none 0 0] 26)).alloc (.cells #[.slice oa L.length cap, .bool false] 65)).heap.size = w.heap.size + 2 := by simp
  have hq0 : QAt (w.alloc (.cells #[.int .i64 0, .slice none 0 0, .slice none 0 0, .slice none 0 0] 26)) w.heap.size 0 (.slice none 0 0) (.slice none 0 0) (.slice none 0 0) := QAt.block (heap_new w _)
  rw [hzA] at hbB
  have hq1 := hide' (hq0.of (hbB.block w.heap.size (Nat.lt_succ_self _)))
  have hw1 : Hid (Below w.heap.size w ((w.alloc (.cells #[.int .i64 0, .slice none 0 0, .slice none 0 0, .slice none 0 0] 26)).alloc (.cells #[.slice oa L.length cap, .bool false] 65))) := hbA.trans (hbB.mono (Nat.le_succ _))
  have hrd : Hid (Rd (w.heap.size + 2) ((w.alloc (.cells #[.int .i64 0, .slice none 0 0, .slice none 0 0, .slice none 0 0] 26)).alloc (.cells #[.slice oa L.length cap, .bool false] 65)) (w.heap.size + 1) (.slice oa L.length cap) (L, false)) := by
    refine ⟨?_, h.below hw1.out (Nat.le_refl _), hb, fun a n c e => by cases e; exact hcap, fun ad n c e => by cases e; have := hlow ad rfl; omega, by omega⟩
    have hr := World.rowIs_alloc (w.alloc (.cells #[.int .i64 0, .slice none 0 0, .slice none 0 0, .slice none 0 0] 26)) #[.slice oa L.length cap, .bool false] 65 (rdF (.slice oa L.length cap) false) fun i hi => by
      have hi : i < 2 := hi
      rcases (show i = 0 ∨ i = 1 by omega) with rfl | rfl <;> rfl
    rw [hzA] at hr
    exact hr
  have hok := hide' (rcP_ok (s := (L, false)) hb)
  have hlL := hide' (rcL_len (s := (L, false)) hb)
  clear h hb hcap hlow hbA hbB hq0
  go_enter Tryd.func13, Tryd.ntmps13
  go_wp2_with fail
  clear hzA
  generalize (w.alloc (.cells #[.int .i64 0, .slice none 0 0, .slice none 0 0, .slice none 0 0] 26)).alloc (.cells #[.slice oa L.length cap, .bool false] 65) = w1 at *
  refine (readCF (w.heap.size + 2) (w.heap.size + 1) _ (L, false) w1 hrd.out (by omega) hl).mono ?_
  rintro e w2 ⟨va, vb, vc, vp, v2, E, rfl, hrows, hrd2, hfr⟩
  have hsz2 : w.heap.size + 2 ≤ w2.heap.size := by have := hfr.out.size; omega
  have hR2 : Hid (Re w (rcP (L, false)) w2.heap.size va vb vc vp (rcL (L, false)) E (w2.alloc (.cells #[.int .i64 (rcP (L, false)).users, va, vb, vc] 26))) := by
    obtain ⟨k1, k2, k3, k4, k5⟩ := hrows.out
    rw [hzB] at k1 k2 k3 k5
    have hbx : Below w2.heap.size w2 (w2.alloc (.cells #[.int .i64 (rcP (L, false)).users, va, vb, vc] 26)) := (Below.refl _ w2).alloc (Nat.le_refl _) _
    have hq2 := hq1.out.of (hfr.out.block w.heap.size hq1.out.lt (by omega))
    have hb2 : Below w.heap.size w w2 := hfr.out.new hw1.out (by omega) (by omega)
    exact ⟨hq2.of (hbx.block _ hq2.lt), heap_new w2 _, own_lowB k1 hbx, own_lowB k2 hbx, k3.below hbx (Nat.le_refl _), own_lowB k5 hbx, k4, hb2.trans (hbx.mono hb2.size)⟩
  have hrd3 := hide' (hrd2.out.over (((Below.refl _ w2).alloc (Nat.le_refl _) (.cells #[.int .i64 (rcP (L, false)).users, va, vb, vc] 26)).mono hsz2))
  obtain ⟨oA, nA, cA, rfl⟩ : ∃ a b c, va = .slice a b c := by obtain ⟨a, c, e⟩ := own_shp hR2.out.r1; exact ⟨a, _, c, e⟩
  obtain ⟨oB, nB, cB, rfl⟩ : ∃ a b c, vb = .slice a b c := by obtain ⟨a, c, e⟩ := own_shp hR2.out.r2; exact ⟨a, _, c, e⟩
  obtain ⟨oC, nC, cC, rfl⟩ : ∃ a b c, vc = .slice a b c := by obtain ⟨a, c, e⟩ := own_shp hR2.out.r3.row; exact ⟨a, _, c, e⟩
  obtain ⟨oP, nP, cP, rfl⟩ : ∃ a b c, vp = .slice a b c := by obtain ⟨a, c, e⟩ := own_shp hR2.out.rp; exact ⟨a, _, c, e⟩
  clear hrows hrd2 hfr hrd hw1 hq1 hzB
  go_upto_region 3 with fail
  have KF : Hid (∀ V, Re w (rcP (L, false)) w2.heap.size (.slice oA nA cA) (.slice oB nB cB) (.slice oC nC cC) (.slice oP nP cP) (rcL (L, false)) E V → Calls Tryd.prog 8 #[.agg #[.int .i64 (rcP (L, false)).users, .slice oA nA cA, .slice oB nB cB, .slice oC nC cC], .slice oP nP cP] V (FlP V (rcP (L, false)) (rcL (L, false)))) := fun V hV => flawsPF (rcP (L, false)) _ _ _ (rcL (L, false)) _ V hV.pv (RowI.of_owns hV.rp) hlL.out hok.out
  generalize w2.alloc (.cells #[.int .i64 (rcP (L, false)).users, .slice oA nA cA, .slice oB nB cB, .slice oC nC cC] 26) = w3 at *
  generalize w2.heap.size = gp at *
  have c1 := hrd3.out.c1
  have c0 := hrd3.out.c0
  obtain ⟨o2, n2, e2⟩ := hrd3.out.shp
  subst e2
  clear hok hlL hsz2
  have hFl : Hid (rdF_ L = (!(rcS (L, false)).2 && decide ((rcS (L, false)).1.length = 0))) := rfl
  have hR := hR2
  clear hR2
  by_cases hwr : (rcS (L, false)).2 = true
  · as_aux_lemma =>
    have hP : Hid (rdN L = 3 ∧ rdP L = ⟨0, [], [], []⟩ ∧ rdL L = []) := rd_bad (by unfold rdN; rw [if_neg (by rw [hFl.out, hwr]; simp)]) (by decide)
    rw [hwr] at c1
    have f0 := hR.out.z.frz 0
    have y0 := hR.out.z.c0
    have f1 := (hR.out.z.s0 0).frz 1
    have y1 := (hR.out.z.s0 0).c1
    have f2 := ((hR.out.z.s0 0).s1 (.slice none 0 0)).frz 2
    have y2 := ((hR.out.z.s0 0).s1 (.slice none 0 0)).c2
    have f3 := (((hR.out.z.s0 0).s1 (.slice none 0 0)).s2 (.slice none 0 0)).frz 3
    have y3 := (((hR.out.z.s0 0).s1 (.slice none 0 0)).s2 (.slice none 0 0)).c3
    have x0 := ((((hR.out.z.s0 0).s1 (.slice none 0 0)).s2 (.slice none 0 0)).s3 (.slice none 0 0)).c0
    have x1 := ((((hR.out.z.s0 0).s1 (.slice none 0 0)).s2 (.slice none 0 0)).s3 (.slice none 0 0)).c1
    have x2 := ((((hR.out.z.s0 0).s1 (.slice none 0 0)).s2 (.slice none 0 0)).s3 (.slice none 0 0)).c2
    have x3 := ((((hR.out.z.s0 0).s1 (.slice none 0 0)).s2 (.slice none 0 0)).s3 (.slice none 0 0)).c3
    have hF := hide' (hR.out.fin (.int .i64 0) (.slice none 0 0) (.slice none 0 0) (.slice none 0 0))
    clear KF hrd3 hFl hwr hR
    go_wp2
    refine bodyPost_ret (v := .tuple #[.agg #[.int .i64 0, .slice none 0 0, .slice none 0 0, .slice none 0 0], .slice none 0 0, .int .i64 3]) (by simp [results, Tryd.results13, go_sem, x0, x1, x2, x3]) rfl ?_
    unfold ReP
    rw [hP.out.1, hP.out.2.1, hP.out.2.2]
    exact ⟨_, _, _, _, rfl, nil_pv _, hF.out.2.2⟩
  · have hwr' : (rcS (L, false)).2 = false := by cases q : (rcS (L, false)).2; rfl; exact absurd q hwr
    rw [hwr'] at c1
    by_cases hln : (rcS (L, false)).1.length = 0
    case neg =>
      as_aux_lemma =>
      have hP : Hid (rdN L = 3 ∧ rdP L = ⟨0, [], [], []⟩ ∧ rdL L = []) := rd_bad (by unfold rdN; rw [if_neg (by rw [hFl.out, decide_eq_false hln]; simp)]) (by decide)
      have hln' : (0 : Int) < ((rcS (L, false)).1.length : Int) := by omega
      generalize (rcS (L, false)).1.length = nl at *
      have f0 := hR.out.z.frz 0
      have y0 := hR.out.z.c0
      have f1 := (hR.out.z.s0 0).frz 1
      have y1 := (hR.out.z.s0 0).c1
      have f2 := ((hR.out.z.s0 0).s1 (.slice none 0 0)).frz 2
      have y2 := ((hR.out.z.s0 0).s1 (.slice none 0 0)).c2
      have f3 := (((hR.out.z.s0 0).s1 (.slice none 0 0)).s2 (.slice none 0 0)).frz 3
      have y3 := (((hR.out.z.s0 0).s1 (.slice none 0 0)).s2 (.slice none 0 0)).c3
      have x0 := ((((hR.out.z.s0 0).s1 (.slice none 0 0)).s2 (.slice none 0 0)).s3 (.slice none 0 0)).c0
      have x1 := ((((hR.out.z.s0 0).s1 (.slice none 0 0)).s2 (.slice none 0 0)).s3 (.slice none 0 0)).c1
      have x2 := ((((hR.out.z.s0 0).s1 (.slice none 0 0)).s2 (.slice none 0 0)).s3 (.slice none 0 0)).c2
      have x3 := ((((hR.out.z.s0 0).s1 (.slice none 0 0)).s2 (.slice none 0 0)).s3 (.slice none 0 0)).c3
      have hF := hide' (hR.out.fin (.int .i64 0) (.slice none 0 0) (.slice none 0 0) (.slice none 0 0))
      clear KF hrd3 hFl hwr hwr' hR hln
      go_wp2
      refine bodyPost_ret (v := .tuple #[.agg #[.int .i64 0, .slice none 0 0, .slice none 0 0, .slice none 0 0], .slice none 0 0, .int .i64 3]) (by simp [results, Tryd.results13, go_sem, x0, x1, x2, x3]) rfl ?_
      unfold ReP
      rw [hP.out.1, hP.out.2.1, hP.out.2.2]
      exact ⟨_, _, _, _, rfl, nil_pv _, hF.out.2.2⟩
    case pos =>
      have hTr : rdF_ L = true := by rw [hFl.out, hwr', decide_eq_true hln]; rfl
      rw [hln] at c0
      have q0 := hR.out.pb.c0
      have q1 := hR.out.pb.c1
      have q2 := hR.out.pb.c2
      have q3 := hR.out.pb.c3
      unfold FlP flwR at KF
      have hfl : Hid (chkN (rcP (L, false)) = 0 → decide ((flwL (rcP (L, false)) (rcL (L, false))).length = 0) = holP (rcP (L, false)) (rcL (L, false))) := fun hC => flw_hol hC _
      by_cases hC : chkN (rcP (L, false)) = 0
      case neg =>
        as_aux_lemma =>
        have hP : Hid (rdN L = 3 ∧ rdP L = ⟨0, [], [], []⟩ ∧ rdL L = []) := rd_bad (by unfold rdN; rw [if_neg (fun q => hC q.2)]) (by decide)
        have hne : (((chkN (rcP (L, false)) : Nat) : Int) != 0) = true := by rw [bne_iff_ne]; omega
        have hne2 : ((chkN (rcP (L, false)) : Nat) : Int) ≠ 0 := by omega
        rw [if_neg hC] at KF
        generalize chkN (rcP (L, false)) = cc at *
        clear hfl hFl hwr hwr' hTr hrd3 hln
        go_wp2_with fail
        refine (KF.out _ hR.out).mono ?_
        rintro e w4 ⟨v4, rfl, hO4, hb4⟩
        obtain ⟨o4, c4, rfl⟩ := own_shp hO4.out
        have hR4 := hide' (hR.out.over hb4.out)
        clear q0 q1 q2 q3 c0 c1 hR hO4 hb4 KF
        have hR := hR4
        clear hR4
        have f0 := hR.out.z.frz 0
        have y0 := hR.out.z.c0
        have f1 := (hR.out.z.s0 0).frz 1
        have y1 := (hR.out.z.s0 0).c1
        have f2 := ((hR.out.z.s0 0).s1 (.slice none 0 0)).frz 2
        have y2 := ((hR.out.z.s0 0).s1 (.slice none 0 0)).c2
        have f3 := (((hR.out.z.s0 0).s1 (.slice none 0 0)).s2 (.slice none 0 0)).frz 3
        have y3 := (((hR.out.z.s0 0).s1 (.slice none 0 0)).s2 (.slice none 0 0)).c3
        have x0 := ((((hR.out.z.s0 0).s1 (.slice none 0 0)).s2 (.slice none 0 0)).s3 (.slice none 0 0)).c0
        have x1 := ((((hR.out.z.s0 0).s1 (.slice none 0 0)).s2 (.slice none 0 0)).s3 (.slice none 0 0)).c1
        have x2 := ((((hR.out.z.s0 0).s1 (.slice none 0 0)).s2 (.slice none 0 0)).s3 (.slice none 0 0)).c2
        have x3 := ((((hR.out.z.s0 0).s1 (.slice none 0 0)).s2 (.slice none 0 0)).s3 (.slice none 0 0)).c3
        have hF := hide' (hR.out.fin (.int .i64 0) (.slice none 0 0) (.slice none 0 0) (.slice none 0 0))
        clear hR hC
        go_wp2
        refine bodyPost_ret (v := .tuple #[.agg #[.int .i64 0, .slice none 0 0, .slice none 0 0, .slice none 0 0], .slice none 0 0, .int .i64 3]) (by simp [results, Tryd.results13, go_sem, x0, x1, x2, x3]) rfl ?_
        unfold ReP
        rw [hP.out.1, hP.out.2.1, hP.out.2.2]
        exact ⟨_, _, _, _, rfl, nil_pv _, hF.out.2.2⟩
      case pos =>
        have hfl' := hfl.out hC
        rw [if_pos hC, hC] at KF
        cases hh : holP (rcP (L, false)) (rcL (L, false)) with
        | false =>
          as_aux_lemma =>
          have hP : Hid (rdN L = 52 ∧ rdP L = ⟨0, [], [], []⟩ ∧ rdL L = []) := rd_bad (by unfold rdN; rw [if_pos ⟨hTr, hC⟩, hh, if_neg (by decide)]) (by decide)
          rw [hh] at hfl'
          have hlp : (0 : Int) < ((flwL (rcP (L, false)) (rcL (L, false))).length : Int) := by have := of_decide_eq_false hfl'; omega
          generalize flwL (rcP (L, false)) (rcL (L, false)) = F at *
          clear hfl hFl hwr hwr' hTr hrd3 hln hfl' hh hC
          go_wp2_with fail
          refine (KF.out _ hR.out).mono ?_
          rintro e w4 ⟨v4, rfl, hO4, hb4⟩
          obtain ⟨o4, c4, rfl⟩ := own_shp hO4.out
          have hR4 := hide' (hR.out.over hb4.out)
          clear q0 q1 q2 q3 c0 c1 hR hO4 hb4 KF
          have hR := hR4
          clear hR4
          have f0 := hR.out.z.frz 0
          have y0 := hR.out.z.c0
          have f1 := (hR.out.z.s0 0).frz 1
          have y1 := (hR.out.z.s0 0).c1
          have f2 := ((hR.out.z.s0 0).s1 (.slice none 0 0)).frz 2
          have y2 := ((hR.out.z.s0 0).s1 (.slice none 0 0)).c2
          have f3 := (((hR.out.z.s0 0).s1 (.slice none 0 0)).s2 (.slice none 0 0)).frz 3
          have y3 := (((hR.out.z.s0 0).s1 (.slice none 0 0)).s2 (.slice none 0 0)).c3
          have x0 := ((((hR.out.z.s0 0).s1 (.slice none 0 0)).s2 (.slice none 0 0)).s3 (.slice none 0 0)).c0
          have x1 := ((((hR.out.z.s0 0).s1 (.slice none 0 0)).s2 (.slice none 0 0)).s3 (.slice none 0 0)).c1
          have x2 := ((((hR.out.z.s0 0).s1 (.slice none 0 0)).s2 (.slice none 0 0)).s3 (.slice none 0 0)).c2
          have x3 := ((((hR.out.z.s0 0).s1 (.slice none 0 0)).s2 (.slice none 0 0)).s3 (.slice none 0 0)).c3
          have hF := hide' (hR.out.fin (.int .i64 0) (.slice none 0 0) (.slice none 0 0) (.slice none 0 0))
          clear hR
          go_wp2
          refine bodyPost_ret (v := .tuple #[.agg #[.int .i64 0, .slice none 0 0, .slice none 0 0, .slice none 0 0], .slice none 0 0, .int .i64 52]) (by simp [results, Tryd.results13, go_sem, x0, x1, x2, x3]) rfl ?_
          unfold ReP
          rw [hP.out.1, hP.out.2.1, hP.out.2.2]
          exact ⟨_, _, _, _, rfl, nil_pv _, hF.out.2.2⟩
        | true =>
          as_aux_lemma =>
          have hN0 : rdN L = 0 := by unfold rdN; rw [if_pos ⟨hTr, hC⟩, hh, if_pos rfl]
          have hP : Hid (rdN L = 0 ∧ rdP L = rcP (L, false) ∧ rdL L = rcL (L, false)) := ⟨hN0, by unfold rdP; rw [if_pos hN0], by unfold rdL; rw [if_pos hN0]⟩
          rw [hh] at hfl'
          have hlp : (flwL (rcP (L, false)) (rcL (L, false))).length = 0 := of_decide_eq_true hfl'
          rw [hlp] at KF
          clear hfl hFl hwr hwr' hTr hrd3 hln hfl' hh hC hlp hN0
          go_wp2_with fail
          refine (KF.out _ hR.out).mono ?_
          rintro e w4 ⟨v4, rfl, hO4, hb4⟩
          obtain ⟨o4, c4, rfl⟩ := own_shp hO4.out
          have hR4 := hide' (hR.out.over hb4.out)
          clear q0 q1 q2 q3 c0 c1 hR hO4 hb4 KF
          have hR := hR4
          clear hR4
          have q0 := hR.out.pb.c0
          have q1 := hR.out.pb.c1
          have q2 := hR.out.pb.c2
          have q3 := hR.out.pb.c3
          have f0 := hR.out.z.frz 0
          have y0 := hR.out.z.c0
          have f1 := (hR.out.z.s0 (rcP (L, false)).users).frz 1
          have y1 := (hR.out.z.s0 (rcP (L, false)).users).c1
          have f2 := ((hR.out.z.s0 (rcP (L, false)).users).s1 (.slice oA nA cA)).frz 2
          have y2 := ((hR.out.z.s0 (rcP (L, false)).users).s1 (.slice oA nA cA)).c2
          have f3 := (((hR.out.z.s0 (rcP (L, false)).users).s1 (.slice oA nA cA)).s2 (.slice oB nB cB)).frz 3
          have y3 := (((hR.out.z.s0 (rcP (L, false)).users).s1 (.slice oA nA cA)).s2 (.slice oB nB cB)).c3
          have x0 := ((((hR.out.z.s0 (rcP (L, false)).users).s1 (.slice oA nA cA)).s2 (.slice oB nB cB)).s3 (.slice oC nC cC)).c0
          have x1 := ((((hR.out.z.s0 (rcP (L, false)).users).s1 (.slice oA nA cA)).s2 (.slice oB nB cB)).s3 (.slice oC nC cC)).c1
          have x2 := ((((hR.out.z.s0 (rcP (L, false)).users).s1 (.slice oA nA cA)).s2 (.slice oB nB cB)).s3 (.slice oC nC cC)).c2
          have x3 := ((((hR.out.z.s0 (rcP (L, false)).users).s1 (.slice oA nA cA)).s2 (.slice oB nB cB)).s3 (.slice oC nC cC)).c3
          have hF := hide' (hR.out.fin (.int .i64 (rcP (L, false)).users) (.slice oA nA cA) (.slice oB nB cB) (.slice oC nC cC))
          clear hR
          go_wp2
          refine bodyPost_ret (v := .tuple #[.agg #[.int .i64 (rcP (L, false)).users, .slice oA nA cA, .slice oB nB cB, .slice oC nC cC], .slice oP nP cP, .int .i64 0]) (by simp [results, Tryd.results13, go_sem, x0, x1, x2, x3]) rfl ?_
          unfold ReP
          rw [hP.out.1, hP.out.2.1, hP.out.2.2]
          exact ⟨_, _, _, _, rfl, ⟨hF.out.1, hF.out.2.1⟩, hF.out.2.2⟩
end Go.Proofs.YtgmjmliemjgioaaDoor.S

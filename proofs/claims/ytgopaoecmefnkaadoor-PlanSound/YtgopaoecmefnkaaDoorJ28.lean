/- The laws' own small functions: row, wakes, flaws. -/
import Derived.Test.YtgopaoecmefnkaaDoorJ24
import Derived.Laws.BytesArg
namespace Go.Proofs.YtgopaoecmefnkaaDoor.S
open Go.RowKit Go.Shelf
def cellsB (l : List Nat) : List Value := l.map fun z : Nat => Value.int .u8 (z : Int)
/-- A number in so many bytes, the highest first. -/
def be (wd n : Nat) : List Nat := (List.range wd).map fun i => n / 256 ^ (wd - 1 - i) % 256
theorem be_len (wd n : Nat) : (be wd n).length = wd := by simp [be]
theorem be_at {wd n j : Nat} (h : j < wd) : (be wd n)[j]? = some (n / 256 ^ (wd - 1 - j) % 256) := by
  unfold be
  rw [List.getElem?_map, List.getElem?_range h]
  rfl
/-- Blocks of other kinds are as they were. -/
structure FzB (W W' : World) : Prop where
  size : W.heap.size ≤ W'.heap.size
  block : ∀ (g : Nat) (cs : Array Value) (T : TypeId) (fz : Nat × Nat), T ≠ 5 → W.heap[g]? = some (Obj.cells cs T fz) → W'.heap[g]? = some (Obj.cells cs T fz)
theorem FzB.refl (W : World) : FzB W W := ⟨Nat.le_refl _, fun _ _ _ _ _ h => h⟩
theorem FzB.trans {W W' W2 : World} (h : FzB W W') (k : FzB W' W2) : FzB W W2 := ⟨Nat.le_trans h.size k.size, fun g cs T fz hT hg => k.block g cs T fz hT (h.block g cs T fz hT hg)⟩
theorem FzB.below {W W' : World} (h : Below W.heap.size W W') : FzB W W' := ⟨h.size, fun g _ _ _ _ hg => (h.block g (Array.getElem?_eq_some_iff.1 hg).1).trans hg⟩
theorem FzB.grown {W W' : World} {B : Nat} {v : Value} {n : Nat} {xs : List Value} (h : W.ownsRow B 5 1 v n xs) (hg : W.grownBy W' v.ownBlock) : FzB W W' := by
  refine ⟨hg.size, fun g cs T fz hT hb => ?_⟩
  refine (hg.block g (Array.getElem?_eq_some_iff.1 hb).1 fun e => ?_).trans hb
  obtain ⟨c2, f2, h2⟩ := Go.Lib.ownsRow_kind h g e.symm
  rw [hb] at h2
  injection h2 with h2
  injection h2 with _ h2
  exact hT h2
theorem FzB.pb {W W' : World} {g : Nat} {P : Pb} {wv fv rv : Value} (h : FzB W W') (hb : PbB W g P wv fv rv) : PbB W' g P wv fv rv := h.block g _ _ _ (by decide) hb
theorem infoU8 : (Tryd.prog.info? 5).map (fun i => (i.zero, i.size, i.bytes)) = some (some (.int .u8 0), 1, 1) := by kernel_rfl
/-- A byte laid behind a row of bytes. -/
theorem app_byteL {ops : Array Oper} {rest : List Oper} {o : Oper} {a : Act} {Q : Exit → Act → World → Prop} (hgd : o.guard = none) (s x : Operand) (B : Nat) (W : World) (v : Value) (L : List Nat) (z : Nat) (ho : o.op = .call { callee := .builtin .append, args := #[s, x], argTypes := #[39, 39] })
    (es : a.eval s = v) (ex : a.eval x = .slice (some ⟨W.heap.size, 0, none⟩) 1 1) (hT : W.ownsRow B 5 1 v L.length (cellsB L)) (hB : B ≤ W.heap.size) (hn : L.length ≤ 1000000)
    (h : ∀ v2 w2, w2.ownsRow B 5 1 v2 (L ++ [z]).length (cellsB (L ++ [z])) → Below B W w2 → FzB W w2 → wpList Tryd.prog ops Q rest (a.put o.dst v2) w2) : wpList Tryd.prog ops Q (o :: rest) a (W.alloc (.cells #[.int .u8 (z : Int)] 5)) := by
  obtain ⟨i0, hi, hz0, hz1, hz2⟩ := info_parts infoU8
  refine wpList_append_own _ hgd s x 39 ho B 5 i0 (.int .u8 0) 1 1 Tryd.underlying39 hi hz0 hz1 hz2 rfl (by decide) v L.length (cellsB L) es (hT.alloc _) ⟨W.heap.size, 0, none⟩ 1 1 [.int .u8 (z : Int)] ex rfl (World.news_of_block (cs := #[.int .u8 (z : Int)]) (heap_new _ _)) (by simp [Value.oneCell']) (by unfold maxLen; omega) (by omega) (by simp; omega) ?_
  intro v2 w2 hown hgrow _
  refine h v2 w2 ?_ (((Below.refl B W).alloc hB _).grown hgrow (by simp; omega) (fun j ej => own_ge' hT ej)) ((FzB.below ((Below.refl _ W).alloc (Nat.le_refl _) _)).trans (FzB.grown (hT.alloc _) hgrow))
  have e : cellsB (L ++ [z]) = cellsB L ++ [.int .u8 (z : Int)] := by simp [cellsB]
  rw [e, List.length_append]
  exact hown
/-- What a call answers that lays bytes behind a row. -/
def PuP (w : World) (B : Nat) (L : List Nat) (e : Ending) (w' : World) : Prop :=
  ∃ v, e = .returned v ∧ Hid (w'.ownsRow B 5 1 v L.length (cellsB L)) ∧ Hid (Below B w w') ∧ Hid (FzB w w')
theorem byte_eq (n k : Nat) : ((n : Int) / 2 ^ (8 * k) % 256) = ((n / 256 ^ k % 256 : Nat) : Int) := by
  rw [show (256 : Nat) ^ k = 2 ^ (8 * k) by rw [Nat.pow_mul]]
  simp
theorem be_take {wd n j : Nat} (L : List Nat) (h : j < wd) : (L ++ (be wd n).take j) ++ [n / 256 ^ (wd - 1 - j) % 256] = L ++ (be wd n).take (j + 1) := by
  rw [List.take_add_one, be_at h, List.append_assoc]
  rfl
set_option maxRecDepth 100000 in
set_option maxHeartbeats 2000000 in
theorem putI (B : Nat) (v : Value) (L : List Nat) (wd n : Nat) (w : World) (hO : w.ownsRow B 5 1 v L.length (cellsB L)) (hB : B ≤ w.heap.size) (hw : wd ≤ 8) (hl : L.length ≤ 100000) (_ : n < 9223372036854775808) :
    Calls Tryd.prog 41 #[v, .int .i64 (wd : Int), .int .i64 (n : Int)] w (PuP w B (L ++ be wd n)) := by
  unfold PuP
  have hO' := hide' hO
  clear hO
  go_enter Tryd.func41, Tryd.ntmps41
  go_wp2
  go_loopw [0, 7, 9] (fun v _ p wr => ∃ j : Nat, j ≤ wd ∧ p = .int .i64 (j : Int) ∧ Hid (wr.ownsRow B 5 1 v (L ++ (be wd n).take j).length (cellsB (L ++ (be wd n).take j))) ∧ Hid (Below B w wr) ∧ Hid (FzB w wr)) (fun _ _ p _ => ((wd : Int) - intOf p).toNat)
  case atStart => exact ⟨0, Nat.zero_le _, rfl, by simpa using hO', Below.refl _ _, FzB.refl _⟩
  case round =>
    clear hO'
    obtain ⟨j, hj, rfl, hO, hb, hf⟩ := hrel
    by_cases hlt : j < wd
    · have hlt' : (j : Int) < (wd : Int) := by omega
      obtain ⟨ov, nv, cv, rfl⟩ : ∃ a b c, u0 = .slice a b c := by obtain ⟨a, c, e⟩ := own_shp hO.out; exact ⟨a, _, c, e⟩
      have hlen : (L ++ (be wd n).take j).length ≤ 1000000 := by simp [be_len]; omega
      have hE := hide' (be_take (n := n) L hlt)
      have hz := hide' (byte_eq n (wd - 1 - j))
      have hBr : B ≤ wr.heap.size := Nat.le_trans hB hb.out.size
      generalize L ++ (be wd n).take j = Lj at *
      go_wp2_with (at_builtin; rw [hz.out]; refine app_byteL rfl (.tmp 12) (.tmp 21) B wr (.slice ov nv cv) Lj (n / 256 ^ (wd - 1 - j) % 256) rfl rfl rfl hO.out hBr hlen ?_; intro v2 w2 hO2 hb2 hf2; have hO3 := hide' hO2; have hB3 : Hid (Below B w w2) := hb.out.trans hb2; have hf3 : Hid (FzB w w2) := hf.out.trans hf2; clear hO2 hb2 hf2)
      rw [hE.out] at hO3
      exact ⟨⟨j + 1, by omega, by go_num, hO3, hB3, hf3⟩, by simp [intOf]; omega⟩
    · obtain rfl : j = wd := by omega
      rw [List.take_of_length_le (by rw [be_len]; exact Nat.le_refl _)] at hO
      obtain ⟨ov, nv, cv, rfl⟩ : ∃ a b c, u0 = .slice a b c := by obtain ⟨a, c, e⟩ := own_shp hO.out; exact ⟨a, _, c, e⟩
      go_wp2
      go_ret
      exact ⟨_, rfl, hO, hb, hf⟩
set_option maxRecDepth 100000 in
set_option maxHeartbeats 2000000 in
theorem putU (B : Nat) (v : Value) (L : List Nat) (wd n : Nat) (w : World) (hO : w.ownsRow B 5 1 v L.length (cellsB L)) (hB : B ≤ w.heap.size) (hw : wd ≤ 8) (hl : L.length ≤ 100000) (_ : n < 18446744073709551616) :
    Calls Tryd.prog 40 #[v, .int .i64 (wd : Int), .int .u64 (n : Int)] w (PuP w B (L ++ be wd n)) := by
  unfold PuP
  have hO' := hide' hO
  clear hO
  go_enter Tryd.func40, Tryd.ntmps40
  go_wp2
  go_loopw [0, 7, 9] (fun v _ p wr => ∃ j : Nat, j ≤ wd ∧ p = .int .i64 (j : Int) ∧ Hid (wr.ownsRow B 5 1 v (L ++ (be wd n).take j).length (cellsB (L ++ (be wd n).take j))) ∧ Hid (Below B w wr) ∧ Hid (FzB w wr)) (fun _ _ p _ => ((wd : Int) - intOf p).toNat)
  case atStart => exact ⟨0, Nat.zero_le _, rfl, by simpa using hO', Below.refl _ _, FzB.refl _⟩
  case round =>
    clear hO'
    obtain ⟨j, hj, rfl, hO, hb, hf⟩ := hrel
    by_cases hlt : j < wd
    · have hlt' : (j : Int) < (wd : Int) := by omega
      obtain ⟨ov, nv, cv, rfl⟩ : ∃ a b c, u0 = .slice a b c := by obtain ⟨a, c, e⟩ := own_shp hO.out; exact ⟨a, _, c, e⟩
      have hlen : (L ++ (be wd n).take j).length ≤ 1000000 := by simp [be_len]; omega
      have hE := hide' (be_take (n := n) L hlt)
      have hz := hide' (byte_eq n (wd - 1 - j))
      have hBr : B ≤ wr.heap.size := Nat.le_trans hB hb.out.size
      generalize L ++ (be wd n).take j = Lj at *
      go_wp2_with (at_builtin; rw [hz.out]; refine app_byteL rfl (.tmp 12) (.tmp 21) B wr (.slice ov nv cv) Lj (n / 256 ^ (wd - 1 - j) % 256) rfl rfl rfl hO.out hBr hlen ?_; intro v2 w2 hO2 hb2 hf2; have hO3 := hide' hO2; have hB3 : Hid (Below B w w2) := hb.out.trans hb2; have hf3 : Hid (FzB w w2) := hf.out.trans hf2; clear hO2 hb2 hf2)
      rw [hE.out] at hO3
      exact ⟨⟨j + 1, by omega, by go_num, hO3, hB3, hf3⟩, by simp [intOf]; omega⟩
    · obtain rfl : j = wd := by omega
      rw [List.take_of_length_le (by rw [be_len]; exact Nat.le_refl _)] at hO
      obtain ⟨ov, nv, cv, rfl⟩ : ∃ a b c, u0 = .slice a b c := by obtain ⟨a, c, e⟩ := own_shp hO.out; exact ⟨a, _, c, e⟩
      go_wp2
      go_ret
      exact ⟨_, rfl, hO, hb, hf⟩
/-- A row of bytes, wherever it lies. -/
def RowB (w : World) (v : Value) (L : List Nat) : Prop := ∃ oa cap, v = .slice oa L.length cap ∧ ∀ (i : Nat) (z : Nat), L[i]? = some z → ∃ g o, oa = some ⟨g, o, none⟩ ∧ w.cell? ⟨g, o + i, none⟩ = some (.int .u8 (z : Int))
theorem RowB.below {w w' : World} {v : Value} {L : List Nat} {n : Nat} (h : RowB w v L) (hb : Below n w w') (hn : w.heap.size ≤ n) : RowB w' v L := by
  obtain ⟨oa, cap, e, h⟩ := h
  refine ⟨oa, cap, e, fun i z hz => ?_⟩
  obtain ⟨g, o, e1, e2⟩ := h i z hz
  exact ⟨g, o, e1, (hb.cell (p := ⟨g, o + i, none⟩) (Nat.lt_of_lt_of_le (cell_lt e2) hn)).trans e2⟩
theorem RowB.of_owns {W : World} {B : Nat} {v : Value} {L : List Nat} (h : W.ownsRow B 5 1 v L.length (cellsB L)) : RowB W v L := by
  rcases h.2 with ⟨rfl, h0⟩ | ⟨g, cap, cur, rfl, _, _, hcap, _⟩
  · refine ⟨none, 0, by rw [h0], fun i z hz => ?_⟩
    have := (List.getElem?_eq_some_iff.1 hz).1
    omega
  · refine ⟨_, cap, rfl, fun i z hz => ⟨g, 0, rfl, ?_⟩⟩
    have hi := (List.getElem?_eq_some_iff.1 hz).1
    have := h.cellAt i (by omega)
    rw [Nat.zero_add, this]
    simp [cellsB, hz]
/-- The text of bytes. -/
def strB (L : List Nat) : ByteArray := strOfNums (L.map fun z : Nat => (z : Int))
theorem conv_bytes {w : World} {v : Value} {L : List Nat} (h : RowB w v L) : (convert 39 9 v).run Tryd.prog w = .ok (.string (strB L)) w := by
  obtain ⟨oa, cap, rfl, hc⟩ := h
  cases oa with
  | none =>
    cases L with
    | nil => exact run_convert_bytes_nil w 39 5 Tryd.underlying39 Tryd.underlying5 0 cap 9 Tryd.underlying9
    | cons a l => obtain ⟨g, o, e, _⟩ := hc 0 a rfl; cases e
  | some ad =>
    cases L with
    | nil =>
      have hl : (loadCells ad 0).run Tryd.prog w = .ok (([] : List Int).map (Value.int .u8)).toArray w := run_loadCells_list (P := Tryd.prog) w ad [] (fun j v hj => by simp at hj)
      show (convert 39 9 (.slice (some ad) 0 cap)).run Tryd.prog w = _
      rw [run_convert_bytes_string w 39 9 5 _ 0 cap Tryd.underlying39 Tryd.underlying5 Tryd.underlying9, run_bytesToString w _ 0 cap [] hl]
      rfl
    | cons a l =>
      obtain ⟨g, o, e, _⟩ := hc 0 a rfl
      cases e
      refine run_convert_bytes_arg w 39 5 Tryd.underlying39 Tryd.underlying5 g o _ cap _ (by simp) (fun i hi => ?_) 9 Tryd.underlying9
      obtain ⟨z, hz⟩ : ∃ z, (a :: l)[i]? = some z := ⟨_, List.getElem?_eq_getElem hi⟩
      obtain ⟨g', o', e', hcell⟩ := hc i z hz
      cases e'
      rw [hcell, List.getD_eq_getElem?_getD, List.getElem?_map, hz]
      rfl
end Go.Proofs.YtgopaoecmefnkaaDoor.S
namespace Go.Proofs.YtgopaoecmefnkaaDoor.S
open Go.RowKit Go.Shelf
/-- A step's bytes, a rule's, all. -/
def stB (P : Pb) (L : List Int) (t : Nat) : List Nat := be 8 (P.who.getD t 0) ++ be 1 (P.fixed.getD t 0 + 1).toNat ++ be 1 (L.getD t 0).toNat
def stsB (P : Pb) (L : List Int) (j : Nat) : List Nat := (List.range j).flatMap (stB P L)
def spB (S : List Int) : List Nat := S.flatMap fun s => be 1 s.toNat
def ruB (r : Rl) : List Nat := be 1 r.kind.toNat ++ be 4 r.k.toNat ++ be 1 r.steps.length ++ spB r.steps
def rusB (R : List Rl) : List Nat := R.flatMap ruB
def hdB (P : Pb) : List Nat := be 2 20547 ++ be 1 P.users.toNat ++ be 1 P.who.length
def certL (P : Pb) (L : List Int) : List Nat := hdB P ++ stsB P L P.who.length ++ be 1 P.rules.length ++ rusB P.rules
theorem stB_at {P : Pb} {L : List Int} {t z : Nat} {y x : Int} (hz : P.who[t]? = some z) (hy : P.fixed[t]? = some y) (hx : L[t]? = some x) : stB P L t = be 8 z ++ be 1 (y + 1).toNat ++ be 1 x.toNat := by
  unfold stB
  simp [List.getD_eq_getElem?_getD, hz, hy, hx]
theorem stsB_succ (P : Pb) (L : List Int) (j : Nat) : stsB P L (j + 1) = stsB P L j ++ stB P L j := by
  unfold stsB
  rw [List.range_succ]
  simp
theorem stsB_len (P : Pb) (L : List Int) (j : Nat) : (stsB P L j).length = 10 * j := by
  induction j with
  | zero => rfl
  | succ j ih => rw [stsB_succ, List.length_append, ih]; simp [stB, be_len]; omega
theorem hdB_len (P : Pb) : (hdB P).length = 4 := by simp [hdB, be_len]
theorem spB_len (S : List Int) : (spB S).length = S.length := by
  induction S with
  | nil => rfl
  | cons a l ih => simp [spB, be_len] at ih ⊢; omega
theorem ruB_len (r : Rl) : (ruB r).length = 6 + r.steps.length := by simp [ruB, be_len, spB_len]; omega
theorem rusB_le {R : List Rl} (h : ∀ r ∈ R, r.steps.length ≤ 1000) : (rusB R).length ≤ 1006 * R.length := by
  induction R with
  | nil => exact Nat.le_refl _
  | cons a l ih =>
    have h1 := ih fun r hr => h r (List.mem_cons_of_mem _ hr)
    have h2 := h a (List.mem_cons_self ..)
    have h3 := ruB_len a
    simp [rusB] at h1 ⊢
    omega
theorem rusB_take {R : List Rl} {j : Nat} {r : Rl} (h : R[j]? = some r) : rusB (R.take (j + 1)) = rusB (R.take j) ++ ruB r := by
  rw [List.take_add_one, h]; simp [rusB]
theorem spB_take {S : List Int} {j : Nat} {s : Int} (h : S[j]? = some s) : spB (S.take (j + 1)) = spB (S.take j) ++ be 1 s.toNat := by
  rw [List.take_add_one, h]; simp [spB]
/-- A rule's numbers are small. -/
theorem rule_small {n : Int} {r : Rl} (h : chk n r = true) : 0 ≤ r.kind ∧ r.kind ≤ 5 ∧ 0 ≤ r.k ∧ r.k ≤ 999999999 ∧ (∀ s ∈ r.steps, 0 ≤ s ∧ s < 12) ∧ r.steps.length ≤ 12 := by
  unfold chk at h
  simp only [Bool.and_eq_true, decide_eq_true_eq] at h
  obtain ⟨⟨⟨h0, h1⟩, h2⟩, h3⟩ := h
  have hm := ris_mem h2
  have hl := ris_len h2 h0
  have hl2 : r.steps.length ≤ 12 := by omega
  have hs : ∀ s ∈ r.steps, 0 ≤ s ∧ s < 12 := fun s hs => by have := hm s hs; omega
  unfold numF at h3
  split at h3
  · simp only [Bool.and_eq_true, decide_eq_true_eq] at h3
    exact ⟨by omega, by omega, by omega, by omega, hs, hl2⟩
  · split at h3
    · simp only [Bool.and_eq_true, decide_eq_true_eq] at h3
      exact ⟨by omega, by omega, by omega, by omega, hs, hl2⟩
    · split at h3
      · simp only [Bool.and_eq_true, decide_eq_true_eq] at h3
        exact ⟨by omega, by omega, by omega, by omega, hs, hl2⟩
      · cases h3
/-- What stands while a certificate is written. -/
structure Ce (w : World) (P : Pb) (wv fv rv : Value) (W : World) (v : Value) (L : List Nat) : Prop where
  own : W.ownsRow (w.heap.size + 1) 5 1 v L.length (cellsB L)
  be : Below w.heap.size w W
  pb : PbB W w.heap.size P wv fv rv
section
variable {w W W' : World} {P : Pb} {wv fv rv v v' : Value} {L L' : List Nat}
theorem Ce.put (h : Ce w P wv fv rv W v L) (ho : W'.ownsRow (w.heap.size + 1) 5 1 v' L'.length (cellsB L')) (hb : Below (w.heap.size + 1) W W') : Ce w P wv fv rv W' v' L' :=
  ⟨ho, h.be.trans (hb.mono (Nat.le_succ _)), (hb.block _ (Nat.lt_succ_self _)).trans h.pb⟩
theorem Ce.sz (h : Ce w P wv fv rv W v L) : w.heap.size + 1 ≤ W.heap.size := (Array.getElem?_eq_some_iff.1 h.pb).1
theorem Ce.over (h : Ce w P wv fv rv W v L) (hb : Below W.heap.size W W') : Ce w P wv fv rv W' v L :=
  ⟨own_lowB h.own hb, h.be.trans (hb.mono h.be.size), h.pb.below hb⟩
theorem Ce.shp (h : Ce w P wv fv rv W v L) : ∃ oa n cap, v = .slice oa n cap := by obtain ⟨a, c, e⟩ := own_shp h.own; exact ⟨a, _, c, e⟩
/-- A number put down. -/
theorem Ce.putI (h : Ce w P wv fv rv W v L) (wd : Nat) (wi x : Int) (hwi : wi = (wd : Int)) (hw : wd ≤ 8) (hl : L.length ≤ 100000) (h0 : 0 ≤ x) (h1 : x < 9223372036854775808) :
    Calls Tryd.prog 41 #[v, .int .i64 wi, .int .i64 x] W fun e w' => ∃ oa n cap, e = .returned (.slice oa n cap) ∧ Hid (Ce w P wv fv rv w' (.slice oa n cap) (L ++ S.be wd x.toNat)) ∧ Hid (FzB W w') := by
  subst hwi
  obtain ⟨n, rfl⟩ : ∃ n : Nat, x = (n : Int) := ⟨x.toNat, by omega⟩
  refine (S.putI (w.heap.size + 1) v L wd n W h.own h.sz hw hl (by omega)).mono ?_
  rintro e w' ⟨v', rfl, ho, hb, hf⟩
  rw [Int.toNat_natCast]
  obtain ⟨a, b, c, rfl⟩ := (h.put ho.out hb.out).shp
  exact ⟨a, b, c, rfl, h.put ho.out hb.out, hf⟩
theorem Ce.putU (h : Ce w P wv fv rv W v L) (wd n : Nat) (wi : Int) (hwi : wi = (wd : Int)) (hw : wd ≤ 8) (hl : L.length ≤ 100000) (h1 : n < 18446744073709551616) :
    Calls Tryd.prog 40 #[v, .int .i64 wi, .int .u64 (n : Int)] W fun e w' => ∃ oa n' cap, e = .returned (.slice oa n' cap) ∧ Hid (Ce w P wv fv rv w' (.slice oa n' cap) (L ++ S.be wd n)) ∧ Hid (FzB W w') := by
  subst hwi
  refine (S.putU (w.heap.size + 1) v L wd n W h.own h.sz hw hl h1).mono ?_
  rintro e w' ⟨v', rfl, ho, hb, hf⟩
  obtain ⟨a, b, c, rfl⟩ := (h.put ho.out hb.out).shp
  exact ⟨a, b, c, rfl, h.put ho.out hb.out, hf⟩
end
theorem Ce.start (w : World) (P : Pb) (wv fv rv : Value) : Ce w P wv fv rv (w.alloc (.cells #[.int .i64 P.users, wv, fv, rv] 26)) (.slice none 0 0) [] :=
  ⟨World.ownsRow_nil _ _ _ _, (Below.refl _ w).alloc (Nat.le_refl _) _, heap_new w _⟩
end Go.Proofs.YtgopaoecmefnkaaDoor.S
namespace Go.Proofs.YtgopaoecmefnkaaDoor.S
open Go.RowKit Go.Shelf
set_option maxRecDepth 100000 in
set_option maxHeartbeats 8000000 in
theorem certF (P : Pb) (wv fv rv : Value) (L : List Int) (lv : Value) (w : World) (h : PbV w P wv fv rv) (hL : RowI w lv L) (hk : Pok P) (hh : holP P L = true) :
    Calls Tryd.prog 24 #[pbV P wv fv rv, lv] w (PuP w w.heap.size (certL P L)) := by
  have hC : chkN P = 0 := by unfold holP at hh; simp only [Bool.and_eq_true, decide_eq_true_eq] at hh; exact hh.1.1.1
  have hl : L.length = P.who.length := by unfold holP at hh; simp only [Bool.and_eq_true, decide_eq_true_eq] at hh; exact hh.1.1.2
  have hok : ∀ (t : Nat) (x : Int), L[t]? = some x → 0 ≤ x ∧ x < 64 := fun t x ht => by
    unfold holP at hh
    simp only [Bool.and_eq_true, decide_eq_true_eq] at hh
    have h3 := hh.1.2
    unfold okA at h3
    rw [List.all_eq_true] at h3
    have h4 := h3 t (List.mem_range.2 (List.getElem?_eq_some_iff.1 ht).1)
    rw [show L.getD t 0 = x by simp [List.getD_eq_getElem?_getD, ht]] at h4
    unfold okU at h4
    rw [Bool.and_eq_true] at h4
    have h5 := (isU_iff P x).1 h4.1
    have h6 := (chkN_zero hC).2.2.1
    omega
  obtain ⟨g12, g0, g64, g32, gF, gW, gR⟩ := chkN_zero hC
  obtain ⟨gl, gx⟩ := fixB_of gF g64
  have hs := h.shape
  have hst := hide' (Ce.start w P wv fv rv)
  have h' := hide' h
  have hgl : Hid (∀ j, j < P.who.length → ∃ (z : Nat) (y x : Int), P.who[j]? = some z ∧ P.fixed[j]? = some y ∧ L[j]? = some x ∧ z < 18446744073709551616 ∧ (0 ≤ y + 1 ∧ y + 1 < 9223372036854775808) ∧ (0 ≤ x ∧ x < 9223372036854775808)) := fun j hj => by
    have e1 := List.getElem?_eq_getElem (show j < P.who.length from hj)
    have e2 := List.getElem?_eq_getElem (show j < P.fixed.length by omega)
    have e3 := List.getElem?_eq_getElem (show j < L.length by omega)
    have e4 := gx _ (List.mem_of_getElem? e2)
    have e5 := hok _ _ e3
    exact ⟨_, _, _, e1, e2, e3, hk.b _ (List.mem_of_getElem? e1), by omega, by omega⟩
  have hrs : Hid (∀ (j : Nat) (r : Rl), P.rules[j]? = some r → 0 ≤ r.kind ∧ r.kind ≤ 5 ∧ 0 ≤ r.k ∧ r.k ≤ 999999999 ∧ (∀ s ∈ r.steps, 0 ≤ s ∧ s < 12) ∧ r.steps.length ≤ 12) := fun j r hr => by
    have := List.all_eq_true.1 gR r (List.mem_of_getElem? hr)
    exact rule_small this
  have hgl2 : Hid (P.fixed.length = P.who.length) := gl
  obtain ⟨ow, cw, of, cf, or, cr, rfl, rfl, rfl⟩ := hs
  obtain ⟨ol, cl, rfl, _, hcl⟩ := hL
  have hcl' := hide' hcl
  unfold PuP
  unfold pbV
  rw [hl]
  have hU1 : P.users < 9223372036854775808 := by omega
  have hfx : P.fixed.length ≤ 1000 := hk.f
  clear hcl h hC hl hok gx gF gW gR hh hk gl
  go_enter Tryd.func24, Tryd.ntmps24
  go_wp2_with fail
  refine (hst.out.putU 2 20547 2 rfl (by decide) (by decide) (by decide)).mono ?_
  rintro e w1 ⟨o1, n1, c1, rfl, hC1, _⟩
  have q0 := hC1.out.pb.c0
  clear hst
  go_wp2_with fail
  refine (hC1.out.putI 1 1 P.users rfl (by decide) (by simp [be_len]) g0 hU1).mono ?_
  rintro e w2 ⟨o2, n2, c2, rfl, hC2, _⟩
  have q1 := hC2.out.pb.c1
  clear hC1 q0
  go_wp2_with fail
  refine (hC2.out.putI 1 1 (P.who.length : Int) rfl (by decide) (by simp [be_len]) (by omega) (by omega)).mono ?_
  rintro e w3 ⟨o3, n3, c3, rfl, hC3', _⟩
  have hC3 : Hid (Ce w P (.slice ow P.who.length cw) (.slice of P.fixed.length cf) (.slice or P.rules.length cr) w3 (.slice o3 n3 c3) (hdB P ++ stsB P L 0)) := by
    have := hC3'.out
    rw [Int.toNat_natCast] at this
    rw [show hdB P ++ stsB P L 0 = hdB P by simp [stsB]]
    exact this
  clear hC2 q1 hC3'
  go_upto_block 0 with fail
  go_cut [5, 6, 7] from 22 to 48 (fun v _ _ wx => Hid (Ce w P (.slice ow P.who.length cw) (.slice of P.fixed.length cf) (.slice or P.rules.length cr) wx v (hdB P ++ stsB P L P.who.length)))
  case first =>
    as_aux_lemma =>
    go_wp2_with fail
    go_loopw [5, 6, 7, 24] (fun v _ _ p wr => ∃ j : Nat, j ≤ P.who.length ∧ p = .int .i64 (j : Int) ∧ Hid (Ce w P (.slice ow P.who.length cw) (.slice of P.fixed.length cf) (.slice or P.rules.length cr) wr v (hdB P ++ stsB P L j))) (fun _ _ _ p _ => ((P.who.length : Int) - intOf p).toNat)
    case atStart => exact ⟨0, Nat.zero_le _, rfl, hC3⟩
    case round =>
      clear hC3
      obtain ⟨j, hj, rfl, hC⟩ := hrel
      obtain ⟨ov, nv, cv, rfl⟩ := hC.out.shp
      by_cases hlt : j < P.who.length
      · have hlt' : (j : Int) < (P.who.length : Int) := by omega
        have hltf : (j : Int) < (P.fixed.length : Int) := by have := hgl2.out; omega
        have hj0 : ¬ (j : Int) < 0 := by omega
        obtain ⟨z, y, x, hz, hy, hx, hzb, hyb, hxb⟩ := hgl.out j hlt
        obtain ⟨g1, p1, rfl, a1⟩ := hcl'.out j x hx
        obtain ⟨ow', cw', ew, _, hcw⟩ := h'.out.who
        obtain ⟨of', cf', ef, _, hcf⟩ := h'.out.fixed
        obtain ⟨g2, p2, r2, a2⟩ := hcw j z hz
        obtain ⟨g3, p3, r3, a3⟩ := hcf j y hy
        cases ew
        cases ef
        subst r2
        subst r3
        have a1' := M.cell_over a1 hC.out.be
        have q1 := hC.out.pb.c1
        have a2' := M.cell_over a2 hC.out.be
        have hE := hide' (stB_at hz hy hx)
        have hE2 := hide' (stsB_succ P L j)
        have hlen : (hdB P ++ stsB P L j).length ≤ 1000 := by rw [List.length_append, hdB_len, stsB_len]; omega
        have a3h := hide' a3
        generalize hA : hdB P ++ stsB P L j = A at *
        have hA' := hide' hA
        clear hz hy hx a1 a2 a3 hcw hcf h' hgl hrs hA
        go_wp2_with fail
        refine (hC.out.putU 8 z 8 rfl (by decide) (by omega) hzb).mono ?_
        rintro e w4 ⟨o4, n4, c4, rfl, hC4, _⟩
        have q2 := hC4.out.pb.c2
        have a3' := M.cell_over a3h.out hC4.out.be
        clear hC q1 a1' a2'
        have hy1 : y - -1 = y + 1 := by omega
        have hyw : IntKind.i64.wrap (y + 1) = y + 1 := by
          have := hyb
          simp only [IntKind.wrap, IntKind.bits, IntKind.signed]
          simp
          omega
        go_wp2_with fail
        refine (hC4.out.putI 1 1 (y + 1) rfl (by decide) (by simp [be_len]; omega) hyb.1 hyb.2).mono ?_
        rintro e w5 ⟨o5, n5, c5, rfl, hC5, _⟩
        clear hC4 q2 a3' hy1 hyw
        go_wp2_with fail
        refine (hC5.out.putI 1 1 x rfl (by decide) (by simp [be_len]; omega) hxb.1 hxb.2).mono ?_
        rintro e w6 ⟨o6, n6, c6, rfl, hC6, _⟩
        have hC7 : Hid (Ce w P (.slice (some ⟨g2, p2, none⟩) P.who.length cw) (.slice (some ⟨g3, p3, none⟩) P.fixed.length cf) (.slice or P.rules.length cr) w6 (.slice o6 n6 c6) (hdB P ++ stsB P L (j + 1))) := by
          have := hC6.out
          unfold Hid
          rw [hE2.out, hE.out, ← List.append_assoc, hA'.out]
          simpa [List.append_assoc] using this
        clear hC5 hC6
        go_wp2
        exact ⟨⟨j + 1, by omega, by go_num, hC7⟩, by simp [intOf]; omega⟩
      · obtain rfl : j = P.who.length := by omega
        clear hcl' hgl h' hrs
        go_wp2
        go_meet
        exact hC
  case rest =>
  have hC := hcut
  obtain ⟨ov, nv, cv, rfl⟩ := hC.out.shp
  have q3 := hC.out.pb.c3
  have hlA : (hdB P ++ stsB P L P.who.length).length ≤ 1000 := by rw [List.length_append, hdB_len, stsB_len]; omega
  clear hcl' hgl hC3 hcut
  go_wp2_with fail
  refine (hC.out.putI 1 1 (P.rules.length : Int) rfl (by decide) (by omega) (by omega) (by omega)).mono ?_
  rintro e w4 ⟨o4, n4, c4, rfl, hC4', _⟩
  have hfin : Hid (certL P L = (hdB P ++ stsB P L P.who.length ++ be 1 P.rules.length) ++ rusB P.rules) := rfl
  have hC4 : Hid (Ce w P (.slice ow P.who.length cw) (.slice of P.fixed.length cf) (.slice or P.rules.length cr) w4 (.slice o4 n4 c4) ((hdB P ++ stsB P L P.who.length ++ be 1 P.rules.length) ++ rusB (P.rules.take 0))) := by
    have := hC4'.out
    rw [Int.toNat_natCast] at this
    rw [show rusB (P.rules.take 0) = [] from rfl, List.append_nil]
    exact this
  have hlB : (hdB P ++ stsB P L P.who.length ++ be 1 P.rules.length).length ≤ 1001 := by rw [List.length_append, be_len]; omega
  generalize hdB P ++ stsB P L P.who.length ++ be 1 P.rules.length = A at *
  have hlr : Hid (∀ j, (rusB (P.rules.take j)).length ≤ 33000) := fun j => by
    have h1 : ∀ r ∈ P.rules.take j, r.steps.length ≤ 1000 := fun r hr => by
      obtain ⟨i, hi⟩ := List.getElem?_of_mem (List.mem_of_mem_take hr)
      have := (hrs.out i r hi).2.2.2.2.2
      omega
    have h2 := rusB_le h1
    rw [List.length_take] at h2
    omega
  have q3' := hC4.out.pb.c3
  clear hC hC4' q3 hlA
  go_wp2
  go_loopw [5, 9, 11, 56] (fun v _ _ p wr => ∃ j : Nat, j ≤ P.rules.length ∧ p = .int .i64 (j : Int) ∧ Hid (Ce w P (.slice ow P.who.length cw) (.slice of P.fixed.length cf) (.slice or P.rules.length cr) wr v (A ++ rusB (P.rules.take j)))) (fun _ _ _ p _ => ((P.rules.length : Int) - intOf p).toNat)
  case atStart => exact ⟨0, Nat.zero_le _, rfl, hC4⟩
  case round =>
    clear hC4 q3'
    obtain ⟨j, hj, rfl, hC⟩ := hrel
    obtain ⟨ov, nv, cv, rfl⟩ := hC.out.shp
    by_cases hlt : j < P.rules.length
    · as_aux_lemma =>
      have hlt' : (j : Int) < (P.rules.length : Int) := by omega
      obtain ⟨r, hx⟩ : ∃ r, P.rules[j]? = some r := ⟨_, List.getElem?_eq_getElem hlt⟩
      obtain ⟨oa3, ca3, e3, _, hcr⟩ := h'.out.rules
      obtain ⟨g, o, sv, r3, d1, d2, d3, d4⟩ := hcr j r hx
      injection e3 with e3a e3b e3c
      subst e3a
      subst r3
      have e1 := M.cell_over d1 hC.out.be
      have e2 := M.cell_over d2 hC.out.be
      have e4 := M.cell_over d3 hC.out.be
      obtain ⟨hr1, hr2, hr3, hr4, hr5, hr6⟩ := hrs.out j r hx
      have hr5' := hide' hr5
      have hTk := hide' (rusB_take hx)
      have hl5 := hlr.out j
      have hlen : (A ++ rusB (P.rules.take j)).length ≤ 40000 := by rw [List.length_append]; omega
      obtain ⟨osv, csv, rfl, _, hcs⟩ := d4
      have hcs' := hide' hcs
      have hA : Hid (A ++ rusB (P.rules.take (j + 1)) = A ++ rusB (P.rules.take j) ++ ruB r) := by unfold Hid; rw [hTk.out, List.append_assoc]
      have hbx := hide' (hC.out.over ((Below.refl _ wr).alloc (Nat.le_refl _) (.cells #[.int .i64 r.kind, .int .i64 r.k, .slice osv r.steps.length csv] 50)))
      have hnb : Hid ((wr.alloc (.cells #[.int .i64 r.kind, .int .i64 r.k, .slice osv r.steps.length csv] 50)).heap[wr.heap.size]? = some (.cells #[.int .i64 r.kind, .int .i64 r.k, .slice osv r.steps.length csv] 50 (0, 0))) := heap_new wr _
      generalize A ++ rusB (P.rules.take j) = D at *
      clear d1 d2 d3 hx hcr hC hTk hl5 hlr hcs hr5 e3b e3c h' hlB hrs
      go_wp2_with fail
      refine (hbx.out.putI 1 1 r.kind rfl (by decide) (by omega) hr1 (by omega)).mono ?_
      rintro e w5 ⟨o5, n5, c5, rfl, hC5, hf5⟩
      have hn5 := hide' (hf5.out.block _ _ _ _ (by decide) hnb.out)
      have k1 : w5.cell? ⟨wr.heap.size, 1, none⟩ = some (.int .i64 r.k) := by have := hn5.out; simp [World.cell?, this]
      clear e1 e2 e4 hf5 hbx hnb
      go_wp2_with fail
      refine (hC5.out.putI 4 4 r.k rfl (by decide) (by simp [be_len]; omega) hr3 (by omega)).mono ?_
      rintro e w6 ⟨o6, n6, c6, rfl, hC6, hf6⟩
      have hn6 := hide' (hf6.out.block _ _ _ _ (by decide) hn5.out)
      have k2 : w6.cell? ⟨wr.heap.size, 2, none⟩ = some (.slice osv r.steps.length csv) := by have := hn6.out; simp [World.cell?, this]
      clear k1 hf6 hC5 hn5
      go_wp2_with fail
      refine (hC6.out.putI 1 1 (r.steps.length : Int) rfl (by decide) (by simp [be_len]; omega) (by omega) (by omega)).mono ?_
      rintro e w7 ⟨o7, n7, c7, rfl, hC7, hf7⟩
      have hn7 := hide' (hf7.out.block _ _ _ _ (by decide) hn6.out)
      have k3 : w7.cell? ⟨wr.heap.size, 2, none⟩ = some (.slice osv r.steps.length csv) := by have := hn7.out; simp [World.cell?, this]
      clear k2 hf7 hC6 hn6 hn7
      rw [Int.toNat_natCast] at hC7
      have hA2 : Hid (D ++ ruB r = (D ++ be 1 r.kind.toNat ++ be 4 r.k.toNat ++ be 1 r.steps.length) ++ spB (r.steps.take r.steps.length)) := by unfold Hid ruB; rw [List.take_length]; simp
      have hC8 : Hid (Ce w P (.slice ow P.who.length cw) (.slice of P.fixed.length cf) (.slice (some ⟨g, o, none⟩) P.rules.length cr) w7 (.slice o7 n7 c7) ((D ++ be 1 r.kind.toNat ++ be 4 r.k.toNat ++ be 1 r.steps.length) ++ spB (r.steps.take 0))) := by
        have := hC7.out
        rw [show spB (r.steps.take 0) = [] from rfl, List.append_nil]
        exact this
      have hlD : (D ++ be 1 r.kind.toNat ++ be 4 r.k.toNat ++ be 1 r.steps.length).length ≤ 50000 := by simp [be_len]; omega
      generalize D ++ be 1 r.kind.toNat ++ be 4 r.k.toNat ++ be 1 r.steps.length = D2 at *
      clear hC7
      generalize wr.heap.size = gr at *
      go_wp2
      go_loopw [5, 11, 76] (fun v _ p wr => ∃ i : Nat, i ≤ r.steps.length ∧ p = .int .i64 (i : Int) ∧ Hid (Ce w P (.slice ow P.who.length cw) (.slice of P.fixed.length cf) (.slice (some ⟨g, o, none⟩) P.rules.length cr) wr v (D2 ++ spB (r.steps.take i)))) (fun _ _ p _ => ((r.steps.length : Int) - intOf p).toNat)
      case atStart => exact ⟨0, Nat.zero_le _, rfl, hC8⟩
      case round =>
        clear hC8 k3
        obtain ⟨i, hi, rfl, hC⟩ := hrel
        obtain ⟨ov2, nv2, cv2, rfl⟩ := hC.out.shp
        by_cases hlt2 : i < r.steps.length
        · have hlt3 : (i : Int) < (r.steps.length : Int) := by omega
          obtain ⟨z, hz⟩ : ∃ z, r.steps[i]? = some z := ⟨_, List.getElem?_eq_getElem hlt2⟩
          obtain ⟨g8, o8, rfl, d8⟩ := hcs'.out i z hz
          have c8 := M.cell_over d8 hC.out.be
          have hzr := hr5'.out z (List.mem_of_getElem? hz)
          have hE := hide' (spB_take hz)
          have hl9 : (D2 ++ spB (r.steps.take i)).length ≤ 60000 := by rw [List.length_append, spB_len, List.length_take]; omega
          have hA3 : Hid (D2 ++ spB (r.steps.take i) ++ be 1 z.toNat = D2 ++ spB (r.steps.take (i + 1))) := by unfold Hid; rw [hE.out, List.append_assoc]
          generalize D2 ++ spB (r.steps.take i) = D3 at *
          clear hz d8 hcs' hr5' hE hA2 hA hlD
          go_wp2_with fail
          refine (hC.out.putI 1 1 z rfl (by decide) (by omega) hzr.1 (by omega)).mono ?_
          rintro e w9 ⟨o9, n9, c9, rfl, hC9, _⟩
          rw [hA3.out] at hC9
          clear hC c8
          go_wp2
          exact ⟨⟨i + 1, by omega, by go_num, hC9⟩, by simp [intOf]; omega⟩
        · obtain rfl : i = r.steps.length := by omega
          rw [← hA2.out, ← hA.out] at hC
          clear hcs' hr5' hA hA2
          go_wp2
          exact ⟨⟨j + 1, by omega, by go_num, hC⟩, by simp [intOf]; omega⟩
    · as_aux_lemma =>
      obtain rfl : j = P.rules.length := by omega
      rw [List.take_length, ← hfin.out] at hC
      clear hrs hlr h'
      go_wp2
      go_ret
      exact ⟨_, rfl, owns_lowS hC.out.own (Nat.le_succ _), hC.out.be, FzB.below hC.out.be⟩
end Go.Proofs.YtgopaoecmefnkaaDoor.S
namespace Go.Proofs.YtgopaoecmefnkaaDoor.S
open Go.RowKit Go.Shelf
/-- What Write tells. -/
def wrL (P : Pb) (L : List Int) : List Nat := if holP P L = true then certL P L else []
def wrN (P : Pb) (L : List Int) : Nat := if chkN P = 0 then (if holP P L = true then 0 else 1) else chkN P
def WrP (w : World) (P : Pb) (L : List Int) (e : Ending) (w' : World) : Prop :=
  ∃ v, e = .returned (.tuple #[v, .int .i64 (wrN P L : Int)]) ∧ Hid (w'.ownsRow w.heap.size 5 1 v (wrL P L).length (cellsB (wrL P L))) ∧ Hid (Below w.heap.size w w')
theorem holP_chk {P : Pb} {L : List Int} (h : holP P L = true) : chkN P = 0 := by unfold holP at h; simp only [Bool.and_eq_true, decide_eq_true_eq] at h; exact h.1.1.1
set_option maxRecDepth 100000 in
set_option maxHeartbeats 4000000 in
theorem writeF (P : Pb) (wv fv rv : Value) (L : List Int) (lv : Value) (w : World) (h : PbV w P wv fv rv) (hL : RowI w lv L) (hLl : L.length ≤ 1000) (hk : Pok P) :
    Calls Tryd.prog 12 #[pbV P wv fv rv, lv] w (WrP w P L) := by
  have hs := h.shape
  have hB0 : Hid (Below w.heap.size w (w.alloc (.cells #[.int .i64 P.users, wv, fv, rv] 26))) := (Below.refl _ w).alloc (Nat.le_refl _) _
  have hb0 : Hid (PbB (w.alloc (.cells #[.int .i64 P.users, wv, fv, rv] 26)) w.heap.size P wv fv rv) := heap_new w _
  have K1 : Hid (∀ V, Below w.heap.size w V → Calls Tryd.prog 8 #[pbV P wv fv rv, lv] V (FlP V P L)) := fun V hV => flawsPF P wv fv rv L lv V (h.below hV) (hL.below hV (Nat.le_refl _)) hLl hk
  have K2 : Hid (holP P L = true → ∀ V, Below w.heap.size w V → Calls Tryd.prog 24 #[pbV P wv fv rv, lv] V (PuP V V.heap.size (certL P L))) := fun hh V hV => certF P wv fv rv L lv V (h.below hV) (hL.below hV (Nat.le_refl _)) hk hh
  obtain ⟨ow, cw, of, cf, or, cr, rfl, rfl, rfl⟩ := hs
  obtain ⟨ol, cl, rfl, _, _⟩ := hL
  have hfl : Hid (chkN P = 0 → decide ((flwL P L).length = 0) = holP P L) := fun hC => flw_hol hC L
  clear h hk
  unfold WrP wrL wrN
  by_cases hC : chkN P = 0
  case neg =>
    have hn : holP P L = false := by cases q : holP P L; rfl; exact absurd (holP_chk q) hC
    rw [if_neg hC, hn, if_neg (by decide)]
    have hne : (((chkN P : Nat) : Int) != 0) = true := by rw [bne_iff_ne]; omega
    unfold FlP flwR at K1
    rw [if_neg hC] at K1
    unfold pbV at K1 ⊢
    generalize chkN P = c at *
    clear K2 hC hfl
    go_enter Tryd.func12, Tryd.ntmps12
    go_wp2_with fail
    refine (K1.out _ hB0.out).mono ?_
    rintro e w1 ⟨v1, rfl, hO1, hb1⟩
    have hB1 : Hid (Below w.heap.size w w1) := hB0.out.trans (hb1.out.mono hB0.out.size)
    obtain ⟨o1, c1, rfl⟩ := own_shp hO1.out
    clear hb1 K1
    go_wp2
    exact bodyPost_ret (v := .tuple #[.slice none 0 0, .int .i64 (c : Int)]) (by simp [results, Tryd.results12, go_sem]) rfl ⟨_, rfl, World.ownsRow_nil w1 _ _ _, hB1⟩
  have hf2 := hfl.out hC
  rw [if_pos hC]
  unfold FlP flwR at K1
  rw [if_pos hC, hC] at K1
  clear hfl hC
  cases hh : holP P L with
  | false =>
    rw [if_neg (by decide), if_neg (by decide)]
    rw [hh] at hf2
    have hlp : (0 : Int) < ((flwL P L).length : Int) := by have := of_decide_eq_false hf2; omega
    unfold pbV at K1 ⊢
    generalize flwL P L = F at *
    clear K2 hf2 hh
    go_enter Tryd.func12, Tryd.ntmps12
    go_wp2_with fail
    refine (K1.out _ hB0.out).mono ?_
    rintro e w1 ⟨v1, rfl, hO1, hb1⟩
    have hB1 : Hid (Below w.heap.size w w1) := hB0.out.trans (hb1.out.mono hB0.out.size)
    obtain ⟨o1, c1, rfl⟩ := own_shp hO1.out
    clear hb1 K1 hO1
    go_wp2
    exact bodyPost_ret (v := .tuple #[.slice none 0 0, .int .i64 1]) (by simp [results, Tryd.results12, go_sem]) rfl ⟨_, rfl, World.ownsRow_nil w1 _ _ _, hB1⟩
  | true =>
    rw [if_pos rfl, if_pos rfl]
    rw [hh] at hf2
    have hlp : (flwL P L).length = 0 := of_decide_eq_true hf2
    rw [hlp] at K1
    have K2' := hide' (K2.out hh)
    unfold pbV at K1 K2' ⊢
    clear K2 hf2 hh hlp
    go_enter Tryd.func12, Tryd.ntmps12
    go_wp2_with fail
    refine (K1.out _ hB0.out).mono ?_
    rintro e w1 ⟨v1, rfl, hO1, hb1⟩
    have hB1 : Hid (Below w.heap.size w w1) := hB0.out.trans (hb1.out.mono hB0.out.size)
    have hp := hide' (hb0.out.below hb1.out)
    have q0 := hp.out.c0
    have q1 := hp.out.c1
    have q2 := hp.out.c2
    have q3 := hp.out.c3
    obtain ⟨o1, c1, rfl⟩ := own_shp hO1.out
    clear hb1 K1 hO1
    go_wp2_with fail
    refine (K2'.out _ hB1.out).mono ?_
    rintro e w2 ⟨v2, rfl, hO2, hb2, _⟩
    have hB2 : Hid (Below w.heap.size w w2) := hB1.out.trans (hb2.out.mono hB1.out.size)
    have hO3 := hide' (owns_lowS hO2.out hB1.out.size)
    obtain ⟨o2, c2, rfl⟩ := own_shp hO2.out
    clear K2' hO2 hb2 q0 q1 q2 q3 hp
    go_wp2
    exact bodyPost_ret (v := .tuple #[.slice o2 (certL P L).length c2, .int .i64 0]) (by simp [results, Tryd.results12, go_sem]) rfl ⟨_, rfl, hO3, hB2⟩
/-- The problem of the runs. -/
def wk1 : Pb := ⟨1, [1], [-1], []⟩
theorem wk1_ok : Pok wk1 := ⟨by decide, by decide, by decide, by decide, by decide⟩
theorem wk1_hol : holP wk1 [0] = true := by decide +kernel
theorem wk1_wr : wrN wk1 [0] = 0 := by decide +kernel
theorem wk1_cert : wrL wk1 [0] = [80, 67, 1, 1, 0, 0, 0, 0, 0, 0, 0, 1, 0, 0, 0] := by decide +kernel
theorem wk1_str : strB (wrL wk1 [0]) = ⟨#[80, 67, 1, 1, 0, 0, 0, 0, 0, 0, 0, 1, 0, 0, 0]⟩ := by rw [wk1_cert]; rfl
theorem wk1_chk : chkN wk1 = 0 := by decide +kernel
theorem wk1_flw : (flwR wk1 [1]).map (fun f => (f.kind, f.step, f.rule)) = [(2, 0, 0)] := by decide +kernel
theorem wk1_fl : flwR wk1 [1] = [⟨2, 0, 0⟩] := by
  have h := wk1_flw
  match q : flwR wk1 [1], h with
  | [⟨a, b, c⟩], h => simp at h; obtain ⟨rfl, rfl, rfl⟩ := h; rfl
theorem wk1_mem (V : World) : ∃ W, W = (((V.alloc (.cells #[.int .u64 1] 48)).alloc (.cells #[.int .i64 (-1)] 3)).alloc (.cells #[.int .i64 1, .slice (some ⟨V.heap.size, 0, none⟩) 1 1, .slice (some ⟨V.heap.size + 1, 0, none⟩) 1 1, .slice none 0 0] 26)) ∧
    PbV W wk1 (.slice (some ⟨V.heap.size, 0, none⟩) 1 1) (.slice (some ⟨V.heap.size + 1, 0, none⟩) 1 1) (.slice none 0 0) ∧ PbB W (V.heap.size + 1 + 1) wk1 (.slice (some ⟨V.heap.size, 0, none⟩) 1 1) (.slice (some ⟨V.heap.size + 1, 0, none⟩) 1 1) (.slice none 0 0) ∧ Below V.heap.size V W := by
  have z1 : (V.alloc (.cells #[.int .u64 1] 48)).heap.size = V.heap.size + 1 := by simp
  have z2 : ((V.alloc (.cells #[.int .u64 1] 48)).alloc (.cells #[.int .i64 (-1)] 3)).heap.size = V.heap.size + 1 + 1 := by simp
  have n1 := heap_new V (.cells #[.int .u64 1] 48)
  have n2 := heap_new (V.alloc (.cells #[.int .u64 1] 48)) (.cells #[.int .i64 (-1)] 3)
  have b1 : Below V.heap.size V (V.alloc (.cells #[.int .u64 1] 48)) := (Below.refl _ V).alloc (Nat.le_refl _) _
  have b2 := (Below.refl _ (V.alloc (.cells #[.int .u64 1] 48))).alloc (Nat.le_refl _) (.cells #[.int .i64 (-1)] 3)
  have b3 := (Below.refl _ ((V.alloc (.cells #[.int .u64 1] 48)).alloc (.cells #[.int .i64 (-1)] 3))).alloc (Nat.le_refl _) (.cells #[.int .i64 1, .slice (some ⟨V.heap.size, 0, none⟩) 1 1, .slice (some ⟨V.heap.size + 1, 0, none⟩) 1 1, .slice none 0 0] 26)
  have n3 := heap_new ((V.alloc (.cells #[.int .u64 1] 48)).alloc (.cells #[.int .i64 (-1)] 3)) (.cells #[.int .i64 1, .slice (some ⟨V.heap.size, 0, none⟩) 1 1, .slice (some ⟨V.heap.size + 1, 0, none⟩) 1 1, .slice none 0 0] 26)
  rw [z2] at n3 b3
  rw [z1] at n2 b2
  have m1 := (b3.block V.heap.size (by omega)).trans ((b2.block V.heap.size (by omega)).trans n1)
  have m2 := (b3.block (V.heap.size + 1) (by omega)).trans n2
  refine ⟨_, rfl, ?_, n3, (b1.trans (b2.mono (by omega))).trans (b3.mono (by omega))⟩
  generalize ((V.alloc (.cells #[.int .u64 1] 48)).alloc (.cells #[.int .i64 (-1)] 3)).alloc (.cells #[.int .i64 1, .slice (some ⟨V.heap.size, 0, none⟩) 1 1, .slice (some ⟨V.heap.size + 1, 0, none⟩) 1 1, .slice none 0 0] 26) = W at *
  refine ⟨⟨_, _, rfl, ⟨Nat.le_refl _, fun e => by cases e⟩, fun i z hz => ⟨_, _, rfl, ?_⟩⟩, ⟨_, _, rfl, ⟨Nat.le_refl _, fun e => by cases e⟩, fun i z hz => ⟨_, _, rfl, ?_⟩⟩, ⟨none, 0, rfl, ⟨Nat.le_refl _, fun _ => rfl⟩, fun i r hr => by simp [wk1] at hr⟩⟩
  · match i, hz with
    | 0, hz => cases hz; simp [World.cell?, m1]
    | i + 1, hz => simp [wk1] at hz
  · match i, hz with
    | 0, hz => cases hz; simp [World.cell?, m2]
    | i + 1, hz => simp [wk1] at hz
theorem row_one (V : World) (x : Int) : RowI (V.alloc (.cells #[.int .i64 x] 3)) (.slice (some ⟨V.heap.size, 0, none⟩) 1 1) [x] := by
  have n3 := heap_new V (.cells #[.int .i64 x] 3)
  generalize V.alloc (.cells #[.int .i64 x] 3) = W at *
  refine ⟨_, _, rfl, ⟨Nat.le_refl _, fun e => by cases e⟩, fun i z hz => ⟨_, _, rfl, ?_⟩⟩
  match i, hz with
  | 0, hz => cases hz; simp [World.cell?, n3]
  | i + 1, hz => simp at hz
end Go.Proofs.YtgopaoecmefnkaaDoor.S
namespace Go.Proofs.YtgopaoecmefnkaaDoor.S
open Go.RowKit Go.Shelf
set_option maxRecDepth 100000 in
set_option maxHeartbeats 1000000 in
theorem row14S (l : List Int) (v : Value) (w : World) (hr : RowI w v l) :
    Calls Tryd.prog 9 #[v] w fun e w' => ∃ v', e = .returned v' ∧ w'.ownsRow w.heap.size 3 1 v' (l.take 30).length (cellsI (l.take 30)) ∧ Below w.heap.size w w' := by
  obtain ⟨oa, cap, rfl, hcap, hc⟩ := hr
  obtain ⟨i0, hi, hz0, hz1, hz2⟩ := info_parts info3
  have hc' := hide' hc
  clear hc
  go_enter Tryd.func9, Tryd.ntmps9
  by_cases hlong : 30 < l.length
  · obtain ⟨ad, rfl⟩ : ∃ ad, oa = some ad := by
      cases oa with
      | none => have := hcap.2 rfl; omega
      | some ad => exact ⟨ad, rfl⟩
    obtain ⟨g, o, e, _⟩ := hc'.out 0 l[0] (List.getElem?_eq_getElem (by omega))
    cases e
    have hcap1 := hcap.1
    have hnews : ∀ j u, (cellsI (l.take 30))[j]? = some u → w.cell? (Addr.add ⟨g, o, none⟩ j) = some u := fun j u hu => by
      obtain ⟨z, hz, rfl⟩ := cellsI_at hu
      obtain ⟨hj, _⟩ := List.getElem?_eq_some_iff.1 hz
      rw [List.length_take] at hj
      rw [List.getElem?_take_of_lt (by omega)] at hz
      obtain ⟨g', o', e, hcell⟩ := hc'.out j z hz
      cases e
      rw [Addr.add_lit]; exact hcell
    clear hcap
    go_wp2_with (at_builtin; refine wpList_append_own _ rfl _ _ 23 rfl w.heap.size 3 i0 (.int .i64 0) 1 8 Tryd.underlying23 hi hz0 hz1 hz2 rfl (by decide) _ 0 (cellsI []) rfl (owns_zero w _) ⟨g, o, none⟩ 30 cap (cellsI (l.take 30)) rfl (by simp [cellsI]; omega) (fun j u hu => cell_new (hnews j u hu)) (one_cells _) (by unfold maxLen; omega) (by omega) (by simp) ?_; intro v1 w1 hown1 hgrow1 hnil)
    go_ret
    have hown : w1.ownsRow w.heap.size 3 1 v1 (0 + 30) (cellsI (l.take 30)) := hown1
    rw [show 0 + 30 = (l.take 30).length by rw [List.length_take]; omega] at hown
    exact ⟨_, rfl, hown, ((Below.refl _ w).alloc (Nat.le_refl _) _).grown hgrow1 (by simp) (fun j ej => by cases ej; exact Nat.le_refl _)⟩
  · have hle : l.length ≤ 30 := by omega
    rw [List.take_of_length_le hle]
    cases oa with
    | none =>
      obtain ⟨h1, h2⟩ := hcap
      have := h2 rfl
      subst this
      have : l = [] := List.eq_nil_of_length_eq_zero (by omega)
      subst this
      go_wp2_with (at_builtin; refine wpList_append_own_none rfl _ _ 23 rfl w.heap.size 3 i0 1 Tryd.underlying23 hi _ 0 (cellsI []) rfl (owns_zero w _) rfl ?_)
      go_ret
      exact ⟨_, rfl, owns_zero w _, (Below.refl _ w).alloc (Nat.le_refl _) _⟩
    | some ad =>
      have hnews : ∀ j u, (cellsI l)[j]? = some u → w.cell? (ad.add j) = some u := fun j u hu => by
        obtain ⟨z, hz, rfl⟩ := cellsI_at hu
        obtain ⟨g, o, e, hcell⟩ := hc'.out j z hz
        cases e
        rw [Addr.add_lit]; exact hcell
      clear hcap
      go_wp2_with (at_builtin; refine wpList_append_own _ rfl _ _ 23 rfl w.heap.size 3 i0 (.int .i64 0) 1 8 Tryd.underlying23 hi hz0 hz1 hz2 rfl (by decide) _ 0 (cellsI []) rfl (owns_zero w _) ad l.length cap (cellsI l) rfl (by simp [cellsI]) (fun j u hu => cell_new (hnews j u hu)) (one_cells _) (by unfold maxLen; omega) (by omega) (by simp) ?_; intro v1 w1 hown1 hgrow1 hnil)
      go_ret
      have hown : w1.ownsRow w.heap.size 3 1 v1 (0 + l.length) (cellsI l) := hown1
      rw [Nat.zero_add] at hown
      exact ⟨_, rfl, hown, ((Below.refl _ w).alloc (Nat.le_refl _) _).grown hgrow1 (by simp) (fun j ej => by cases ej; exact Nat.le_refl _)⟩
theorem row14F (l : List Int) (v : Value) (w : World) (hr : RowI w v l) :
    Calls Tryd.prog 9 #[v] w fun e w' => ∃ v', e = .returned v' ∧ RowI w' v' (l.take 30) ∧ Below w.heap.size w w' :=
  (row14S l v w hr).mono fun _ _ ⟨v', h1, h2, h3⟩ => ⟨v', h1, RowI.of_owns h2, h3⟩
/-- What stands between wakes' calls. -/
structure W1 (w : World) (gp : Nat) (wv fv rv : Value) (V : World) : Prop where
  pv : PbV V wk1 wv fv rv
  pb : PbB V gp wk1 wv fv rv
  be : Below w.heap.size w V
theorem W1.over {w : World} {gp : Nat} {wv fv rv : Value} {V V' : World} (h : W1 w gp wv fv rv V) (hb : Below V.heap.size V V') : W1 w gp wv fv rv V' :=
  ⟨h.pv.below hb, h.pb.below hb, h.be.trans (hb.mono h.be.size)⟩
set_option maxRecDepth 100000 in
set_option maxHeartbeats 4000000 in
theorem wakes14 (w : World) : Calls Tryd.prog 7 #[] w fun e w' => e = .returned (.bool true) ∧ Below w.heap.size w w' := by
  obtain ⟨W, hW, hP, hB, hbW⟩ := wk1_mem w
  have hW' := hide' hW
  have hS : Hid (W1 w (w.heap.size + 1 + 1) (.slice (some ⟨w.heap.size, 0, none⟩) 1 1) (.slice (some ⟨w.heap.size + 1, 0, none⟩) 1 1) (.slice none 0 0) W) := ⟨hP, hB, hbW⟩
  have KW : Hid (∀ V lv, W1 w (w.heap.size + 1 + 1) (.slice (some ⟨w.heap.size, 0, none⟩) 1 1) (.slice (some ⟨w.heap.size + 1, 0, none⟩) 1 1) (.slice none 0 0) V → RowI V lv [0] → Calls Tryd.prog 12 #[.agg #[.int .i64 1, .slice (some ⟨w.heap.size, 0, none⟩) 1 1, .slice (some ⟨w.heap.size + 1, 0, none⟩) 1 1, .slice none 0 0], lv] V fun e w' => ∃ oa cap, e = .returned (.tuple #[.slice oa 15 cap, .int .i64 0]) ∧ Hid (RowB w' (.slice oa 15 cap) (wrL wk1 [0])) ∧ Hid (Below V.heap.size V w')) := fun V lv hV hl => by
    refine (writeF wk1 _ _ _ [0] lv V hV.pv hl (by decide) wk1_ok).mono ?_
    rintro e w' ⟨v, rfl, hO, hb⟩
    have hr := RowB.of_owns hO.out
    obtain ⟨oa, cap, e1, _⟩ := id hr
    rw [wk1_wr]
    subst e1
    rw [show (wrL wk1 [0]).length = 15 by rw [wk1_cert]; rfl] at hr ⊢
    exact ⟨oa, cap, rfl, hr, hb⟩
  have KF : Hid (∀ V lv, W1 w (w.heap.size + 1 + 1) (.slice (some ⟨w.heap.size, 0, none⟩) 1 1) (.slice (some ⟨w.heap.size + 1, 0, none⟩) 1 1) (.slice none 0 0) V → RowI V lv [1] → Calls Tryd.prog 8 #[.agg #[.int .i64 1, .slice (some ⟨w.heap.size, 0, none⟩) 1 1, .slice (some ⟨w.heap.size + 1, 0, none⟩) 1 1, .slice none 0 0], lv] V fun e w' => ∃ g o cap, e = .returned (.tuple #[.slice (some ⟨g, o, none⟩) 1 cap, .int .i64 0]) ∧ w'.cell? ⟨g, o, none⟩ = some (.int .i64 2) ∧ Hid (Below V.heap.size V w')) := fun V lv hV hl => by
    refine (flawsPF wk1 _ _ _ [1] lv V hV.pv hl (by decide) wk1_ok).mono ?_
    rintro e w' ⟨v, rfl, hO, hb⟩
    rw [wk1_chk]
    rw [wk1_fl] at hO
    obtain ⟨oa, cap, e1, hc⟩ := RowFl.of_owns hO.out
    obtain ⟨g, o, rfl, h1, _⟩ := hc 0 _ rfl
    subst e1
    exact ⟨g, o, cap, rfl, by simpa using h1, hb⟩
  clear hP hB hbW hW
  go_enter Tryd.func7, Tryd.ntmps7
  go_upto_region 2 with fail
  rw [← hW'.out]
  clear hW'
  have q0 := hS.out.pb.c0
  have q1 := hS.out.pb.c1
  have q2 := hS.out.pb.c2
  have q3 := hS.out.pb.c3
  unfold wk1 at q0
  have hS2 := hide' (hS.out.over ((Below.refl _ W).alloc (Nat.le_refl _) (.cells #[.int .i64 0] 3)))
  have hr2 := hide' (row_one W 0)
  go_wp2_with fail
  refine (KW.out _ _ hS2.out hr2.out).mono ?_
  rintro e w3 ⟨o3, c3, rfl, hR3, hb3⟩
  have hS3 := hide' (hS2.out.over hb3.out)
  clear hS2 hr2 hS q0 q1 q2 q3 KW hb3
  have q0 := hS3.out.pb.c0
  have q1 := hS3.out.pb.c1
  have q2 := hS3.out.pb.c2
  have q3 := hS3.out.pb.c3
  unfold wk1 at q0
  have hS4 := hide' (hS3.out.over ((Below.refl _ w3).alloc (Nat.le_refl _) (.cells #[.int .i64 1] 3)))
  have hR4 := hide' (hR3.out.below ((Below.refl _ w3).alloc (Nat.le_refl _) (.cells #[.int .i64 1] 3)) (Nat.le_refl _))
  have hr4 := hide' (row_one w3 1)
  go_wp2_with fail
  refine (KF.out _ _ hS4.out hr4.out).mono ?_
  rintro e w5 ⟨g5, o5, c5, rfl, hc5, hb5⟩
  have hS5 := hide' (hS4.out.over hb5.out)
  have hcv := conv_bytes (hR4.out.below hb5.out (Nat.le_refl _))
  rw [wk1_str] at hcv
  clear hS4 hS3 hR3 hR4 hr4 q0 q1 q2 q3 KF hb5
  go_wp2
  go_ret
  exact ⟨rfl, hS5.out.be⟩
end Go.Proofs.YtgopaoecmefnkaaDoor.S

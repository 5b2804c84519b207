/- OrderOwn answers true. -/
import Derived.Test.YtjimiabfgmchiaaDoorJ25
import Derived.Test.YtjimiabfgmchiaaDoorJ45
import Derived.Test.YtjimiabfgmchiaaDoorWPair
import Derived.Test.YtjimiabfgmchiaaDoorJ48
import Derived.Deep.RegionHeld3
import Derived.Deep.QuietTactic
import Derived.BigQuiet
import Derived.Deep.CutRange
import Derived.Deep.CutBlock
import Derived.Deep.DeepCutAuto
namespace Go.Proofs.YtjimiabfgmchiaaDoor
open Go.RowKit Go.Shelf
def EmP : Obj := .cells #[] 30
def MkP : Obj := .cells #[.int .i64 (-7), .int .i64 (-8), .int .i64 (-7), .int .i64 (-8)] 30
theorem PairsAt.far {W V : World} {v : Value} {L : List (Int × Int)} (h : PairsAt W v L) (hb : Below W.heap.size W V) : PairsAt V v L := h.over hb
theorem zero_at {W : World} {B g0 : Nat} (hB : B ≤ g0) (h : W.heap[g0]? = some (.cells #[] 30 (0, 0))) : W.ownsRow B 30 2 (.slice (some ⟨g0, 0, none⟩) 0 0) 0 (cellsP []) :=
  ⟨rfl, .inr ⟨_, 0, #[], rfl, hB, h, Nat.le_refl _, by unfold maxLen; omega, rfl, rfl⟩⟩
/-- The pairs as they are written over: so many of them are nought. -/
def zP (L : List (Int × Int)) (i : Nat) : List (Int × Int) := List.replicate i (0, 0) ++ L.drop i
theorem zP_len (L : List (Int × Int)) {i : Nat} (hi : i ≤ L.length) : (zP L i).length = L.length := by simp [zP]; omega
theorem zP_at (L : List (Int × Int)) (i : Nat) : (zP L i)[i]? = L[i]? := by
  unfold zP
  rw [List.getElem?_append_right (by simp)]
  simp
theorem cellsP_set (L : List (Int × Int)) (i : Nat) (x y : Int) : ((cellsP L).set (i * 2) (.int .i64 x)).set (i * 2 + 1) (.int .i64 y) = cellsP (L.set i (x, y)) := by
  induction L generalizing i with
  | nil => simp [cellsP]
  | cons p L ih =>
    cases i with
    | zero => simp [cellsP]
    | succ i =>
      have := ih i
      simp only [cellsP, List.flatMap_cons, List.set_cons_succ] at this ⊢
      rw [show (i + 1) * 2 = i * 2 + 1 + 1 by omega]
      simp only [List.cons_append, List.nil_append, List.set_cons_succ]
      rw [this]
theorem zP_set (L : List (Int × Int)) {i : Nat} (hi : i < L.length) : (zP L i).set i (0, 0) = zP L (i + 1) := by
  apply List.ext_getElem?
  intro j
  unfold zP
  rw [List.getElem?_set]
  by_cases e : i = j
  · subst e
    rw [if_pos rfl, if_pos (by simp; omega), List.getElem?_append_left (by simp), List.getElem?_replicate, if_pos (by omega)]
  · rw [if_neg e]
    rcases Nat.lt_or_ge j i with h | h
    · rw [List.getElem?_append_left (by simp; omega), List.getElem?_append_left (by simp; omega), List.getElem?_replicate, List.getElem?_replicate, if_pos h, if_pos (by omega)]
    · rw [List.getElem?_append_right (by simp; omega), List.getElem?_append_right (by simp; omega)]
      simp only [List.length_replicate, List.getElem?_drop]
      congr 1
      omega
theorem OneB.below {W W' V : World} {b : Option Nat} {t : TypeId} (h : OneB W W' b t) (hb : Below W'.heap.size W' V) : OneB W V b t :=
  ⟨Nat.le_trans h.size hb.size, fun k hk hne => (hb.block k (Nat.lt_of_lt_of_le hk h.size)).trans (h.block k hk hne), h.kind⟩
theorem OneB.cell {W W' : World} {b : Nat} {t : TypeId} (h : OneB W W' (some b) t) {k o : Nat} {v : Value} (hc : W.cell? ⟨k, o, none⟩ = some v) (hne : k ≠ b) : W'.cell? ⟨k, o, none⟩ = some v := by
  rw [← hc]
  have := h.block k (cell_lt hc) (fun e => hne (Option.some.inj e).symm)
  simp only [World.cell?, this]
theorem OrdAt.one {W W' : World} {go gp gs n b : Nat} {Pf Sf : Nat → Nat} {t : TypeId} (h : OrdAt W go gp gs n Pf Sf) (ho : OneB W W' (some b) t) (h1 : go ≠ b) (h2 : gp ≠ b) (h3 : gs ≠ b) : OrdAt W' go gp gs n Pf Sf :=
  ⟨ho.cell h.o0 h1, ho.cell h.o1 h1, fun i hi => ho.cell (h.pc i hi) h2, fun i hi => ho.cell (h.sc i hi) h3⟩
/-- Both answers of New. -/
theorem new_both {w w' w6 w1 : World} {n : Int} {L : List (Int × Int)} {po pr : Option Addr} {z zf : Int} (h1 : NewC w n L po z w6) (h2 : RefC w' n L pr zf w1) :
    z = zf ∧ ((po = none ∧ pr = none) ∨ (∃ go gp gs Pf Sf gr ov rr, po = some ⟨go, 0, none⟩ ∧ pr = some ⟨gr, 0, none⟩ ∧ (w.heap.size ≤ go ∧ w.heap.size ≤ gp ∧ w.heap.size ≤ gs) ∧ OrdAt w6 go gp gs n.toNat Pf Sf ∧ Ord n.toNat (ordL n.toNat L) Pf Sf ∧ Mat w' gr n.toNat n.toNat (ordL n.toNat L) ov rr w1)) := by
  rcases h1 with ⟨a, rfl, rfl⟩ | ⟨a, b, rfl, rfl⟩ | ⟨a, b, rfl, go, gp, gs, Pf, Sf, rfl, c, d, e⟩
  · rcases h2 with ⟨_, rfl, rfl⟩ | ⟨a', _⟩ | ⟨a', _⟩
    · exact ⟨rfl, .inl ⟨rfl, rfl⟩⟩
    · exact absurd a' a
    · exact absurd a' a
  · rcases h2 with ⟨a', _⟩ | ⟨_, _, rfl, rfl⟩ | ⟨_, b', _⟩
    · exact absurd a a'
    · exact ⟨rfl, .inl ⟨rfl, rfl⟩⟩
    · exact absurd b b'
  · rcases h2 with ⟨a', _⟩ | ⟨_, b', _⟩ | ⟨_, _, rfl, gr, ov, rr, rfl, f⟩
    · exact absurd a a'
    · exact absurd b' b
    · exact ⟨rfl, .inr ⟨go, gp, gs, Pf, Sf, gr, ov, rr, rfl, rfl, c, d, e, f⟩⟩
theorem makeX (m : Nat) (hm : m ≤ 200) (W : World) : (Instr.makeSlice 24 (.int .i64 (m : Int)) (.int .i64 (m : Int))).run Tryd.prog W = .ok (.slice (some ⟨W.heap.size, 0, none⟩) m m) (W.alloc (.cells (madeCells #[.int .i64 0] m) 3)) := by
  obtain ⟨i, hi, hz, hs, hb⟩ := info_parts infoIV
  have hr := run_make (P := Tryd.prog) W 24 3 i _ Tryd.underlying24 hi hz .i64 .i64 m m (by omega) (Int.le_refl _) (by rw [hb]; omega) (by omega)
  simp only [Int.toNat_natCast, hs, Nat.mul_one] at hr
  exact hr
theorem row_made (W : World) (m : Nat) : K.RowI (W.alloc (.cells (madeCells #[.int .i64 0] m) 3)) (.slice (some ⟨W.heap.size, 0, none⟩) m m) (List.replicate m 0) := by
  refine ⟨_, _, by rw [List.length_replicate], ⟨by rw [List.length_replicate]; exact Nat.le_refl _, fun e => by cases e⟩, fun i z hz => ⟨_, _, rfl, ?_⟩⟩
  have hi := (List.getElem?_eq_some_iff.1 hz).1
  rw [List.length_replicate] at hi
  rw [List.getElem?_replicate, if_pos hi] at hz
  cases hz
  rw [Nat.zero_add]
  exact (World.rowIs_made W (.int .i64 0) m 3).cell hi
/-- Nought as every place's priority. -/
theorem prA_zero {W : World} {g cap m : Nat} (h : K.RowI W (.slice (some ⟨g, 0, none⟩) m cap) (List.replicate m 0)) : PrA W (some ⟨g, 0, none⟩) m (fun _ => 0) := fun k hk => by
  obtain ⟨oa, cap', e, _, hc⟩ := h
  rw [List.length_replicate] at e
  cases e
  exact hc k 0 (by rw [List.getElem?_replicate, if_pos hk])
set_option maxRecDepth 100000 in
set_option maxHeartbeats 4000000 in
theorem orderOwn_walk (n : Int) (v : Value) (L : List (Int × Int)) (A B s : Int) (ob : Option Addr) (lb cb : Nat) (mo : Int) (w : World) (hv : PairsAt w v L) (hn : L.length * 16 ≤ 140737488351232) (ht : Tab w) :
    Calls Tryd.prog 3 #[.agg #[.int .i64 n, v, .int .i64 A, .int .i64 B, .int .u64 s, .slice ob lb cb, .int .u64 mo]] w fun e w' => e = .returned (.bool true) ∧ Below w.heap.size w w' := by
  obtain ⟨oa, cap, hve, _⟩ := id hv
  subst hve
  have hB0 : Below w.heap.size w (w.alloc (.cells #[.int .i64 n, .slice oa L.length cap, .int .i64 A, .int .i64 B, .int .u64 s, .slice ob lb cb, .int .u64 mo] 26)) := (Below.refl _ w).alloc (Nat.le_refl _) _
  have c0 : (w.alloc (.cells #[.int .i64 n, .slice oa L.length cap, .int .i64 A, .int .i64 B, .int .u64 s, .slice ob lb cb, .int .u64 mo] 26)).cell? ⟨w.heap.size, 0, none⟩ = some (.int .i64 n) := by simp
  have c1 : (w.alloc (.cells #[.int .i64 n, .slice oa L.length cap, .int .i64 A, .int .i64 B, .int .u64 s, .slice ob lb cb, .int .u64 mo] 26)).cell? ⟨w.heap.size, 1, none⟩ = some (.slice oa L.length cap) := by simp
  have KRf := hide' (refT n _ L _ (hv.over hB0) (by omega))
  go_enter Tryd.func3, Tryd.ntmps3
  go_wp2_with fail
  refine KRf.out.mono ?_
  rintro e w1 ⟨pr, zf, rfl, hRC, hb1⟩
  have B1 := hB0.trans (hb1.mono hB0.size)
  have d0 := cell_over c0 hb1
  have d1 := cell_over c1 hb1
  clear c0 c1 KRf hB0 hb1
  go_upto_region 3 with fail
  have hgm := heap_newV w1 (.cells #[.int .i64 (-7), .int .i64 (-8)] 30)
  have hz3 : (w1.alloc (.cells #[.int .i64 (-7), .int .i64 (-8)] 30)).heap.size = w1.heap.size + 1 := by simp
  have hb3 : Below w1.heap.size w1 (w1.alloc (.cells #[.int .i64 (-7), .int .i64 (-8)] 30)) := (Below.refl _ w1).alloc (Nat.le_refl _) _
  generalize w1.alloc (.cells #[.int .i64 (-7), .int .i64 (-8)] 30) = W3 at *
  have B3 := B1.trans (hb3.mono B1.size)
  have hzW : w1.heap.size + 1 = W3.heap.size := by omega
  have hPv : Hid (∀ V, Below (w1.heap.size + 1) W3 V → PairsAt V (.slice oa L.length cap) L) := fun V hV => hv.over (B3.trans (hV.mono (by have := B3.size; omega)))
  have hSv : Hid (∀ V, Below (w1.heap.size + 1) W3 V → V.cell? ⟨w.heap.size, 1, none⟩ = some (.slice oa L.length cap) ∧ V.cell? ⟨w1.heap.size, 0, none⟩ = some (.int .i64 (-7)) ∧ V.cell? ⟨w1.heap.size, 1, none⟩ = some (.int .i64 (-8))) := fun V hV => by
    have e := (hV.block w1.heap.size (by omega)).trans hgm
    exact ⟨cell_over (cell_over d1 hb3) (by rw [hz3]; exact hV), by simp [World.cell?, e], by simp [World.cell?, e]⟩
  have hBd : Hid (Below (w1.heap.size + 1) W3 W3.drew) := (Below.refl _ _).drew
  have hA0 : Below (w1.heap.size + 1) W3 (W3.alloc EmP) := (Below.refl _ _).alloc (by omega) _
  have hM0 : Below (w1.heap.size + 1) W3 (W3.alloc MkP) := (Below.refl _ _).alloc (by omega) _
  have hBA : Hid (Below (w1.heap.size + 1) W3 (W3.alloc EmP).drew) := hA0.drew
  have hBM : Hid (Below (w1.heap.size + 1) W3 (W3.alloc MkP).drew) := hM0.drew
  have hBB : Hid (Below (w1.heap.size + 1) W3 ((W3.alloc EmP).alloc MkP).drew) := (hA0.alloc (by have := hA0.size; omega) _).drew
  have hBC : Hid (Below (w1.heap.size + 1) W3 ((W3.alloc MkP).alloc EmP).drew) := (hM0.alloc (by have := hM0.size; omega) _).drew
  have hz0A : (W3.alloc EmP).ownsRow (w1.heap.size + 1) 30 2 (.slice (some ⟨w1.heap.size + 1, 0, none⟩) 0 0) 0 (cellsP []) := zero_at (Nat.le_refl _) (by rw [hzW]; exact heap_newV W3 EmP)
  have hzA : Hid ((W3.alloc EmP).drew.ownsRow (w1.heap.size + 1) 30 2 (.slice (some ⟨w1.heap.size + 1, 0, none⟩) 0 0) 0 (cellsP [])) := hz0A.drew
  have hzB : Hid (((W3.alloc EmP).alloc MkP).drew.ownsRow (w1.heap.size + 1) 30 2 (.slice (some ⟨w1.heap.size + 1, 0, none⟩) 0 0) 0 (cellsP [])) := (hz0A.alloc _).drew
  have hzC : Hid (((W3.alloc MkP).alloc EmP).drew.ownsRow (w1.heap.size + 1) 30 2 (.slice (some ⟨w1.heap.size + 1 + 1, 0, none⟩) 0 0) 0 (cellsP [])) := (zero_at (by omega) (by rw [hzW]; have := heap_newV (W3.alloc MkP) EmP; rw [World.size_alloc] at this; exact this)).drew
  have hmB : Hid (((W3.alloc EmP).alloc MkP).drew.heap[w1.heap.size + 1 + 1]? = some MkP) := by rw [hzW]; have := heap_newV (W3.alloc EmP) MkP; rw [World.size_alloc] at this; exact this
  have hmC : Hid (((W3.alloc MkP).alloc EmP).drew.heap[w1.heap.size + 1]? = some MkP) := by
    rw [hzW]
    exact (Below.heap_alloc (W3.alloc MkP) EmP _ (by simp)).trans (heap_newV W3 MkP)
  have hsB : Hid (w1.heap.size + 1 + 1 < ((W3.alloc EmP).alloc MkP).drew.heap.size) := (Array.getElem?_eq_some_iff.1 hmB.out).1
  have hsC : Hid (w1.heap.size + 1 < ((W3.alloc MkP).alloc EmP).drew.heap.size) := (Array.getElem?_eq_some_iff.1 hmC.out).1
  have hs3' : Hid (∀ V, Below (w1.heap.size + 1) W3 V → w1.heap.size + 1 ≤ V.heap.size) := fun V hV => by have := hV.size; omega
  clear hz0A hA0 hM0 hzW
  simp only [EmP, MkP] at hBA hBM hBB hBC hzA hzB hzC hmB hmC hsB hsC
  go_cut [6] from 26 to 34 (fun s wx => ∃ g5 cap5, s = .slice (some ⟨g5, 0, none⟩) (L.length + 2) cap5 ∧ Hid (wx.ownsRow (w1.heap.size + 1) 30 2 (.slice (some ⟨g5, 0, none⟩) (L.length + 2) cap5) (L.length + 2) (cellsP (L ++ mk2))) ∧ Hid (Below (w1.heap.size + 1) W3 wx))
  case first =>
    go_region_held3 (fun V => V.cell? ⟨w.heap.size, 1, none⟩ = some (.slice oa L.length cap) ∧ V.cell? ⟨w1.heap.size, 0, none⟩ = some (.int .i64 (-7)) ∧ V.cell? ⟨w1.heap.size, 1, none⟩ = some (.int .i64 (-8))) (first | (exact hSv.out _ hBd.out) | (exact hSv.out _ hBA.out) | (exact hSv.out _ hBM.out) | (exact hSv.out _ hBB.out) | (exact hSv.out _ hBC.out) | (exact hSv.out _ hb5.out) | (exact hSv.out _ hb4.out) | (exact hSv.out _ (Below.alloc hb4.out (hs3'.out _ hb4.out) _))) (first | (rw [if_pos (by rfl)]; refine app_pairs (.tmp 26) (.tmp 28) rfl (W3.alloc (.cells #[] 30)).drew (w1.heap.size + 1) (w1.heap.size + 1) oa cap L rfl rfl hzA.out (hPv.out _ hBA.out) hn (hs3'.out _ hBA.out) ?_; intro oa1 cap1 w4 hO4 hG4; have hb4 : Hid (Below (w1.heap.size + 1) W3 w4) := hBA.out.grown hG4.out (hs3'.out _ hBA.out) (fun j ej => by cases ej; exact Nat.le_refl _)) | (rw [if_pos (by rfl)]; refine app_pairs (.tmp 26) (.tmp 28) rfl ((W3.alloc (.cells #[] 30)).alloc (.cells #[.int .i64 (-7), .int .i64 (-8), .int .i64 (-7), .int .i64 (-8)] 30)).drew (w1.heap.size + 1) (w1.heap.size + 1) oa cap L rfl rfl hzB.out (hPv.out _ hBB.out) hn (hs3'.out _ hBB.out) ?_; intro oa1 cap1 w4 hO4 hG4; have hb4 : Hid (Below (w1.heap.size + 1) W3 w4) := hBB.out.grown hG4.out (hs3'.out _ hBB.out) (fun j ej => by cases ej; exact Nat.le_refl _); have hm4 := hide' ((hG4.out.block (w1.heap.size + 1 + 1) hsB.out (by intro e; injection e; omega)).trans hmB.out)) | (rw [if_pos (by rfl)]; refine app_pairs (.tmp 26) (.tmp 28) rfl ((W3.alloc (.cells #[.int .i64 (-7), .int .i64 (-8), .int .i64 (-7), .int .i64 (-8)] 30)).alloc (.cells #[] 30)).drew (w1.heap.size + 1) (w1.heap.size + 1 + 1) oa cap L rfl rfl hzC.out (hPv.out _ hBC.out) hn (hs3'.out _ hBC.out) ?_; intro oa1 cap1 w4 hO4 hG4; have hb4 : Hid (Below (w1.heap.size + 1) W3 w4) := hBC.out.grown hG4.out (hs3'.out _ hBC.out) (fun j ej => by cases ej; omega); have hm4 := hide' ((hG4.out.block (w1.heap.size + 1) hsC.out (by intro e; injection e; omega)).trans hmC.out)) | (rw [if_pos (by rfl)]; refine app_marks (.tmp 29) (.tmp 32) rfl (w4.alloc (.cells #[.int .i64 (-7), .int .i64 (-8), .int .i64 (-7), .int .i64 (-8)] 30)) (w1.heap.size + 1) w4.heap.size _ L rfl rfl (hO4.out.alloc _) (heap_newV w4 _) hn (hs3'.out _ (Below.alloc hb4.out (hs3'.out _ hb4.out) _)) ?_; intro g5 cap5 w5 hO5 hG5; have hb5 : Hid (Below (w1.heap.size + 1) W3 w5) := (Below.alloc hb4.out (hs3'.out _ hb4.out) _).grown hG5.out (hs3'.out _ (Below.alloc hb4.out (hs3'.out _ hb4.out) _)) (own_geV hO4.out)) | (rw [if_pos (by rfl)]; refine app_marks (.tmp 29) (.tmp 32) rfl w4 (w1.heap.size + 1) _ _ L rfl rfl hO4.out hm4.out hn (hs3'.out _ hb4.out) ?_; intro g5 cap5 w5 hO5 hG5; have hb5 : Hid (Below (w1.heap.size + 1) W3 w5) := hb4.out.grown hG5.out (hs3'.out _ hb4.out) (own_geV hO4.out)))
    all_goals go_wp2_with fail
    all_goals go_meet
    all_goals exact ⟨g5, cap5, rfl, hO5, hb5⟩
  case rest =>
  clear hBd hBA hBM hBB hBC hzA hzB hzC hmB hmC hsB hsC
  obtain ⟨g5, cap5, rfl, hO5, hb5⟩ := hcut
  have hcap5 : Hid (L.length + 2 ≤ cap5) := by
    rcases hO5.out.2 with ⟨e, _⟩ | ⟨g, cap', cur, e, _, _, h, _⟩
    · cases e
    · simp only [Value.slice.injEq] at e
      obtain ⟨_, _, rfl⟩ := e
      show _ ≤ _
      exact h
  have hP5 : Hid (PairsAt wc (.slice (some ⟨g5, 0, none⟩) L.length cap5) L) := by
    have h : PairsAt wc (.slice (some ⟨g5, 0, none⟩) (L ++ mk2).length cap5) (L ++ mk2) := PairsAt.of_owns (by rw [show (L ++ mk2).length = L.length + 2 by simp [mk2]]; exact hO5.out)
    obtain ⟨oa', cap', e, hc1, hc2⟩ := h
    simp only [Value.slice.injEq] at e
    obtain ⟨rfl, _, rfl⟩ := e
    refine ⟨_, _, rfl, ⟨by have := hcap5.out; omega, fun e => by cases e⟩, fun i p hp => hc2 i p ?_⟩
    rw [List.getElem?_append_left (List.getElem?_eq_some_iff.1 hp).1]; exact hp
  have hT3 : Hid (∀ V, Below (w1.heap.size + 1) W3 V → Tab V) := fun V hV => ht.over (B3.trans (hV.mono (by have := B3.size; omega)))
  have KN : Hid (Calls Tryd.prog 5 #[.int .i64 n, .slice (some ⟨g5, 0, none⟩) L.length cap5] wc.drew fun e w' => ∃ po z, e = .returned (.tuple #[.pointer po, .int .i64 z]) ∧ Hid (NewC wc.drew n L po z w') ∧ Below wc.drew.heap.size wc.drew w') := newT n _ L wc.drew (hP5.out.over (Below.refl _ _).drew) (by omega) (hT3.out _ hb5.out.drew)
  have hlc : L.length ≤ cap5 := by have := hcap5.out; omega
  have hSr : Hid (∀ V, Below (w1.heap.size + 1) W3 V → V.cell? ⟨w.heap.size, 0, none⟩ = some (.int .i64 n) ∧ V.cell? ⟨w.heap.size, 1, none⟩ = some (.slice oa L.length cap)) := fun V hV => ⟨cell_over (cell_over d0 hb3) (by rw [hz3]; exact hV), (hSv.out V hV).1⟩
  have hd5 : Hid (Below (w1.heap.size + 1) W3 wc.drew) := hb5.out.drew
  go_wp2
  go_region_held3 (fun V => V.cell? ⟨w.heap.size, 0, none⟩ = some (.int .i64 n) ∧ V.cell? ⟨w.heap.size, 1, none⟩ = some (.slice oa L.length cap)) (first | (exact hSr.out _ hd5.out) | (exact hSr.out _ hb6.out)) (first | (go_at_call 5; refine KN.out.mono ?_; rintro e w6 ⟨po, ze, rfl, hNC, hb6'⟩; have hb6 : Hid (Below (w1.heap.size + 1) W3 w6) := hd5.out.trans (hb6'.mono (by have := hd5.out.size; omega))))
  have hO6 : Hid (w6.ownsRow (w1.heap.size + 1) 30 2 (.slice (some ⟨g5, 0, none⟩) (L.length + 2) cap5) (L.length + 2) (cellsP (zP (L ++ mk2) 0))) := by
    have h := owns_belowV (owns_belowV hO5.out (Below.refl _ wc).drew) hb6'
    have e : zP (L ++ mk2) 0 = L ++ mk2 := by simp [zP]
    rw [e]; exact h
  have hll : Hid ((L ++ mk2).length = L.length + 2) := by show _ = _; simp [mk2]
  have hmk : Hid (∀ i, L.length ≤ i → i < L.length + 2 → (L ++ mk2)[i]? = some (-7, -8)) := fun i h1 h2 => by
    rw [List.getElem?_append_right h1]
    rcases Nat.lt_or_ge i (L.length + 1) with h | h
    · rw [show i - L.length = 0 by omega]; rfl
    · rw [show i - L.length = 1 by omega]; rfl
  have hg5l : Hid (g5 < wc.heap.size) := (hO5.out.lt g5 rfl).2
  clear hO5 hP5 KN hd5 hcap5
  have hwz : Hid (∀ i, i < L.length + 2 → ∀ V : World, V.ownsRow (w1.heap.size + 1) 30 2 (.slice (some ⟨g5, 0, none⟩) (L.length + 2) cap5) (L.length + 2) (cellsP (zP (L ++ mk2) i)) → OneB w6 V (some g5) 30 → Below (w1.heap.size + 1) W3 V →
      Hid (((V.setCell ⟨g5, i * 2, none⟩ (.int .i64 0)).setCell ⟨g5, i * 2 + 1, none⟩ (.int .i64 0)).ownsRow (w1.heap.size + 1) 30 2 (.slice (some ⟨g5, 0, none⟩) (L.length + 2) cap5) (L.length + 2) (cellsP (zP (L ++ mk2) (i + 1))) ∧ OneB w6 ((V.setCell ⟨g5, i * 2, none⟩ (.int .i64 0)).setCell ⟨g5, i * 2 + 1, none⟩ (.int .i64 0)) (some g5) 30 ∧ Below (w1.heap.size + 1) W3 ((V.setCell ⟨g5, i * 2, none⟩ (.int .i64 0)).setCell ⟨g5, i * 2 + 1, none⟩ (.int .i64 0)))) := fun i hi V h1 h2 h3 => by
    have hg5 : w1.heap.size + 1 ≤ g5 := own_geV h1 g5 rfl
    have k1 := (h1.stored (i * 2) (.int .i64 0)).1
    have k2 := (k1.stored (i * 2 + 1) (.int .i64 0)).1
    rw [cellsP_set, zP_set _ (by have := hll.out; omega)] at k2
    refine ⟨k2, ⟨Nat.le_trans h2.size (by simp [World.setCell]), fun k hk hne => ?_, h2.kind⟩, (h3.setCell (p := ⟨g5, i * 2, none⟩) hg5 _).setCell (p := ⟨g5, i * 2 + 1, none⟩) hg5 _⟩
    have hne' : k ≠ g5 := fun e => hne (by rw [e])
    exact ((Below.heap_setCell _ ⟨g5, i * 2 + 1, none⟩ _ k hne').trans (Below.heap_setCell _ ⟨g5, i * 2, none⟩ _ k hne')).trans (h2.block k hk hne)
  go_upto_block 0 with fail
  go_cut [9] from 45 to 87 (fun _ wx => Hid (OneB w6 wx (some g5) 30) ∧ Hid (Below (w1.heap.size + 1) W3 wx))
  case first =>
    as_aux_lemma =>
    go_wp2
    go_loopw [9] (fun pi wr => ∃ i : Nat, i ≤ L.length + 2 ∧ pi = .int .i64 i ∧ Hid (wr.ownsRow (w1.heap.size + 1) 30 2 (.slice (some ⟨g5, 0, none⟩) (L.length + 2) cap5) (L.length + 2) (cellsP (zP (L ++ mk2) i)) ∧ OneB w6 wr (some g5) 30 ∧ Below (w1.heap.size + 1) W3 wr)) (fun pi _ => ((L.length : Int) + 2 - intOf pi).toNat)
    case atStart => exact ⟨0, Nat.zero_le _, rfl, hO6.out, ⟨Nat.le_refl _, fun _ _ _ => rfl, fun k e => Go.Lib.ownsRow_kind hO6.out k (by rw [← e]; rfl)⟩, hb6.out⟩
    case round =>
      clear hO6
      obtain ⟨i, hi, rfl, hI⟩ := hrel
      obtain ⟨q1, q2, q3⟩ := hSv.out _ hI.out.2.2
      by_cases hlt : i < L.length + 2
      · obtain ⟨⟨x, y⟩, hxy⟩ : ∃ p, (L ++ mk2)[i]? = some p := ⟨_, List.getElem?_eq_getElem (by have := hll.out; omega)⟩
        have hcl : (cellsP (zP (L ++ mk2) i)).length = (L.length + 2) * 2 := by rw [cellsP_len, zP_len _ (by have := hll.out; omega), hll.out]
        have ci0 : wr.cell? ⟨g5, i * 2, none⟩ = some (.int .i64 x) := by
          rw [hI.out.1.cellAt (i * 2) (by omega), (cellsP_at _ i).1, zP_at, hxy]; rfl
        have ci1 : wr.cell? ⟨g5, i * 2 + 1, none⟩ = some (.int .i64 y) := by
          rw [hI.out.1.cellAt (i * 2 + 1) (by omega), (cellsP_at _ i).2, zP_at, hxy]; rfl
        have f0 := hI.out.1.frozenAt (i * 2)
        have f1 := hI.out.1.frozenAt (i * 2 + 1)
        have hil : (i : Int) < (L.length : Int) + 2 := by omega
        have hpe := fun W => pair_eq x y W
        have hszI : w1.heap.size + 1 ≤ wr.heap.size := by have := hI.out.2.2.size; omega
        clear hcl
        by_cases hl : i < L.length
        · have hli : L[i]? = some (x, y) := by rw [List.getElem?_append_left hl] at hxy; exact hxy
          obtain ⟨oa', cap', e, hcc, hc⟩ := hPv.out _ hI.out.2.2
          cases e
          obtain ⟨g, o, rfl, p0, p1⟩ := hc i (x, y) hli
          simp only [] at p0 p1
          have hl' : (i : Int) < (L.length : Int) := by omega
          have hge : ¬ (L.length : Int) ≤ (i : Int) := by omega
          have hd1 : decide (i < L.length) = true := by simpa using hl
          have hd2 : decide (L.length ≤ i) = false := by simp; omega
          clear hc q2 q3 hmk hSr hPv hNC hRC
          go_wp2
          go_quiet (fail)
          have hbq : Below wr.heap.size wr (wr.drewN nq) := ⟨rfl, rfl, rfl, Nat.le_refl _, fun _ _ => rfl⟩
          have cq0 := cell_over ci0 hbq
          have cq1 := cell_over ci1 hbq
          have hOq := owns_belowV hI.out.1 hbq
          have fq0 := hOq.frozenAt (i * 2)
          have fq1 := hOq.frozenAt (i * 2 + 1)
          have hnext := hide' (hwz.out i hlt _ hOq ((OneB.below hI.out.2.1 hbq)) (hI.out.2.2.trans (hbq.mono hszI)))
          clear hI ci0 ci1 f0 f1 hbq hOq
          generalize wr.drewN nq = Wq at *
          go_wp2
          exact ⟨⟨i + 1, by omega, by go_num, hnext.out⟩, by simp [intOf]; omega⟩
        · have hge : (L.length : Int) ≤ (i : Int) := by omega
          have hd1 : decide (i < L.length) = false := by simp; omega
          have hd2 : decide (L.length ≤ i) = true := by simp; omega
          obtain ⟨rfl, rfl⟩ : x = -7 ∧ y = -8 := by
            have := hmk.out i (by omega) hlt
            rw [hxy] at this
            cases this
            exact ⟨rfl, rfl⟩
          have hl' : ¬ (i : Int) < (L.length : Int) := by omega
          clear hmk hSr hPv hNC hRC
          go_wp2
          go_quiet (fail)
          have hbq : Below wr.heap.size wr (wr.drewN nq) := ⟨rfl, rfl, rfl, Nat.le_refl _, fun _ _ => rfl⟩
          have cq0 := cell_over ci0 hbq
          have cq1 := cell_over ci1 hbq
          have hOq := owns_belowV hI.out.1 hbq
          have fq0 := hOq.frozenAt (i * 2)
          have fq1 := hOq.frozenAt (i * 2 + 1)
          have hnext := hide' (hwz.out i hlt _ hOq ((OneB.below hI.out.2.1 hbq)) (hI.out.2.2.trans (hbq.mono hszI)))
          clear hI ci0 ci1 f0 f1 hbq hOq
          generalize wr.drewN nq = Wq at *
          go_wp2
          exact ⟨⟨i + 1, by omega, by go_num, hnext.out⟩, by simp [intOf]; omega⟩
      · obtain rfl : i = L.length + 2 := by omega
        have hd0 : ¬ ((L.length + 2 : Nat) : Int) < (L.length : Int) + 2 := by omega
        have h1 := hide' hI.out.2.1
        have h2 := hide' hI.out.2.2
        clear hI
        go_wp2
        go_meet
        exact ⟨h1, h2⟩
  case rest =>
  obtain ⟨hOB, hb7⟩ := hcut
  have hB7 : Hid (Below w.heap.size w wc) := B3.trans (hb7.out.mono (by have := B3.size; omega))
  have hb17 : Hid (Below w1.heap.size w1 wc) := hb3.trans (hb7.out.mono (by omega))
  have ht7 := hT3.out _ hb7.out
  obtain ⟨rfl, hboth⟩ := new_both hNC.out hRC.out
  have hzz : (ze != ze) = false := by simp
  clear hO6 hb6' hb6 hwz hmk hll hSr hSv hPv hs3' hT3 hb5 hNC hRC
  rcases hboth with ⟨rfl, rfl⟩ | ⟨go, gp, gs, Pf, Sf, gr, ov, rr, rfl, rfl, hnew, ho6, hO, hM1⟩
  · go_wp2_with fail
    refine (wakes3 wc ht7).mono ?_
    rintro e w8 ⟨rfl, hb8⟩
    have hend : Hid (Below w.heap.size w w8) := hB7.out.trans (hb8.mono hB7.out.size)
    clear hb8
    go_wp2
    go_ret
    exact ⟨rfl, hend.out⟩
  · have hm := hO.n64
    have hg5 := hg5l.out
    have ho7 : OrdAt wc go gp gs n.toNat Pf Sf := ho6.one hOB.out (by have := hnew.1; simp at this; omega) (by have := hnew.2.1; simp at this; omega) (by have := hnew.2.2; simp at this; omega)
    have hM7 := hM1.over hb17.out
    obtain ⟨K0, hK, hKf, hKn⟩ := hO.levels_ex
    generalize n.toNat = m at *
    go_wp2_with fail
    refine (wakes3 wc ht7).mono ?_
    rintro e w8 ⟨rfl, hb8⟩
    have ho8 := ho7.over hb8
    have hM8 := hM7.over hb8
    have ht8 := ht7.over hb8
    have hB8 : Hid (Below w.heap.size w w8) := hB7.out.trans (hb8.mono hB7.out.size)
    have hst := hide' (Zp.start w8)
    obtain ⟨b, hbe⟩ : ∃ b, b = w8.heap.size := ⟨_, rfl⟩
    rw [← hbe] at hst
    have hlow : ∀ V, Below b w8 V → Below w8.heap.size w8 V := fun V h => by rw [hbe] at h; exact h
    have hN : Hid (∀ V, Below b w8 V → V.cell? ⟨gr, 0, none⟩ = some (.int .i64 (m : Int))) := fun V hV => (hM8.over (hlow V hV)).c0
    have KV : Hid (∀ V, Below b w8 V → Calls Tryd.prog 8 #[.pointer (some ⟨go, 0, none⟩)] V fun e w' => ∃ v, e = .returned v ∧ Hid (RV V.heap.size w' v (lvs m Pf K0)) ∧ Below V.heap.size V w') := fun V hV => levelsO (ho8.over (hlow V hV)) hO (ht8.over (hlow V hV)) K0 hK hKf hKn
    have RV' : Hid (∀ V, Below b w8 V → Calls Tryd.prog 18 #[.pointer (some ⟨gr, 0, none⟩)] V fun e w' => ∃ v, e = .returned v ∧ Hid (RV V.heap.size w' v (lvs m Pf K0)) ∧ Below V.heap.size V w') := fun V hV => refLevels (hM8.over (hlow V hV)) hO K0 hK hKf hKn
    have KG : Hid (∀ V g cap, Below b w8 V → K.RowI V (.slice (some ⟨g, 0, none⟩) m cap) (List.replicate m 0) → Calls Tryd.prog 9 #[.pointer (some ⟨go, 0, none⟩), .slice (some ⟨g, 0, none⟩) m cap] V fun e w' => ∃ oa cap, e = .returned (.tuple #[.slice oa m cap, .int .i64 0]) ∧ Hid (w'.ownsRow V.heap.size 3 1 (.slice oa m cap) m (cellsN (lK m (ordL m L) (fun _ => 0) m))) ∧ Below V.heap.size V w') := fun V g cap hV hP => leastG hO (ho8.over (hlow V hV)) (ht8.over (hlow V hV)) _ cap (prA_zero hP)
    have KC : Hid (∀ V, Below b w8 V → Calls Tryd.prog 12 #[.pointer (some ⟨go, 0, none⟩)] V fun e W' => ∃ v, e = .returned v ∧ W'.ownsRow V.heap.size 30 2 v (covK Pf Sf m).length (cellsP (covK Pf Sf m)) ∧ Below V.heap.size V W') := fun V hV => coversO (ho8.over (hlow V hV)) hm (fun a ha => hO.pre_lt ha) (fun a ha => hO.suc_lt ha) (fun a ha => hO.nums_in ha) (ht8.over (hlow V hV))
    have RC : Hid (∀ V, Below b w8 V → Calls Tryd.prog 16 #[.pointer (some ⟨gr, 0, none⟩)] V fun e W' => ∃ v, e = .returned v ∧ PairsAt W' v (covK Pf Sf m) ∧ Below V.heap.size V W') := fun V hV => by
      rw [hO.cov_all]
      exact (refCovers (hM8.over (hlow V hV)) hm).mono fun e W' ⟨v, h1, h2, h3⟩ => ⟨v, h1, PairsAt.of_owns h2, h3⟩
    have hLl : Hid ((lvs m Pf K0).length ≤ 1000000 ∧ ∀ l ∈ lvs m Pf K0, l.length ≤ 1000000) := by
      refine ⟨by rw [lvs_len]; omega, fun l hl => ?_⟩
      obtain ⟨j, _, rfl⟩ := List.mem_map.1 hl
      unfold lvl
      refine Nat.le_trans (List.length_filter_le _ _) ?_
      simp
      omega
    have hLk : Hid ((lK m (ordL m L) (fun _ => 0) m).length = m) := lK_len ..
    have hcl : Hid ((covK Pf Sf m).length ≤ 1000000) := by
      show _ ≤ _
      rw [hO.cov_all]
      have h1 := cvK_len (ordL m L) m m
      have h2 : m * m ≤ 64 * 64 := Nat.mul_le_mul hm hm
      omega
    have hbe' := hide' hbe
    clear ho6 ho7 ho8 hM1 hM7 hM8 hO hK hKf hKn hnew hb8 hlow
    generalize lvs m Pf K0 = LL at *
    generalize lK m (ordL m L) (fun _ => 0) m = LK at *
    generalize covK Pf Sf m = CC at *
    go_wp2
    generalize (w8.alloc (.cells #[.slice none 0 0, .slice none 0 0, .slice none 0 0, .slice none 0 0, .slice none 0 0, .slice none 0 0, .slice none 0 0, .slice none 0 0, .slice none 0 0, .slice none 0 0, .slice none 0 0, .slice none 0 0, .int .i64 0] 41)).alloc (.cells #[.slice none 0 0, .slice none 0 0, .slice none 0 0, .slice none 0 0] 45) = W5 at *
    simp only [← hbe]
    clear hbe
    go_loopw [12, 13, 14, 15, 16] (fun k _ _ _ _ wr => ∃ c : Nat, c ≤ 3 ∧ k = .int .i64 c ∧ Hid (Zp w8 wr b c)) (fun k _ _ _ _ _ => ((3 : Int) - intOf k).toNat)
    case atStart => exact ⟨0, Nat.zero_le _, rfl, hst⟩
    case round =>
      clear hst
      obtain ⟨c, hc3, rfl, hZ0⟩ := hrel
      by_cases hlt3 : c < 3
      · as_aux_lemma =>
        have hd3 : decide ((c : Int) < 3) = true := by simp; omega
        go_wp2_with fail
        refine (KV.out wr hZ0.out.old).mono ?_
        rintro e w9 ⟨v9, rfl, hv9, hb9⟩
        have KL := hide' (zpLists hZ0.out hb9 v9 LL hv9.out hLl.out.1 hLl.out.2)
        clear hv9 hb9 hZ0
        go_wp2_with fail
        refine KL.out.mono ?_
        rintro e w10 ⟨rfl, hZ1⟩
        have q0 := hN.out w10 hZ1.out.old
        have hmk := makeX m (by omega) w10
        have hba : Below w10.heap.size w10 (w10.alloc (.cells (madeCells #[.int .i64 0] m) 3)) := (Below.refl _ _).alloc (Nat.le_refl _) _
        have KI := hide' (zpLoan (hZ1.out.below hba) (by omega) _ (List.replicate m 0) (row_made w10 m) (by rw [List.length_replicate]; omega))
        rw [List.length_replicate] at KI
        clear KL hba
        go_wp2_with fail
        refine KI.out.mono ?_
        rintro e w11 ⟨g11, c11, rfl, hZ2, hr11⟩
        have KG1 := hide' (KG.out w11 g11 c11 hZ2.out.old hr11.out)
        clear KI q0 hmk hr11
        go_wp2_with fail
        refine KG1.out.mono ?_
        rintro e w12 ⟨o12, c12, rfl, hr12, hb12⟩
        have KB1 := hide' (zpBook hZ2.out hb12 (.slice o12 m c12) m (K.ints LK) (by rw [← K.cellsN_ints]; exact hr12.out) (by rw [K.ints_len, hLk.out]; omega))
        clear KG1 hr12 hb12 hZ2
        go_wp2_with fail
        refine KB1.out.mono ?_
        rintro e w13 ⟨rfl, hZ3⟩
        go_wp2_with fail
        refine (KC.out w13 hZ3.out.old).mono ?_
        rintro e w14 ⟨v14, rfl, hO14, hb14⟩
        obtain ⟨o14, c14, rfl⟩ : ∃ oa cap, v14 = .slice oa CC.length cap := by
          rcases hO14.2 with ⟨rfl, h0⟩ | ⟨g, cap, cur, rfl, _⟩
          · exact ⟨none, 0, by rw [h0]⟩
          · exact ⟨_, _, rfl⟩
        have hO14' : Hid (∃ cs, w14.ownsRow w13.heap.size 30 2 (.slice o14 CC.length c14) CC.length cs) := ⟨_, hO14⟩
        have hb14' := hide' hb14
        have hcl' := hcl.out
        clear KB1 hO14 hb14
        go_wp2
        go_loopw [16] (fun p wx => ∃ i : Nat, i ≤ CC.length ∧ p = .int .i64 (i : Int) ∧ Hid (∃ cs, wx.ownsRow w13.heap.size 30 2 (.slice o14 CC.length c14) CC.length cs) ∧ Hid (Below w13.heap.size w13 wx)) (fun p _ => ((CC.length : Int) - intOf p).toNat)
        case atStart => exact ⟨0, Nat.zero_le _, rfl, hO14', hb14'⟩
        case round =>
          clear hO14' hb14'
          obtain ⟨i, hi, rfl, hOx, hBx⟩ := hrel
          by_cases hlt : i < CC.length
          · have hlt' : (i : Int) < (CC.length : Int) := by omega
            obtain ⟨cs, hcs⟩ := hOx.out
            rcases hcs.2 with ⟨_, h0⟩ | ⟨g, cap', cur, e9, hg0, _⟩
            · omega
            cases e9
            have hlen : cs.length = CC.length * 2 := hcs.1
            obtain ⟨x0, hx0⟩ : ∃ x, cs[i * 2]? = some x := ⟨_, List.getElem?_eq_getElem (by omega)⟩
            obtain ⟨x1, hx1⟩ : ∃ x, cs[i * 2 + 1]? = some x := ⟨_, List.getElem?_eq_getElem (by omega)⟩
            have y0 : wr.cell? ⟨g, i * 2, none⟩ = some x0 := by rw [hcs.cellAt (i * 2) (by omega)]; exact hx0
            have y1 : wr.cell? ⟨g, i * 2 + 1, none⟩ = some x1 := by rw [hcs.cellAt (i * 2 + 1) (by omega)]; exact hx1
            have f0 := hcs.frozenAt (i * 2)
            have f1 := hcs.frozenAt (i * 2 + 1)
            have hO2 : Hid (∃ cs, ((wr.setCell ⟨g, i * 2, none⟩ (.int .i64 (i : Int))).setCell ⟨g, i * 2 + 1, none⟩ (.int .i64 (i : Int))).ownsRow w13.heap.size 30 2 (.slice (some ⟨g, 0, none⟩) CC.length c14) CC.length cs) := ⟨_, ((hcs.stored (i * 2) (.int .i64 (i : Int))).1.stored (i * 2 + 1) (.int .i64 (i : Int))).1⟩
            have hB2 : Hid (Below w13.heap.size w13 ((wr.setCell ⟨g, i * 2, none⟩ (.int .i64 (i : Int))).setCell ⟨g, i * 2 + 1, none⟩ (.int .i64 (i : Int)))) := (hBx.out.setCell (p := ⟨g, i * 2, none⟩) hg0 _).setCell (p := ⟨g, i * 2 + 1, none⟩) hg0 _
            clear hcs hOx hBx hx0 hx1 hlen
            go_wp2
            exact ⟨⟨i + 1, by omega, by go_num, hO2, hB2⟩, by simp [intOf]; omega⟩
          · obtain rfl : i = CC.length := by omega
            have hZ4 := hide' ((hZ3.out.below hBx.out).more (M' := c + 1) (Nat.le_refl _))
            clear hOx hBx
            go_wp2
            exact ⟨⟨c + 1, by omega, by go_num, hZ4⟩, by simp [intOf]; omega⟩
      · obtain rfl : c = 3 := by omega
        as_aux_lemma =>
        have hd3 : decide ((3 : Int) < 3) = false := by decide
        go_wp2_with fail
        refine (zpBack hZ0.out (by omega)).mono ?_
        rintro e w9 ⟨rfl, hK9⟩
        clear hZ0
        go_wp2_with fail
        refine (K.ownClose hK9.out).mono ?_
        rintro e w10 ⟨rfl, hb10⟩
        have hb10' := hide' hb10
        clear hK9 hb10
        have hsz : Hid (b ≤ w10.heap.size) := by have := hb10'.out.size; have := hbe'.out; show _ ≤ _; omega
        go_wp2_with fail
        refine (KC.out w10 hb10'.out).mono ?_
        rintro e w11 ⟨v11, rfl, hO11, hb11⟩
        have hB11 : Hid (Below b w8 w11) := hb10'.out.trans (hb11.mono hsz.out)
        have hP11 := hide' (PairsAt.of_owns hO11)
        clear hO11 hb11
        go_wp2_with fail
        refine (RC.out w11 hB11.out).mono ?_
        rintro e w12 ⟨v12, rfl, hP12, hb12⟩
        have hs11 : b ≤ w11.heap.size := by have := hB11.out.size; have := hbe'.out; omega
        have hB12 : Hid (Below b w8 w12) := hB11.out.trans (hb12.mono hs11)
        have KP := hide' (keepPairsT CC v11 v12 w12 (hP11.out.over hb12) hP12 hcl.out)
        clear hP11 hP12 hb12 hB11 hb10' hsz hs11
        go_wp2_with fail
        refine KP.out.mono ?_
        rintro e w13 ⟨rfl, hb13⟩
        have hs12 : b ≤ w12.heap.size := by have := hB12.out.size; have := hbe'.out; omega
        have hB13 : Hid (Below b w8 w13) := hB12.out.trans (hb13.mono hs12)
        clear KP hb13 hs12 hB12
        go_wp2_with fail
        refine (KV.out w13 hB13.out).mono ?_
        rintro e w14 ⟨v14, rfl, hv14, hb14⟩
        have hs13 : b ≤ w13.heap.size := by have := hB13.out.size; have := hbe'.out; omega
        have hB14 : Hid (Below b w8 w14) := hB13.out.trans (hb14.mono hs13)
        have hR14 := hide' (K.RR.of_own hv14.out)
        clear hv14 hb14 hs13 hB13
        go_wp2_with fail
        refine (RV'.out w14 hB14.out).mono ?_
        rintro e w15 ⟨v15, rfl, hv15, hb15⟩
        have hs14 : b ≤ w14.heap.size := by have := hB14.out.size; have := hbe'.out; omega
        have hB15 : Hid (Below b w8 w15) := hB14.out.trans (hb15.mono hs14)
        have hR15 := hide' (K.RR.of_own hv15.out)
        have KT := hide' (K.listsT _ _ _ _ (hR14.out.below hb15 (Nat.le_refl _)) hR15.out hLl.out.1 hLl.out.2)
        clear hR14 hR15 hv15 hb15 hs14 hB14
        go_wp2_with fail
        refine KT.out.mono ?_
        rintro e w16 ⟨rfl, hb16⟩
        have hs15 : b ≤ w15.heap.size := by have := hB15.out.size; have := hbe'.out; omega
        have hend : Hid (Below w.heap.size w w16) := by
          have h1 : Below b w8 w16 := hB15.out.trans (hb16.mono hs15)
          rw [hbe'.out] at h1
          exact hB8.out.trans (h1.mono hB8.out.size)
        clear KT hb16 hs15 hB15
        go_wp2
        go_ret
        exact ⟨rfl, hend.out⟩
end Go.Proofs.YtjimiabfgmchiaaDoor

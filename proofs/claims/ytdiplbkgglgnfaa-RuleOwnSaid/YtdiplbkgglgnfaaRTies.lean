/- allFit, bind, Ties: what they answer. -/
import Derived.Test.YtdiplbkgglgnfaaRMrg
import Derived.Test.YtdiplbkgglgnfaaRChk
namespace Go.Proofs.Ytdiplbkgglgnfaa
open Go.RowKit
theorem ris_nat2 {n lo : Int} {S : List Int} (h : ris n lo S = true) (h0 : 0 ≤ lo) : ∃ T : List Nat, S = ints T := by
  induction S generalizing lo with
  | nil => exact ⟨[], rfl⟩
  | cons a l ih =>
    simp [ris] at h
    obtain ⟨T, hT⟩ := ih h.2 (by omega)
    exact ⟨a.toNat :: T, by rw [hT]; simp [ints]; omega⟩
/-- Are all such as Check takes? -/
def rgt (n : Int) (R : List Rl) : Bool := decide (0 ≤ n) && decide (n ≤ 12) && R.all (chk n)
set_option maxRecDepth 100000 in
set_option maxHeartbeats 4000000 in
theorem allFitF (n : Int) (R : List Rl) (v : Value) (w : World) (hr : RowR w v R) (hR : R.length ≤ 1000) (hm : ∀ r ∈ R, r.steps.length ≤ 1000) :
    Calls Try.prog 18 #[.int .i64 n, v] w fun e w' => e = .returned (.bool (rgt n R)) ∧ Below w.heap.size w w' := by
  have K1 := hide' fun W => stepsFit n W
  have KC : Hid (∀ r sv W, r ∈ R → RowI w sv r.steps → Below w.heap.size w W → Calls Try.prog 25 #[.int .i64 n, rv r sv] W fun e w' => e = .returned (.int .i64 (erC (chk n r))) ∧ Below W.heap.size W w') := fun r sv W hr hs hW => checkF n r sv W (hs.below hW (Nat.le_refl _)) (by have := hm r hr; omega)
  obtain ⟨oa, cap, rfl, hcap, hc⟩ := hr
  have hc' := hide' hc
  clear hc hcap hm
  by_cases hn : 0 ≤ n ∧ n ≤ 12
  · have hs : (decide (0 ≤ n) && decide (n ≤ 12)) = true := by simp [hn]
    rw [hs] at K1
    have hRg : Hid (rgt n R = R.all (chk n)) := by show _ = _; unfold rgt; rw [hs]; rfl
    clear hs hn
    go_enter Try.func18, Try.ntmps18
    go_wp2_with (go_at_call 35; refine (K1.out _).mono ?_; rintro e w1 ⟨rfl, rfl⟩)
    clear K1
    go_loopw [6, 12] (fun _ k wr => ∃ (c : Nat), c ≤ R.length ∧ k = .int .i64 c ∧ Hid ((R.take c).all (chk n) = true) ∧ Hid (Below w1.heap.size w1 wr)) (fun _ k _ => ((R.length : Int) - intOf k).toNat)
    case atStart => exact ⟨0, Nat.zero_le _, rfl, by show _ = _; simp, Below.refl _ _⟩
    case round =>
      obtain ⟨c, hcl, rfl, hA, hB⟩ := hrel
      by_cases hlt : c < R.length
      · obtain ⟨r, hx⟩ : ∃ x, R[c]? = some x := ⟨_, List.getElem?_eq_getElem hlt⟩
        obtain ⟨g, o, sv, rfl, c1', c2', c3', hs⟩ := hc'.out c r hx
        have c1 := (hB.out.cell (p := ⟨g, o + c * 3, none⟩) (cell_lt c1')).trans c1'
        have c2 := (hB.out.cell (p := ⟨g, o + c * 3 + 1, none⟩) (cell_lt c2')).trans c2'
        have c3 := (hB.out.cell (p := ⟨g, o + c * 3 + 2, none⟩) (cell_lt c3')).trans c3'
        have hH := hide' (KC.out r sv (wr.alloc (.cells #[.int .i64 r.kind, .int .i64 r.k, sv] 40)) (List.mem_of_getElem? hx) hs (hB.out.alloc hB.out.size _))
        have hB1 : Hid (Below w1.heap.size w1 (wr.alloc (.cells #[.int .i64 r.kind, .int .i64 r.k, sv] 40))) := hB.out.alloc hB.out.size _
        have hN : Hid ((R.take (c + 1)).all (chk n) = chk n r) := by
          show _ = _
          rw [List.take_add_one, hx, show (some r).toList = [r] from rfl, List.all_append, hA.out]; simp
        have hF : Hid (chk n r = false → rgt n R = false) := fun h => by
          rw [hRg.out]
          rw [List.all_eq_false]
          exact ⟨r, List.mem_of_getElem? hx, by rw [h]; decide⟩
        obtain ⟨os, cs, rfl, _, _⟩ := hs
        unfold rv at hH
        clear KC hc' c1' c2' c3' hx hA hRg
        generalize r.steps.length = q at *
        generalize r.kind = kd at *
        generalize r.k = kk at *
        cases hh : chk n r with
        | true =>
          rw [hh] at hH hN
          have hH' : Hid (Calls Try.prog 25 #[.int .i64 n, .agg #[.int .i64 kd, .int .i64 kk, .slice os q cs]] (wr.alloc (.cells #[.int .i64 kd, .int .i64 kk, .slice os q cs] 40)) fun e w' => e = .returned (.int .i64 0) ∧ Below (wr.alloc (.cells #[.int .i64 kd, .int .i64 kk, .slice os q cs] 40)).heap.size (wr.alloc (.cells #[.int .i64 kd, .int .i64 kk, .slice os q cs] 40)) w') := hH
          clear hh hF hH
          go_wp2_with (go_at_call 25; refine hH'.out.mono ?_; rintro e w2 ⟨rfl, hb1⟩)
          exact ⟨⟨c + 1, by omega, by go_num, hN, hB1.out.trans (hb1.mono hB1.out.size)⟩, by simp [intOf]; omega⟩
        | false =>
          rw [hh] at hH
          have hH' : Hid (Calls Try.prog 25 #[.int .i64 n, .agg #[.int .i64 kd, .int .i64 kk, .slice os q cs]] (wr.alloc (.cells #[.int .i64 kd, .int .i64 kk, .slice os q cs] 40)) fun e w' => e = .returned (.int .i64 1) ∧ Below (wr.alloc (.cells #[.int .i64 kd, .int .i64 kk, .slice os q cs] 40)).heap.size (wr.alloc (.cells #[.int .i64 kd, .int .i64 kk, .slice os q cs] 40)) w') := hH
          have hF' := hide' (hF.out hh)
          clear hh hN hF hH
          go_wp2_with (go_at_call 25; refine hH'.out.mono ?_; rintro e w2 ⟨rfl, hb1⟩)
          go_ret
          exact ⟨ret_bool hF'.out.symm, hB1.out.trans (hb1.mono hB1.out.size)⟩
      · obtain rfl : c = R.length := by omega
        rw [List.take_length] at hA
        clear hc' KC
        go_wp2
        go_ret
        exact ⟨ret_bool (by rw [hRg.out, hA.out]), hB.out⟩
  · have hs : (decide (0 ≤ n) && decide (n ≤ 12)) = false := by simp; omega
    rw [hs] at K1
    have hRg : Hid (rgt n R = false) := by show _ = _; unfold rgt; rw [hs]; rfl
    clear hs hn hc' KC
    go_enter Try.func18, Try.ntmps18
    go_wp2_with (go_at_call 35; refine (K1.out _).mono ?_; rintro e w1 ⟨rfl, rfl⟩)
    go_ret
    exact ⟨ret_bool hRg.out.symm, Below.refl _ _⟩
/-- The steps put into one block, up to the c-th. -/
def bndC (l T : List Nat) : Nat → List Nat
  | 0 => l
  | c + 1 => mrg (bndC l T c) (T.getD 0 0) (T.getD c 0)
theorem bndC_len (l T : List Nat) (c : Nat) : (bndC l T c).length = l.length := by
  induction c with
  | zero => rfl
  | succ c ih => rw [bndC, mrg_len, ih]
theorem bndC_leg {l : List Nat} (T : List Nat) (h : Leg 0 l) (c : Nat) : Leg 0 (bndC l T c) := by
  cases c with
  | zero => exact h
  | succ c => exact mrg_leg _ _ _
set_option maxRecDepth 100000 in
set_option maxHeartbeats 2000000 in
theorem bindF (n : Nat) (l T : List Nat) (oa os : Option Addr) (cap cs : Nat) (w : World) (hr : RowI w (.slice oa n cap) (ints l)) (hs : RowI w (.slice os T.length cs) (ints T)) (hl : l.length = n) (hn : n ≤ 25) (hL : Leg 0 l) (hT : ∀ t ∈ T, t < n) (hTl : T.length ≤ 1000) :
    Calls Try.prog 20 #[.slice oa n cap, .slice os T.length cs] w fun e w' => ∃ o2 c2, e = .returned (.slice o2 n c2) ∧ Hid (RowI w' (.slice o2 n c2) (ints (bndC l T T.length))) ∧ Below w.heap.size w w' := by
  have hs' : Hid (∀ i t : Nat, T[i]? = some t → ∃ g o, os = some ⟨g, o, none⟩ ∧ w.cell? ⟨g, o + i, none⟩ = some (.int .i64 (t : Int))) := by
    obtain ⟨_, _, e, _, hc⟩ := hs
    rw [ints_len] at e
    cases e
    exact fun i t ht => hc i t (ints_at ht)
  have hr' := hide' hr
  have KM : Hid (∀ (W : World) (c : Nat) (o2 : Option Addr) (c2 t0 t : Nat), RowI W (.slice o2 n c2) (ints (bndC l T c)) → T[0]? = some t0 → T[c]? = some t → Calls Try.prog 38 #[.slice o2 n c2, .int .i64 (t0 : Int), .int .i64 (t : Int)] W fun e w' => ∃ g, e = .returned (.tuple #[.slice (some ⟨g, 0, none⟩) n n, .int .i64 0]) ∧ Hid (RowI w' (.slice (some ⟨g, 0, none⟩) n n) (ints (bndC l T (c + 1)))) ∧ Below W.heap.size W w') := fun W c o2 c2 t0 t h h0 h1 => by
    have := mergeP n (bndC l T c) o2 c2 t0 t W h (by rw [bndC_len, hl]) hn (bndC_leg T hL c) (hT t0 (List.mem_of_getElem? h0)) (hT t (List.mem_of_getElem? h1))
    rwa [show mrg (bndC l T c) t0 t = bndC l T (c + 1) by rw [bndC, List.getD_eq_getElem?_getD, List.getD_eq_getElem?_getD, h0, h1]; rfl] at this
  clear hr hs hT hl hL
  go_enter Try.func20, Try.ntmps20
  go_wp2
  go_loopw [0, 6, 9] (fun v _ k wr => ∃ (c : Nat) (o2 : Option Addr) (c2 : Nat), c ≤ T.length ∧ k = .int .i64 c ∧ v = .slice o2 n c2 ∧ Hid (RowI wr (.slice o2 n c2) (ints (bndC l T c))) ∧ Hid (Below w.heap.size w wr)) (fun _ _ k _ => ((T.length : Int) - intOf k).toNat)
  case atStart => exact ⟨0, oa, cap, Nat.zero_le _, rfl, rfl, hr', Below.refl _ _⟩
  case round =>
    clear hr'
    obtain ⟨c, o2, c2, hcl, rfl, rfl, hO, hB⟩ := hrel
    by_cases hlt : c < T.length
    · obtain ⟨t, ht⟩ : ∃ x, T[c]? = some x := ⟨_, List.getElem?_eq_getElem hlt⟩
      obtain ⟨t0, ht0⟩ : ∃ x, T[0]? = some x := ⟨_, List.getElem?_eq_getElem (by omega)⟩
      obtain ⟨g, o, rfl, c1'⟩ := hs'.out c t ht
      obtain ⟨_, _, e, c0'⟩ := hs'.out 0 t0 ht0
      cases e
      have c1 := (hB.out.cell (p := ⟨g, o + c, none⟩) (cell_lt c1')).trans c1'
      have c0 := (hB.out.cell (p := ⟨g, o + 0, none⟩) (cell_lt c0')).trans c0'
      rw [Nat.add_zero] at c0
      have hM := hide' (KM.out wr c o2 c2 t0 t hO.out ht0 ht)
      have h0l : 0 < T.length := by omega
      have h0l' : (0 : Int) < (T.length : Int) := by omega
      clear hs' KM ht ht0 c0' c1' hO
      go_wp2_with (go_at_call 38; refine hM.out.mono ?_; rintro e w2 ⟨g2, rfl, hr2, hb⟩)
      exact ⟨⟨c + 1, _, _, by omega, by go_num, rfl, hr2, hB.out.trans (hb.mono hB.out.size)⟩, by simp [intOf]; omega⟩
    · obtain rfl : c = T.length := by omega
      clear hs' KM
      go_wp2
      go_ret
      exact ⟨_, _, rfl, hO, hB.out⟩
set_option maxRecDepth 100000 in
set_option maxHeartbeats 2000000 in
theorem bindO (n : Nat) (l T : List Nat) (oa os : Option Addr) (cap cs : Nat) (B : Nat) (w : World) (hBw : B ≤ w.heap.size) (hr : w.ownsRow B 3 1 (.slice oa n cap) n (cellsI (ints l))) (hs : RowI w (.slice os T.length cs) (ints T)) (hl : l.length = n) (hn : n ≤ 25) (hL : Leg 0 l) (hT : ∀ t ∈ T, t < n) (hTl : T.length ≤ 1000) :
    Calls Try.prog 20 #[.slice oa n cap, .slice os T.length cs] w fun e w' => ∃ o2 c2, e = .returned (.slice o2 n c2) ∧ Hid (w'.ownsRow B 3 1 (.slice o2 n c2) n (cellsI (ints (bndC l T T.length)))) ∧ Below w.heap.size w w' := by
  have hs' : Hid (∀ i t : Nat, T[i]? = some t → ∃ g o, os = some ⟨g, o, none⟩ ∧ w.cell? ⟨g, o + i, none⟩ = some (.int .i64 (t : Int))) := by
    obtain ⟨_, _, e, _, hc⟩ := hs
    rw [ints_len] at e
    cases e
    exact fun i t ht => hc i t (ints_at ht)
  have hr' := hide' hr
  have KM : Hid (∀ (W : World) (c : Nat) (o2 : Option Addr) (c2 t0 t : Nat), B ≤ W.heap.size → W.ownsRow B 3 1 (.slice o2 n c2) n (cellsI (ints (bndC l T c))) → T[0]? = some t0 → T[c]? = some t → Calls Try.prog 38 #[.slice o2 n c2, .int .i64 (t0 : Int), .int .i64 (t : Int)] W fun e w' => ∃ g, e = .returned (.tuple #[.slice (some ⟨g, 0, none⟩) n n, .int .i64 0]) ∧ Hid (w'.ownsRow B 3 1 (.slice (some ⟨g, 0, none⟩) n n) n (cellsI (ints (bndC l T (c + 1))))) ∧ Below W.heap.size W w') := fun W c o2 c2 t0 t hW h h0 h1 => by
    have := mergeO n (bndC l T c) o2 c2 t0 t W (rowI_own h) (by rw [bndC_len, hl]) hn (bndC_leg T hL c) (hT t0 (List.mem_of_getElem? h0)) (hT t (List.mem_of_getElem? h1))
    rw [show mrg (bndC l T c) t0 t = bndC l T (c + 1) by rw [bndC, List.getD_eq_getElem?_getD, List.getD_eq_getElem?_getD, h0, h1]; rfl] at this
    exact this.mono fun _ _ ⟨g, e1, e2, e3⟩ => ⟨g, e1, own_downM e2.out hW, e3⟩
  clear hr hs hT hl hL
  go_enter Try.func20, Try.ntmps20
  go_wp2
  go_loopw [0, 6, 9] (fun v _ k wr => ∃ (c : Nat) (o2 : Option Addr) (c2 : Nat), c ≤ T.length ∧ k = .int .i64 c ∧ v = .slice o2 n c2 ∧ Hid (wr.ownsRow B 3 1 (.slice o2 n c2) n (cellsI (ints (bndC l T c)))) ∧ Hid (Below w.heap.size w wr)) (fun _ _ k _ => ((T.length : Int) - intOf k).toNat)
  case atStart => exact ⟨0, oa, cap, Nat.zero_le _, rfl, rfl, hr', Below.refl _ _⟩
  case round =>
    clear hr'
    obtain ⟨c, o2, c2, hcl, rfl, rfl, hO, hB⟩ := hrel
    by_cases hlt : c < T.length
    · obtain ⟨t, ht⟩ : ∃ x, T[c]? = some x := ⟨_, List.getElem?_eq_getElem hlt⟩
      obtain ⟨t0, ht0⟩ : ∃ x, T[0]? = some x := ⟨_, List.getElem?_eq_getElem (by omega)⟩
      obtain ⟨g, o, rfl, c1'⟩ := hs'.out c t ht
      obtain ⟨_, _, e, c0'⟩ := hs'.out 0 t0 ht0
      cases e
      have c1 := (hB.out.cell (p := ⟨g, o + c, none⟩) (cell_lt c1')).trans c1'
      have c0 := (hB.out.cell (p := ⟨g, o + 0, none⟩) (cell_lt c0')).trans c0'
      rw [Nat.add_zero] at c0
      have hM := hide' (KM.out wr c o2 c2 t0 t (Nat.le_trans hBw hB.out.size) hO.out ht0 ht)
      have h0l : 0 < T.length := by omega
      have h0l' : (0 : Int) < (T.length : Int) := by omega
      clear hs' KM ht ht0 c0' c1' hO
      go_wp2_with (go_at_call 38; refine hM.out.mono ?_; rintro e w2 ⟨g2, rfl, hr2, hb⟩)
      exact ⟨⟨c + 1, _, _, by omega, by go_num, rfl, hr2, hB.out.trans (hb.mono hB.out.size)⟩, by simp [intOf]; omega⟩
    · obtain rfl : c = T.length := by omega
      clear hs' KM
      go_wp2
      go_ret
      exact ⟨_, _, rfl, hO, hB.out⟩
/-- The steps that the first c rules bind together. -/
def tieC (n : Nat) (R : List Rl) : Nat → List Nat
  | 0 => List.range n
  | c + 1 => match R[c]? with
    | some r => if r.kind = 2 then bndC (tieC n R c) (r.steps.map Int.toNat) r.steps.length else tieC n R c
    | none => tieC n R c
theorem tieC_some {n : Nat} {R : List Rl} {c : Nat} {r : Rl} (h : R[c]? = some r) : tieC n R (c + 1) = if r.kind = 2 then bndC (tieC n R c) (r.steps.map Int.toNat) r.steps.length else tieC n R c := by rw [tieC, h]
theorem tieC_len (n : Nat) (R : List Rl) (c : Nat) : (tieC n R c).length = n := by
  induction c with
  | zero => simp [tieC]
  | succ c ih =>
    cases h : R[c]? with
    | none => rw [tieC, h]; exact ih
    | some r =>
      rw [tieC_some h]
      split
      · rw [bndC_len, ih]
      · exact ih
theorem tieC_leg (n : Nat) (R : List Rl) (c : Nat) : Leg 0 (tieC n R c) := by
  induction c with
  | zero => exact range_leg n
  | succ c ih =>
    cases h : R[c]? with
    | none => rw [tieC, h]; exact ih
    | some r =>
      rw [tieC_some h]
      split
      · exact bndC_leg _ ih _
      · exact ih
/-- The pattern of the steps that Same rules bind together. -/
def tie (n : Nat) (R : List Rl) : List Nat := tieC n R R.length
theorem rgt_nat {n : Int} {R : List Rl} (h : rgt n R = true) : ∃ m : Nat, n = (m : Int) ∧ m ≤ 12 ∧ ∀ r ∈ R, chk n r = true := by
  unfold rgt at h
  simp only [Bool.and_eq_true, decide_eq_true_iff, List.all_eq_true] at h
  exact ⟨n.toNat, by omega, by omega, h.2⟩
theorem ints_toNat (T : List Nat) : (ints T).map Int.toNat = T := by
  induction T with
  | nil => rfl
  | cons a l ih => rw [show ints (a :: l) = (a : Int) :: ints l from rfl, List.map_cons, ih, Int.toNat_natCast]
theorem chk_nat {n : Nat} {r : Rl} (h : chk (n : Int) r = true) : ∃ T : List Nat, r.steps = ints T ∧ r.steps.map Int.toNat = T ∧ (∀ t ∈ T, t < n) ∧ T.length ≤ n ∧ T.length = r.steps.length := by
  have hris : ris n 0 r.steps = true := by simp [chk] at h; exact h.1.2
  obtain ⟨T, hT⟩ := ris_nat2 hris (Int.le_refl _)
  have hl := ris_len hris (by omega)
  refine ⟨T, hT, by rw [hT, ints_toNat], fun t ht => ?_, ?_, by rw [hT, ints_len]⟩
  · have := (ris_mem hris (t : Int) (by rw [hT]; unfold ints; exact List.mem_map.2 ⟨t, ht, rfl⟩)).2
    omega
  · rw [hT, ints_len] at hl; omega
set_option maxRecDepth 100000 in
set_option maxHeartbeats 4000000 in
theorem tiesO (n : Int) (R : List Rl) (v : Value) (w : World) (hr : RowR w v R) (hR : R.length ≤ 1000) (hm : ∀ r ∈ R, r.steps.length ≤ 1000) (m : Nat) (hnm : n = (m : Int)) (hg : rgt n R = true) :
    Calls Try.prog 9 #[.int .i64 n, v] w fun e w' => ∃ o2 c2, e = .returned (.tuple #[.slice o2 m c2, .int .i64 0]) ∧ Hid (w'.ownsRow w.heap.size 3 1 (.slice o2 m c2) m (cellsI (ints (tie m R)))) ∧ Below w.heap.size w w' := by
  subst hnm
  have KA : Hid (∀ W, Below w.heap.size w W → Calls Try.prog 18 #[.int .i64 (m : Int), v] W fun e w' => e = .returned (.bool true) ∧ Below W.heap.size W w') := fun W hW => by
    have := allFitF m R v W (hr.below hW (Nat.le_refl _)) hR hm
    rwa [hg] at this
  obtain ⟨m', hm', hm12, hck⟩ := rgt_nat hg
  have : m' = m := by omega
  subst this
  have KL := hide' fun W => lastO m' W (by omega)
  have KB : Hid (∀ W c r o2 c2 os cs, R[c]? = some r → r.kind = 2 → w.heap.size ≤ W.heap.size → W.ownsRow w.heap.size 3 1 (.slice o2 m' c2) m' (cellsI (ints (tieC m' R c))) → RowI W (.slice os r.steps.length cs) r.steps → Calls Try.prog 20 #[.slice o2 m' c2, .slice os r.steps.length cs] W fun e w' => ∃ o3 c3, e = .returned (.slice o3 m' c3) ∧ Hid (w'.ownsRow w.heap.size 3 1 (.slice o3 m' c3) m' (cellsI (ints (tieC m' R (c + 1))))) ∧ Below W.heap.size W w') := fun W c r o2 c2 os cs hx hk hW h1 h2 => by
    obtain ⟨T, hT, hT2, hTlt, hTn, hTl⟩ := chk_nat (hck r (List.mem_of_getElem? hx))
    rw [tieC_some hx, if_pos hk, hT2, ← hTl]
    rw [← hTl, hT] at h2
    exact bindO m' (tieC m' R c) T o2 os c2 cs w.heap.size W hW h1 h2 (tieC_len m' R c) (by omega) (tieC_leg m' R c) hTlt (by omega)
  have hTk : Hid (∀ c r, R[c]? = some r → ¬ r.kind = 2 → tieC m' R (c + 1) = tieC m' R c) := fun c r hx hk => by rw [tieC_some hx, if_neg hk]
  obtain ⟨oa, cap, rfl, hcap, hc⟩ := hr
  have hc' := hide' hc
  clear hc hcap hm hg hck
  go_enter Try.func9, Try.ntmps9
  go_wp2_with (first | (go_at_call 18; refine (KA.out _ (Below.refl _ _)).mono ?_; rintro e w1 ⟨rfl, hb1⟩) | (go_at_call 19; refine (KL.out _).mono ?_; rintro e w2 ⟨g0, rfl, hr2', hb2⟩; have hr2 := hide' (own_downM hr2'.out hb1.size); clear hr2'))
  have hB2 : Hid (Below w.heap.size w w2) := hb1.trans (hb2.mono hb1.size)
  clear KA KL hb1 hb2
  go_loopw [6, 9, 21] (fun v _ k wr => ∃ (c : Nat) (o2 : Option Addr) (c2 : Nat), c ≤ R.length ∧ k = .int .i64 c ∧ v = .slice o2 m' c2 ∧ Hid (wr.ownsRow w.heap.size 3 1 (.slice o2 m' c2) m' (cellsI (ints (tieC m' R c)))) ∧ Hid (Below w.heap.size w wr)) (fun _ _ k _ => ((R.length : Int) - intOf k).toNat)
  case atStart => exact ⟨0, _, _, Nat.zero_le _, rfl, rfl, hr2, hB2⟩
  case round =>
    clear hr2 hB2
    obtain ⟨c, o2, c2, hcl, rfl, rfl, hO, hB⟩ := hrel
    by_cases hlt : c < R.length
    · obtain ⟨r, hx⟩ : ∃ x, R[c]? = some x := ⟨_, List.getElem?_eq_getElem hlt⟩
      obtain ⟨g, o, sv, rfl, c1', c2', c3', hs⟩ := hc'.out c r hx
      have c1 := (hB.out.cell (p := ⟨g, o + c * 3, none⟩) (cell_lt c1')).trans c1'
      have c2 := (hB.out.cell (p := ⟨g, o + c * 3 + 1, none⟩) (cell_lt c2')).trans c2'
      have c3 := (hB.out.cell (p := ⟨g, o + c * 3 + 2, none⟩) (cell_lt c3')).trans c3'
      have hA : Below wr.heap.size wr (wr.alloc (.cells #[.int .i64 r.kind, .int .i64 r.k, sv] 40)) := (Below.refl _ wr).alloc (Nat.le_refl _) _
      have hsW := (hs.below hB.out (Nat.le_refl _)).below hA (Nat.le_refl _)
      have hOW := own_below hO.out hA (Nat.le_refl _)
      obtain ⟨os, cs, rfl, _, _⟩ := hs
      have hB1 : Hid (Below w.heap.size w (wr.alloc (.cells #[.int .i64 r.kind, .int .i64 r.k, .slice os r.steps.length cs] 40))) := hB.out.trans (hA.mono hB.out.size)
      by_cases hk : r.kind = 2
      · have hM := hide' (KB.out _ c r o2 _ os cs hx hk hB1.out.size hOW hsW)
        rw [hk] at hM hB1 c1
        clear KB hTk hc' c1' c2' c3' hsW hOW hx hA hO hk
        generalize r.steps.length = q at *
        generalize r.k = kk at *
        go_wp2_with (go_at_call 20; refine hM.out.mono ?_; rintro e w3 ⟨o3, c3', rfl, hr3, hb⟩)
        exact ⟨⟨c + 1, _, _, by omega, by go_num, rfl, hr3, hB1.out.trans (hb.mono hB1.out.size)⟩, by simp [intOf]; omega⟩
      · have hkb : (r.kind == 2) = false := by simpa using hk
        have hT := hide' (hTk.out c r hx hk)
        have hOW' := hide' hOW
        clear KB hTk hc' c1' c2' c3' hsW hOW hx hA hO hk
        generalize r.steps.length = q at *
        generalize r.k = kk at *
        generalize r.kind = kd at *
        go_wp2
        exact ⟨⟨c + 1, _, _, by omega, by go_num, rfl, by rw [hT.out]; exact hOW', hB1⟩, by simp [intOf]; omega⟩
    · obtain rfl : c = R.length := by omega
      clear hc' KB hTk
      go_wp2
      refine bodyPost_ret (v := .tuple #[.slice o2 m' c2, .int .i64 0]) (by simp [results, Try.results9, go_sem]) rfl ?_
      exact ⟨_, _, rfl, hO, hB.out⟩
theorem tiesF (n : Int) (R : List Rl) (v : Value) (w : World) (hr : RowR w v R) (hR : R.length ≤ 1000) (hm : ∀ r ∈ R, r.steps.length ≤ 1000) (m : Nat) (hnm : n = (m : Int)) (hg : rgt n R = true) :
    Calls Try.prog 9 #[.int .i64 n, v] w fun e w' => ∃ o2 c2, e = .returned (.tuple #[.slice o2 m c2, .int .i64 0]) ∧ Hid (RowI w' (.slice o2 m c2) (ints (tie m R))) ∧ Below w.heap.size w w' :=
  (tiesO n R v w hr hR hm m hnm hg).mono fun _ _ ⟨o2, c2, h1, h2, h3⟩ => ⟨o2, c2, h1, rowI_own h2.out, h3⟩
set_option maxRecDepth 100000 in
set_option maxHeartbeats 2000000 in
theorem tiesN (n : Int) (R : List Rl) (v : Value) (w : World) (hr : RowR w v R) (hR : R.length ≤ 1000) (hm : ∀ r ∈ R, r.steps.length ≤ 1000) (hg : rgt n R = false) :
    Calls Try.prog 9 #[.int .i64 n, v] w fun e w' => e = .returned (.tuple #[.slice none 0 0, .int .i64 1]) ∧ Below w.heap.size w w' := by
  have KA : Hid (Calls Try.prog 18 #[.int .i64 n, v] w fun e w' => e = .returned (.bool false) ∧ Below w.heap.size w w') := by
    have := allFitF n R v w hr hR hm
    rwa [hg] at this
  obtain ⟨oa, cap, rfl⟩ : ∃ oa cap, v = .slice oa R.length cap := by
    obtain ⟨oa, cap, e, _⟩ := hr
    exact ⟨oa, cap, e⟩
  clear hr hm hg
  go_enter Try.func9, Try.ntmps9
  go_wp2_with (go_at_call 18; refine KA.out.mono ?_; rintro e w1 ⟨rfl, hb1⟩)
  refine bodyPost_ret (v := .tuple #[.slice none 0 0, .int .i64 1]) (by simp [results, Try.results9, go_sem]) rfl ?_
  exact ⟨rfl, hb1⟩
end Go.Proofs.Ytdiplbkgglgnfaa

/- Whoever goes on finishes a run: a round of the law's, plainly. -/
import Derived.Test.YtgbpakkeebehlaaDoorJ07
import Derived.Test.YtgbpakkeebehlaaDoorJ28
import Derived.Test.YtgbpakkeebehlaaDoorJ29
import Derived.Test.YtgbpakkeebehlaaDoorJ31
namespace Go.Proofs.YtgbpakkeebehlaaDoor
open Go.RowKit
theorem cut_idem (F : Fw) : cutFw (cutFw F) = cutFw F := by
  unfold cutFw
  have e1 : (((F.steps.take 30).map cutS).take 30).map cutS = (F.steps.take 30).map cutS := by
    rw [List.take_of_length_le (by rw [List.length_map, List.length_take]; omega), List.map_map]
    refine List.map_congr_left fun s _ => ?_
    simp [cutS, List.take_take]
  have e2 : (((F.rules.take 60).map cutR).take 60).map cutR = (F.rules.take 60).map cutR := by
    rw [List.take_of_length_le (by rw [List.length_map, List.length_take]; omega), List.map_map]
    refine List.map_congr_left fun s _ => ?_
    simp [cutR, List.take_take]
  rw [e1, e2]
/-- What is asked of a flow's texts. -/
structure FlN (F : Fw) : Prop where
  nm : F.name.size ≤ 9223372036854775807
  st : ∀ s ∈ F.steps, s.name.size ≤ 9223372036854775807 ∧ s.duty.size ≤ 9223372036854775807
theorem flb_cut {F : Fw} (h : FlN F) : FlB (cutFw F) where
  nm := h.nm
  sl := by simp [cutFw]; omega
  st := fun s hs => by
    obtain ⟨q, hq, rfl⟩ := List.mem_map.1 hs
    have := h.st q (List.mem_of_mem_take hq)
    exact ⟨by simp [cutS]; omega, this.1, this.2⟩
  rl := by simp [cutFw]; omega
  ru := fun r hr => by
    obtain ⟨q, hq, rfl⟩ := List.mem_map.1 hr
    simp [cutR]; omega
/-- A flow that lies in memory of its own, as a value. -/
structure FlO (w W : World) (F : Fw) (o1 : Option Addr) (c1 : Nat) (o2 : Option Addr) (c2 : Nat) (P1 : List (Sp × Value)) (P2 : List (Rl × Value)) : Prop where
  m1 : P1.map Prod.fst = F.steps
  m2 : P2.map Prod.fst = F.rules
  t1 : TwP w.heap.size W (.slice o1 F.steps.length c1) P1
  t2 : TwS w.heap.size W (.slice o2 F.rules.length c2) P2
theorem FlO.fl {w W : World} {F : Fw} {o1 : Option Addr} {c1 : Nat} {o2 : Option Addr} {c2 : Nat} {P1 : List (Sp × Value)} {P2 : List (Rl × Value)} (h : FlO w W F o1 c1 o2 c2 P1 P2) : flV W (.agg #[.string F.name, .slice o1 F.steps.length c1, .slice o2 F.rules.length c2]) F := by
  have r1 := h.t1.rowS
  have r2 := h.t2.rowR
  rw [h.m1] at r1
  rw [h.m2] at r2
  exact ⟨_, _, rfl, r1, r2⟩
theorem FlO.over {w W W' : World} {F : Fw} {o1 : Option Addr} {c1 : Nat} {o2 : Option Addr} {c2 : Nat} {P1 : List (Sp × Value)} {P2 : List (Rl × Value)} (h : FlO w W F o1 c1 o2 c2 P1 P2) (hb : Below W.heap.size W W') : FlO w W' F o1 c1 o2 c2 P1 P2 := ⟨h.m1, h.m2, h.t1.over hb, h.t2.over hb⟩
theorem CopR.open {w w' : World} {F : Fw} {e : Ending} (h : CopR w F e w') : ∃ o1 c1 o2 c2 P1 P2, e = .returned (.agg #[.string F.name, .slice o1 F.steps.length c1, .slice o2 F.rules.length c2]) ∧ FlO w w' F o1 c1 o2 c2 P1 P2 ∧ Below w.heap.size w w' := by
  obtain ⟨sv, rv, P1, P2, rfl, m1, m2, t1, t2, hb⟩ := h
  obtain ⟨o1, c1, rfl⟩ := own_shp t1.row
  obtain ⟨o2, c2, rfl⟩ := own_shp t2.row
  have e1 : P1.length = F.steps.length := by rw [← m1, List.length_map]
  have e2 : P2.length = F.rules.length := by rw [← m2, List.length_map]
  rw [e1] at t1
  rw [e2] at t2
  exact ⟨o1, c1, o2, c2, P1, P2, by rw [e1, e2], ⟨m1, m2, t1, t2⟩, hb⟩
/-- A row of calls, wherever it lies. -/
def RowQ (w : World) (v : Value) (L : List Oq) : Prop := ∃ oa cap, v = .slice oa L.length cap ∧ (L.length ≤ cap ∧ (oa = none → cap = 0)) ∧ ∀ i o, L[i]? = some o → ∃ g f, oa = some ⟨g, f, none⟩ ∧ w.cell? ⟨g, f + i * 6, none⟩ = some (.int .i64 o.on) ∧ w.cell? ⟨g, f + i * 6 + 1, none⟩ = some (.int .i64 o.op) ∧ w.cell? ⟨g, f + i * 6 + 2, none⟩ = some (.int .i64 o.step) ∧ w.cell? ⟨g, f + i * 6 + 3, none⟩ = some (.int .i64 o.user) ∧ w.cell? ⟨g, f + i * 6 + 4, none⟩ = some (.int .i64 o.tick) ∧ w.cell? ⟨g, f + i * 6 + 5, none⟩ = some (.bool o.stuck)
theorem take_nextQ (ab : Bool) (Pf : Nat → Nat) (R : Rs) {L : List Oq} {c : Nat} {o : Oq} (h : L[c]? = some o) : plyL ab Pf R (L.take (c + 1)) = plyR ab Pf (plyL ab Pf R (L.take c)) o := by
  rw [List.take_add_one, h]
  exact plyL_snoc ab Pf R (L.take c) o
theorem plyR_log (ab : Bool) (Pf : Nat → Nat) (R : Rs) (o : Oq) : (plyR ab Pf R o).log.length ≤ R.log.length + 2 := by
  unfold plyR
  split
  · exact clmR_log _ _ _ _ _
  · split
    · exact donR_log _ _ _ _
    · split
      · exact aboR_log _ _
      · split
        · exact mrkR_log _ _ _
        · omega
/-- What stands while a run is played: its flow's number of steps is small. -/
structure PlS (n : Nat) (R : Rs) (c : Nat) : Prop where
  ok : RsOk n R
  st : R.stat ≠ 4
  lg : R.log.length ≤ 1 + 2 * c
theorem PlS.next {n : Nat} {R : Rs} {c : Nat} (h : PlS n R c) (Pf : Nat → Nat) (o : Oq) : PlS n (plyR false Pf R o) (c + 1) := ⟨plyR_ok _ _ h.ok o, plyR_4 Pf h.st o, by have := plyR_log false Pf R o; have := h.lg; omega⟩
theorem PlS.start {n : Nat} (hn : n ≠ 0) (tick : Int) : PlS n (newR n tick) 0 := ⟨newR_ok n hn tick, by simp [newR], by simp [newR]⟩
theorem ply1 {ab : Bool} {Pf : Nat → Nat} {R : Rs} {o : Oq} (h : o.op = 1) : plyR ab Pf R o = clmR Pf R o.step o.user o.tick := by unfold plyR; rw [if_pos h]
theorem ply2 {ab : Bool} {Pf : Nat → Nat} {R : Rs} {o : Oq} (h : o.op = 2) : plyR ab Pf R o = donR R o.step o.user o.tick := by unfold plyR; rw [if_neg (by rw [h]; decide), if_pos h]
theorem ply3 {Pf : Nat → Nat} {R : Rs} {o : Oq} (h : o.op = 3) : plyR true Pf R o = aboR R o.tick := by unfold plyR; rw [if_neg (by rw [h]; decide), if_neg (by rw [h]; decide), if_pos ⟨h, rfl⟩]
theorem ply4 {ab : Bool} {Pf : Nat → Nat} {R : Rs} {o : Oq} (h : o.op = 4) : plyR ab Pf R o = mrkR R o.stuck o.tick := by unfold plyR; rw [if_neg (by rw [h]; decide), if_neg (by rw [h]; decide), if_neg (fun e => by rw [h] at e; exact absurd e.1 (by decide)), if_pos h]
theorem ply0 {ab : Bool} {Pf : Nat → Nat} {R : Rs} {o : Oq} (h1 : o.op ≠ 1) (h2 : o.op ≠ 2) (h3 : ab = true → o.op ≠ 3) (h4 : o.op ≠ 4) : plyR ab Pf R o = R := by unfold plyR; rw [if_neg h1, if_neg h2, if_neg (fun e => h3 e.2 e.1), if_neg h4]
end Go.Proofs.YtgbpakkeebehlaaDoor
namespace Go.Proofs.YtgbpakkeebehlaaDoor
open Go.RowKit
/-- What stands ahead of the k-th turn. -/
structure GoE (n : Nat) (R : Rs) (k : Nat) : Prop where
  ok : RsOk n R
  st : R.stat ≠ 4
  ab : lefA R.S + lefB R.S + k ≤ 24
  lg : R.log.length ≤ 401 + 2 * k
theorem GoE.en {n : Nat} {R : Rs} {k : Nat} (h : GoE n R k) (h3 : R.stat ≠ 3) : endd R = false := by
  unfold endd
  have := h.st
  simp [h3, this]
/-- Can a turn be made with this step? -/
def mvS (n : Nat) (Pf : Nat → Nat) (R : Rs) (i : Nat) : Prop := (∃ s, R.S[i]? = some s ∧ s.st = 1) ∨ (rdyR n Pf R).testBit i = true
theorem donR_4 {R : Rs} (h : R.stat ≠ 4) (step user tick : Int) : (donR R step user tick).stat ≠ 4 := by
  unfold donR; split
  · exact hapD_4 h _ _ _
  · exact h
theorem clmR_4 {R : Rs} (Pf : Nat → Nat) (h : R.stat ≠ 4) (step user tick : Int) : (clmR Pf R step user tick).stat ≠ 4 := by
  unfold clmR; split
  · exact h
  · exact h
theorem GoE.done {n : Nat} {R : Rs} {k : Nat} (h : GoE n R k) (h3 : R.stat ≠ 3) {i : Nat} {s : SS} (hs : R.S[i]? = some s) (h1 : s.st = 1) :
    canD R (i : Int) s.us = 0 ∧ GoE n (donR R (i : Int) s.us 9) (k + 1) ∧ lefA (donR R (i : Int) s.us 9).S = lefA R.S ∧ lefB (donR R (i : Int) s.us 9).S + 1 = lefB R.S := by
  obtain ⟨a, b, c⟩ := dn_ok h.ok (h.en h3) hs h1
  have := h.ab
  have := h.lg
  have := donR_log R (i : Int) s.us 9
  exact ⟨a, ⟨donR_ok h.ok _ _ _, donR_4 h.st _ _ _, by omega, by omega⟩, b, c⟩
theorem GoE.claim {n : Nat} {Rel : Nat → Nat → Bool} {Pf Sf : Nat → Nat} {R : Rs} {k : Nat} (h : GoE n R k) (hO : O.Ord n Rel Pf Sf) (h3 : R.stat ≠ 3) {i : Nat} (hi : i < n) (hb : (rdyR n Pf R).testBit i = true) (u : Int) :
    canC Pf R (i : Int) = 0 ∧ GoE n (clmR Pf R (i : Int) u 9) (k + 1) ∧ lefA (clmR Pf R (i : Int) u 9).S + 1 = lefA R.S ∧ lefB (clmR Pf R (i : Int) u 9).S = lefB R.S := by
  obtain ⟨a, b, c⟩ := cl_ok hO h.ok (h.en h3) hi hb u
  have := h.ab
  have := h.lg
  have := clmR_log Pf R (i : Int) u 9
  exact ⟨a, ⟨clmR_ok Pf h.ok _ _ _, clmR_4 Pf h.st _ _ _, by omega, by omega⟩, b, c⟩
theorem GoE.moves {n : Nat} {Rel : Nat → Nat → Bool} {Pf Sf : Nat → Nat} {R : Rs} {k : Nat} (h : GoE n R k) (hO : O.Ord n Rel Pf Sf) (h3 : R.stat ≠ 3) {a : Nat} (ha : a < n) (hno : ∀ c, c < n → ¬ mvS n Pf R ((a + c) % n)) : False := by
  obtain ⟨i, s, hi, hs, hm⟩ := some_move hO h.ok (h.en h3)
  have e : (a + (i + n - a) % n) % n = i := by
    rw [Nat.add_mod_mod, show a + (i + n - a) = i + n by omega, Nat.add_mod_right, Nat.mod_eq_of_lt hi]
  have := hno ((i + n - a) % n) (Nat.mod_lt _ (by omega))
  rw [e] at this
  exact this (hm.elim (fun e => .inl ⟨s, hs, e⟩) .inr)
theorem GoE.out {n : Nat} {R : Rs} {k : Nat} (h : GoE n R k) (he : k = 24 ∨ R.stat = 3) : R.stat = 3 ∧ lefA R.S = 0 ∧ lefB R.S = 0 := by
  have h0 : lefB R.S = 0 := by
    rcases he with e | e
    · have := h.ab; omega
    · exact h.ok.fin.1 e
  have := lefA_leB R.S
  exact ⟨h.ok.fin.2 h0, by omega, h0⟩
theorem turn_n (a : Int) {n : Nat} (h1 : n ≠ 0) (hl : n ≤ 12) : ∃ k : Nat, (wrap64 (a.tmod (n : Int) + (n : Int))).tmod (n : Int) = (k : Int) ∧ k < n := by
  have h1 := Int.tmod_lt_of_pos a (show (0 : Int) < (n : Int) by omega)
  have h2 := Int.lt_tmod_of_pos a (show (0 : Int) < (n : Int) by omega)
  generalize a.tmod (n : Int) = x at *
  rw [show wrap64 (x + (n : Int)) = x + (n : Int) by unfold wrap64; omega, Int.tmod_eq_emod_of_nonneg (by omega)]
  have h3 := Int.emod_nonneg (x + (n : Int)) (show (n : Int) ≠ 0 by omega)
  have h4 := Int.emod_lt_of_pos (x + (n : Int)) (show (0 : Int) < (n : Int) by omega)
  exact ⟨((x + (n : Int)) % (n : Int)).toNat, by omega, by omega⟩
theorem turn_s {a c n : Nat} (ha : a < n) (hc : c < n) (hl : n ≤ 12) : (wrap64 ((a : Int) + (c : Int))).tmod (n : Int) = (((a + c) % n : Nat) : Int) := by
  rw [show wrap64 ((a : Int) + (c : Int)) = (a : Int) + (c : Int) by unfold wrap64; omega, Int.tmod_eq_emod_of_nonneg (by omega), ← Int.natCast_add, ← Int.natCast_emod]
theorem turn_s' (a c n : Nat) : ((a : Int) + (c : Int)) % (n : Int) = (((a + c) % n : Nat) : Int) := by
  rw [← Int.natCast_add, ← Int.natCast_emod]
theorem sta_at {R : Rs} {i : Nat} {s : SS} (h : R.S[i]? = some s) : staT R (i : Int) = .agg #[.int .i64 s.st, .int .i64 s.us, .int .i64 s.ca, .int .i64 s.da] := by
  have hi := (List.getElem?_eq_some_iff.1 h).1
  have hh : hasS R (i : Int) = true := by unfold hasS; simp [hi]
  unfold staT
  rw [if_pos hh]
  unfold sAt
  rw [Int.toNat_natCast, h]
  rfl
theorem rdyR_lt {n : Nat} {Rel : Nat → Nat → Bool} {Pf Sf : Nat → Nat} {R : Rs} (_hO : O.Ord n Rel Pf Sf) (hl : R.S.length ≤ 64) : rdyR n Pf R < 18446744073709551616 := by
  unfold rdyR
  split
  · decide
  · exact Nat.lt_of_le_of_lt Nat.and_le_right (thz_lt R.S 0 hl)
end Go.Proofs.YtgbpakkeebehlaaDoor

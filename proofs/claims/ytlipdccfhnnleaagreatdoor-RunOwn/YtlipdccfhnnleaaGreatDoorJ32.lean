/- What the laws of runs begin with: the twins, the run, the calls' rows. -/
import Derived.Test.YtlipdccfhnnleaaGreatDoorJ07
import Derived.Test.YtlipdccfhnnleaaGreatDoorJ28
import Derived.Test.YtlipdccfhnnleaaGreatDoorJ29
import Derived.Test.YtlipdccfhnnleaaGreatDoorJ31
namespace Go.Proofs.YtlipdccfhnnleaaGreatDoor
open Go.RowKit
theorem cut_idem (F : Fw) : cutFw (cutFw F) = cutFw F := by
  unfold cutFw
  have e1 : (((F.steps.take 30).map cutS).take 30).map cutS = (F.steps.take 30).map cutS := by
    rw [List.take_of_length_le (by rw [List.length_map, List.length_take]; omega), List.map_map]
    refine List.map_congr_left fun s _ => ?_
    simp [cutS, List.take_take]
  have e2 : (((F.rules.take 60).map cutR).take 60).map cutR = (F.rules.take 60).map cutR := by
    rw [List.take_of_length_le (by rw [List.length_map, List.length_take]; omega), List.map_map]
    refine List.map_congr_left fun s _ => ?_
    simp [cutR, List.take_take]
  rw [e1, e2]
/-- What is asked of a flow's texts. -/
structure FlN (F : Fw) : Prop where
  nm : F.name.size ≤ 9223372036854775807
  st : ∀ s ∈ F.steps, s.name.size ≤ 9223372036854775807 ∧ s.duty.size ≤ 9223372036854775807
theorem flb_cut {F : Fw} (h : FlN F) : FlB (cutFw F) where
  nm := h.nm
  sl := by simp [cutFw]; omega
  st := fun s hs => by
    obtain ⟨q, hq, rfl⟩ := List.mem_map.1 hs
    have := h.st q (List.mem_of_mem_take hq)
    exact ⟨by simp [cutS]; omega, this.1, this.2⟩
  rl := by simp [cutFw]; omega
  ru := fun r hr => by
    obtain ⟨q, hq, rfl⟩ := List.mem_map.1 hr
    simp [cutR]; omega
/-- A flow that lies in memory of its own, as a value. -/
structure FlO (w W : World) (F : Fw) (o1 : Option Addr) (c1 : Nat) (o2 : Option Addr) (c2 : Nat) (P1 : List (Sp × Value)) (P2 : List (Rl × Value)) : Prop where
  m1 : P1.map Prod.fst = F.steps
  m2 : P2.map Prod.fst = F.rules
  t1 : TwP w.heap.size W (.slice o1 F.steps.length c1) P1
  t2 : TwS w.heap.size W (.slice o2 F.rules.length c2) P2
theorem FlO.fl {w W : World} {F : Fw} {o1 : Option Addr} {c1 : Nat} {o2 : Option Addr} {c2 : Nat} {P1 : List (Sp × Value)} {P2 : List (Rl × Value)} (h : FlO w W F o1 c1 o2 c2 P1 P2) : flV W (.agg #[.string F.name, .slice o1 F.steps.length c1, .slice o2 F.rules.length c2]) F := by
  have r1 := h.t1.rowS
  have r2 := h.t2.rowR
  rw [h.m1] at r1
  rw [h.m2] at r2
  exact ⟨_, _, rfl, r1, r2⟩
theorem FlO.over {w W W' : World} {F : Fw} {o1 : Option Addr} {c1 : Nat} {o2 : Option Addr} {c2 : Nat} {P1 : List (Sp × Value)} {P2 : List (Rl × Value)} (h : FlO w W F o1 c1 o2 c2 P1 P2) (hb : Below W.heap.size W W') : FlO w W' F o1 c1 o2 c2 P1 P2 := ⟨h.m1, h.m2, h.t1.over hb, h.t2.over hb⟩
theorem CopR.open {w w' : World} {F : Fw} {e : Ending} (h : CopR w F e w') : ∃ o1 c1 o2 c2 P1 P2, e = .returned (.agg #[.string F.name, .slice o1 F.steps.length c1, .slice o2 F.rules.length c2]) ∧ FlO w w' F o1 c1 o2 c2 P1 P2 ∧ Below w.heap.size w w' := by
  obtain ⟨sv, rv, P1, P2, rfl, m1, m2, t1, t2, hb⟩ := h
  obtain ⟨o1, c1, rfl⟩ := own_shp t1.row
  obtain ⟨o2, c2, rfl⟩ := own_shp t2.row
  have e1 : P1.length = F.steps.length := by rw [← m1, List.length_map]
  have e2 : P2.length = F.rules.length := by rw [← m2, List.length_map]
  rw [e1] at t1
  rw [e2] at t2
  exact ⟨o1, c1, o2, c2, P1, P2, by rw [e1, e2], ⟨m1, m2, t1, t2⟩, hb⟩
/-- A row of calls, wherever it lies. -/
def RowQ (w : World) (v : Value) (L : List Oq) : Prop := ∃ oa cap, v = .slice oa L.length cap ∧ (L.length ≤ cap ∧ (oa = none → cap = 0)) ∧ ∀ i o, L[i]? = some o → ∃ g f, oa = some ⟨g, f, none⟩ ∧ w.cell? ⟨g, f + i * 6, none⟩ = some (.int .i64 o.on) ∧ w.cell? ⟨g, f + i * 6 + 1, none⟩ = some (.int .i64 o.op) ∧ w.cell? ⟨g, f + i * 6 + 2, none⟩ = some (.int .i64 o.step) ∧ w.cell? ⟨g, f + i * 6 + 3, none⟩ = some (.int .i64 o.user) ∧ w.cell? ⟨g, f + i * 6 + 4, none⟩ = some (.int .i64 o.tick) ∧ w.cell? ⟨g, f + i * 6 + 5, none⟩ = some (.bool o.stuck)
theorem take_nextQ (ab : Bool) (Pf : Nat → Nat) (R : Rs) {L : List Oq} {c : Nat} {o : Oq} (h : L[c]? = some o) : plyL ab Pf R (L.take (c + 1)) = plyR ab Pf (plyL ab Pf R (L.take c)) o := by
  rw [List.take_add_one, h]
  exact plyL_snoc ab Pf R (L.take c) o
theorem plyR_log (ab : Bool) (Pf : Nat → Nat) (R : Rs) (o : Oq) : (plyR ab Pf R o).log.length ≤ R.log.length + 2 := by
  unfold plyR
  split
  · exact clmR_log _ _ _ _ _
  · split
    · exact donR_log _ _ _ _
    · split
      · exact aboR_log _ _
      · split
        · exact mrkR_log _ _ _
        · omega
/-- What stands while a run is played: its flow's number of steps is small. -/
structure PlS (n : Nat) (R : Rs) (c : Nat) : Prop where
  ok : RsOk n R
  st : R.stat ≠ 4
  lg : R.log.length ≤ 1 + 2 * c
theorem PlS.next {n : Nat} {R : Rs} {c : Nat} (h : PlS n R c) (Pf : Nat → Nat) (o : Oq) : PlS n (plyR false Pf R o) (c + 1) := ⟨plyR_ok _ _ h.ok o, plyR_4 Pf h.st o, by have := plyR_log false Pf R o; have := h.lg; omega⟩
theorem PlS.start {n : Nat} (hn : n ≠ 0) (tick : Int) : PlS n (newR n tick) 0 := ⟨newR_ok n hn tick, by simp [newR], by simp [newR]⟩
theorem ply1 {ab : Bool} {Pf : Nat → Nat} {R : Rs} {o : Oq} (h : o.op = 1) : plyR ab Pf R o = clmR Pf R o.step o.user o.tick := by unfold plyR; rw [if_pos h]
theorem ply2 {ab : Bool} {Pf : Nat → Nat} {R : Rs} {o : Oq} (h : o.op = 2) : plyR ab Pf R o = donR R o.step o.user o.tick := by unfold plyR; rw [if_neg (by rw [h]; decide), if_pos h]
theorem ply3 {Pf : Nat → Nat} {R : Rs} {o : Oq} (h : o.op = 3) : plyR true Pf R o = aboR R o.tick := by unfold plyR; rw [if_neg (by rw [h]; decide), if_neg (by rw [h]; decide), if_pos ⟨h, rfl⟩]
theorem ply4 {ab : Bool} {Pf : Nat → Nat} {R : Rs} {o : Oq} (h : o.op = 4) : plyR ab Pf R o = mrkR R o.stuck o.tick := by unfold plyR; rw [if_neg (by rw [h]; decide), if_neg (by rw [h]; decide), if_neg (fun e => by rw [h] at e; exact absurd e.1 (by decide)), if_pos h]
theorem ply0 {ab : Bool} {Pf : Nat → Nat} {R : Rs} {o : Oq} (h1 : o.op ≠ 1) (h2 : o.op ≠ 2) (h3 : ab = true → o.op ≠ 3) (h4 : o.op ≠ 4) : plyR ab Pf R o = R := by unfold plyR; rw [if_neg h1, if_neg h2, if_neg (fun e => h3 e.2 e.1), if_neg h4]
end Go.Proofs.YtlipdccfhnnleaaGreatDoor

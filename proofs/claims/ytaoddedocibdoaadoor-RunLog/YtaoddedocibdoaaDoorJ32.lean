/- Whoever goes on finishes a run: a round of the law's, plainly. -/
import Derived.Test.YtaoddedocibdoaaDoorJ07
import Derived.Test.YtaoddedocibdoaaDoorJ15
import Derived.Test.YtaoddedocibdoaaDoorJ17
import Derived.Test.YtaoddedocibdoaaDoorJ26
import Derived.Test.YtaoddedocibdoaaDoorJ28
import Derived.Test.YtaoddedocibdoaaDoorJ29
import Derived.Test.YtaoddedocibdoaaDoorJ31
namespace Go.Proofs.YtaoddedocibdoaaDoor
open Go.RowKit
theorem cut_idem (F : Fw) : cutFw (cutFw F) = cutFw F := by
  unfold cutFw
  have e1 : (((F.steps.take 30).map cutS).take 30).map cutS = (F.steps.take 30).map cutS := by
    rw [List.take_of_length_le (by rw [List.length_map, List.length_take]; omega), List.map_map]
    refine List.map_congr_left fun s _ => ?_
    simp [cutS, List.take_take]
  have e2 : (((F.rules.take 60).map cutR).take 60).map cutR = (F.rules.take 60).map cutR := by
    rw [List.take_of_length_le (by rw [List.length_map, List.length_take]; omega), List.map_map]
    refine List.map_congr_left fun s _ => ?_
    simp [cutR, List.take_take]
  rw [e1, e2]
/-- What is asked of a flow's texts. -/
structure FlN (F : Fw) : Prop where
  nm : F.name.size ≤ 9223372036854775807
  st : ∀ s ∈ F.steps, s.name.size ≤ 9223372036854775807 ∧ s.duty.size ≤ 9223372036854775807
theorem flb_cut {F : Fw} (h : FlN F) : FlB (cutFw F) where
  nm := h.nm
  sl := by simp [cutFw]; omega
  st := fun s hs => by
    obtain ⟨q, hq, rfl⟩ := List.mem_map.1 hs
    have := h.st q (List.mem_of_mem_take hq)
    exact ⟨by simp [cutS]; omega, this.1, this.2⟩
  rl := by simp [cutFw]; omega
  ru := fun r hr => by
    obtain ⟨q, hq, rfl⟩ := List.mem_map.1 hr
    simp [cutR]; omega
/-- A flow that lies in memory of its own, as a value. -/
structure FlO (w W : World) (F : Fw) (o1 : Option Addr) (c1 : Nat) (o2 : Option Addr) (c2 : Nat) (P1 : List (Sp × Value)) (P2 : List (Rl × Value)) : Prop where
  m1 : P1.map Prod.fst = F.steps
  m2 : P2.map Prod.fst = F.rules
  t1 : TwP w.heap.size W (.slice o1 F.steps.length c1) P1
  t2 : TwS w.heap.size W (.slice o2 F.rules.length c2) P2
theorem FlO.fl {w W : World} {F : Fw} {o1 : Option Addr} {c1 : Nat} {o2 : Option Addr} {c2 : Nat} {P1 : List (Sp × Value)} {P2 : List (Rl × Value)} (h : FlO w W F o1 c1 o2 c2 P1 P2) : flV W (.agg #[.string F.name, .slice o1 F.steps.length c1, .slice o2 F.rules.length c2]) F := by
  have r1 := h.t1.rowS
  have r2 := h.t2.rowR
  rw [h.m1] at r1
  rw [h.m2] at r2
  exact ⟨_, _, rfl, r1, r2⟩
theorem FlO.over {w W W' : World} {F : Fw} {o1 : Option Addr} {c1 : Nat} {o2 : Option Addr} {c2 : Nat} {P1 : List (Sp × Value)} {P2 : List (Rl × Value)} (h : FlO w W F o1 c1 o2 c2 P1 P2) (hb : Below W.heap.size W W') : FlO w W' F o1 c1 o2 c2 P1 P2 := ⟨h.m1, h.m2, h.t1.over hb, h.t2.over hb⟩
theorem CopR.open {w w' : World} {F : Fw} {e : Ending} (h : CopR w F e w') : ∃ o1 c1 o2 c2 P1 P2, e = .returned (.agg #[.string F.name, .slice o1 F.steps.length c1, .slice o2 F.rules.length c2]) ∧ FlO w w' F o1 c1 o2 c2 P1 P2 ∧ Below w.heap.size w w' := by
  obtain ⟨sv, rv, P1, P2, rfl, m1, m2, t1, t2, hb⟩ := h
  obtain ⟨o1, c1, rfl⟩ := own_shp t1.row
  obtain ⟨o2, c2, rfl⟩ := own_shp t2.row
  have e1 : P1.length = F.steps.length := by rw [← m1, List.length_map]
  have e2 : P2.length = F.rules.length := by rw [← m2, List.length_map]
  rw [e1] at t1
  rw [e2] at t2
  exact ⟨o1, c1, o2, c2, P1, P2, by rw [e1, e2], ⟨m1, m2, t1, t2⟩, hb⟩
/-- A row of calls, wherever it lies. -/
def RowQ (w : World) (v : Value) (L : List Oq) : Prop := ∃ oa cap, v = .slice oa L.length cap ∧ (L.length ≤ cap ∧ (oa = none → cap = 0)) ∧ ∀ i o, L[i]? = some o → ∃ g f, oa = some ⟨g, f, none⟩ ∧ w.cell? ⟨g, f + i * 6, none⟩ = some (.int .i64 o.on) ∧ w.cell? ⟨g, f + i * 6 + 1, none⟩ = some (.int .i64 o.op) ∧ w.cell? ⟨g, f + i * 6 + 2, none⟩ = some (.int .i64 o.step) ∧ w.cell? ⟨g, f + i * 6 + 3, none⟩ = some (.int .i64 o.user) ∧ w.cell? ⟨g, f + i * 6 + 4, none⟩ = some (.int .i64 o.tick) ∧ w.cell? ⟨g, f + i * 6 + 5, none⟩ = some (.bool o.stuck)
theorem take_nextQ (ab : Bool) (Pf : Nat → Nat) (R : Rs) {L : List Oq} {c : Nat} {o : Oq} (h : L[c]? = some o) : plyL ab Pf R (L.take (c + 1)) = plyR ab Pf (plyL ab Pf R (L.take c)) o := by
  rw [List.take_add_one, h]
  exact plyL_snoc ab Pf R (L.take c) o
theorem plyR_log (ab : Bool) (Pf : Nat → Nat) (R : Rs) (o : Oq) : (plyR ab Pf R o).log.length ≤ R.log.length + 2 := by
  unfold plyR
  split
  · exact clmR_log _ _ _ _ _
  · split
    · exact donR_log _ _ _ _
    · split
      · exact aboR_log _ _
      · split
        · exact mrkR_log _ _ _
        · omega
/-- What stands while a run is played: its flow's number of steps is small. -/
structure PlS (n : Nat) (R : Rs) (c : Nat) : Prop where
  ok : RsOk n R
  st : R.stat ≠ 4
  lg : R.log.length ≤ 1 + 2 * c
theorem PlS.next {n : Nat} {R : Rs} {c : Nat} (h : PlS n R c) (Pf : Nat → Nat) (o : Oq) : PlS n (plyR false Pf R o) (c + 1) := ⟨plyR_ok _ _ h.ok o, plyR_4 Pf h.st o, by have := plyR_log false Pf R o; have := h.lg; omega⟩
theorem PlS.start {n : Nat} (hn : n ≠ 0) (tick : Int) : PlS n (newR n tick) 0 := ⟨newR_ok n hn tick, by simp [newR], by simp [newR]⟩
theorem ply1 {ab : Bool} {Pf : Nat → Nat} {R : Rs} {o : Oq} (h : o.op = 1) : plyR ab Pf R o = clmR Pf R o.step o.user o.tick := by unfold plyR; rw [if_pos h]
theorem ply2 {ab : Bool} {Pf : Nat → Nat} {R : Rs} {o : Oq} (h : o.op = 2) : plyR ab Pf R o = donR R o.step o.user o.tick := by unfold plyR; rw [if_neg (by rw [h]; decide), if_pos h]
theorem ply3 {Pf : Nat → Nat} {R : Rs} {o : Oq} (h : o.op = 3) : plyR true Pf R o = aboR R o.tick := by unfold plyR; rw [if_neg (by rw [h]; decide), if_neg (by rw [h]; decide), if_pos ⟨h, rfl⟩]
theorem ply4 {ab : Bool} {Pf : Nat → Nat} {R : Rs} {o : Oq} (h : o.op = 4) : plyR ab Pf R o = mrkR R o.stuck o.tick := by unfold plyR; rw [if_neg (by rw [h]; decide), if_neg (by rw [h]; decide), if_neg (fun e => by rw [h] at e; exact absurd e.1 (by decide)), if_pos h]
theorem ply0 {ab : Bool} {Pf : Nat → Nat} {R : Rs} {o : Oq} (h1 : o.op ≠ 1) (h2 : o.op ≠ 2) (h3 : ab = true → o.op ≠ 3) (h4 : o.op ≠ 4) : plyR ab Pf R o = R := by unfold plyR; rw [if_neg h1, if_neg h2, if_neg (fun e => h3 e.2 e.1), if_neg h4]
end Go.Proofs.YtaoddedocibdoaaDoor
namespace Go.Proofs.YtaoddedocibdoaaDoor
open Go.RowKit
theorem plyR_lg {n : Nat} {R : Rs} (Pf : Nat → Nat) (h : Lg Pf n R) (ho : RsOk n R) (o : Oq) : Lg Pf n (plyR true Pf R o) := by
  unfold plyR
  split
  · exact clmR_lg h _ _ _
  · split
    · exact donR_lg h ho _ _ _
    · split
      · exact aboR_lg h _
      · split
        · exact mrkR_lg h _ _
        · exact h
/-- What stands while a run is played, aborts and all. -/
structure PlL (Pf : Nat → Nat) (n : Nat) (R : Rs) (c : Nat) : Prop where
  ok : RsOk n R
  lg : Lg Pf n R
  ln : R.log.length ≤ 1 + 2 * c
theorem PlL.next {Pf : Nat → Nat} {n : Nat} {R : Rs} {c : Nat} (h : PlL Pf n R c) (o : Oq) : PlL Pf n (plyR true Pf R o) (c + 1) := ⟨plyR_ok _ _ h.ok o, plyR_lg Pf h.lg h.ok o, by have := plyR_log true Pf R o; have := h.ln; omega⟩
theorem PlL.start (Pf : Nat → Nat) {n : Nat} (hn : n ≠ 0) (tick : Int) : PlL Pf n (newR n tick) 0 := ⟨newR_ok n hn tick, newR_lg Pf n tick, by simp [newR]⟩
theorem repl_len (n : Nat) (L : List Ev) : (repl n L).length = n := by
  have : ∀ (L : List Ev) (T : List SS), (L.foldl evS T).length = T.length := by
    intro L
    induction L with
    | nil => intro T; rfl
    | cons e l ih =>
      intro T
      rw [List.foldl_cons, ih]
      unfold evS
      split
      · simp
      · split <;> simp
  unfold repl
  rw [this, List.length_replicate]
theorem repl_next (n : Nat) {L : List Ev} {c : Nat} {e : Ev} (h : L[c]? = some e) : repl n (L.take (c + 1)) = evS (repl n (L.take c)) e := by
  rw [List.take_add_one, h]
  exact repl_snoc n _ e
theorem evS_none {T : List SS} {e : Ev} (h2 : e.kind ≠ 2) (h3 : e.kind ≠ 3) : evS T e = T := ev_none h2 h3
/-- All are completed just where the word of those is full. -/
theorem thz_full {n : Nat} {R : Rs} (h : RsOk n R) : (thz R.S 2 = 2 ^ n - 1) ↔ R.stat = 3 := by
  rw [h.fin]
  constructor
  · intro e
    unfold lefB
    rw [List.countP_eq_zero]
    intro s hs
    obtain ⟨i, hi⟩ := List.getElem?_of_mem hs
    have hlt := (List.getElem?_eq_some_iff.1 hi).1
    have hb := thz_bit R.S 2 i
    rw [e, Nat.testBit_two_pow_sub_one] at hb
    have h1 : thB R.S 2 i = true := by rw [← hb]; simp; rw [← h.len]; exact hlt
    unfold thB at h1
    rw [hi] at h1
    simp at h1
    simp [h1]
  · intro e
    apply Nat.eq_of_testBit_eq
    intro i
    rw [thz_bit, Nat.testBit_two_pow_sub_one]
    unfold thB
    by_cases hi : i < n
    · obtain ⟨s, hs⟩ : ∃ s, R.S[i]? = some s := ⟨_, List.getElem?_eq_getElem (by rw [h.len]; exact hi)⟩
      have := lefB_zero e hs
      have h2 : s.st = 2 := by
        rcases h.st i s hs with e | e | e
        · exact absurd e this.1
        · exact absurd e this.2
        · exact e
      rw [hs]
      simp [h2, hi]
    · rw [List.getElem?_eq_none (by rw [h.len]; omega)]
      simp [hi]
/-- A step is completed: the word of those that are. -/
theorem thz_done {T : List SS} {i : Nat} {s : SS} (hs : T[i]? = some s) (u a d : Int) : thz (T.set i ⟨2, u, a, d⟩) 2 = thz T 2 ||| 2 ^ i := by
  have hlt := (List.getElem?_eq_some_iff.1 hs).1
  apply Nat.eq_of_testBit_eq
  intro j
  rw [Nat.testBit_or, thz_bit, thz_bit, Nat.testBit_two_pow]
  unfold thB
  rw [List.getElem?_set]
  by_cases e : i = j
  · subst e; simp [hlt]
  · simp [e]
theorem thz_claim {T : List SS} {i : Nat} {s : SS} (hs : T[i]? = some s) (h2 : s.st ≠ 2) (u a d : Int) : thz (T.set i ⟨1, u, a, d⟩) 2 = thz T 2 := by
  apply Nat.eq_of_testBit_eq
  intro j
  rw [thz_bit, thz_bit]
  unfold thB
  rw [List.getElem?_set]
  by_cases e : i = j
  · subst e
    rw [hs]
    have hlt := (List.getElem?_eq_some_iff.1 hs).1
    simp [hlt, h2]
  · simp [e]
theorem thz_rep (n : Nat) : thz (List.replicate n ⟨0, 0, 0, 0⟩) 2 = 0 := by
  apply Nat.eq_of_testBit_eq
  intro j
  rw [thz_bit, Nat.zero_testBit]
  unfold thB
  rw [List.getElem?_replicate]
  split <;> simp
/-- Half held against the run's own. -/
def mixS (S : List SS) (c : Nat) : List SS := S.take c ++ (S.map opn).drop c
theorem mix_zero (S : List SS) : mixS S 0 = S.map opn := by simp [mixS]
theorem mix_at {S : List SS} {c : Nat} {s : SS} (h : S[c]? = some s) : (mixS S c)[c]? = some (opn s) := by
  have hlt := (List.getElem?_eq_some_iff.1 h).1
  unfold mixS
  rw [List.getElem?_append_right (by simp; omega), List.length_take, Nat.min_eq_left (Nat.le_of_lt hlt), Nat.sub_self, List.getElem?_drop, List.getElem?_map, Nat.add_zero, h]
  rfl
theorem mix_at1 {S : List SS} {c : Nat} {s : SS} (h : S[c]? = some s) : (mixS S (c + 1))[c]? = some s := by
  have hlt := (List.getElem?_eq_some_iff.1 h).1
  unfold mixS
  rw [List.getElem?_append_left (by simp; omega), List.getElem?_take_of_lt (by omega), h]
theorem mix_set {S : List SS} {c : Nat} {s : SS} (h : S[c]? = some s) : (mixS S c).set c s = mixS S (c + 1) := by
  have hlt := (List.getElem?_eq_some_iff.1 h).1
  apply List.ext_getElem?
  intro j
  unfold mixS
  rw [List.getElem?_set, List.getElem?_append, List.getElem?_append]
  simp only [List.length_append, List.length_take, List.length_drop, List.length_map, List.getElem?_drop, List.getElem?_map, List.getElem?_take]
  rw [Nat.min_eq_left (Nat.le_of_lt hlt), Nat.min_eq_left (show c + 1 ≤ S.length by omega)]
  by_cases e : c = j
  · subst e
    rw [if_pos rfl, if_pos (by omega), if_pos (by omega), if_pos (by omega), h]
  · rw [if_neg e]
    by_cases hj : j < c
    · rw [if_pos hj, if_pos hj, if_pos (by omega), if_pos (by omega)]
    · rw [if_neg hj, if_neg (by omega), show c + (j - c) = j by omega, show c + 1 + (j - (c + 1)) = j by omega]
theorem opn_open {R : Rs} {Pf : Nat → Nat} {n : Nat} (h : Lg Pf n R) {c : Nat} {s : SS} (hs : R.S[c]? = some s) (h0 : s.st = 0) : opn s = ⟨0, 0, 0, 0⟩ ∧ s = ⟨0, -1, 0, 0⟩ := ⟨by unfold opn; rw [if_pos h0], h.op c s hs h0⟩
theorem opn_else {s : SS} (h0 : s.st ≠ 0) : opn s = s := by unfold opn; rw [if_neg h0]
theorem mix_keep {S : List SS} {c : Nat} {s : SS} (h : S[c]? = some s) (h0 : s.st ≠ 0) : mixS S (c + 1) = mixS S c := by
  rw [← mix_set h]
  apply List.ext_getElem?
  intro j
  rw [List.getElem?_set]
  by_cases e : c = j
  · subst e
    rw [if_pos rfl, mix_at h, opn_else h0, if_pos]
    have := (List.getElem?_eq_some_iff.1 (mix_at h)).1
    exact this
  · rw [if_neg e]
/-- The states as they lie, behind all that stood at Wm. -/
structure Rp (Wm : World) (gz n : Nat) (T : List SS) (W : World) : Prop where
  own : W.ownsRow Wm.heap.size 51 4 (.slice (some ⟨gz, 0, none⟩) n n) n (cellsSS T)
  len : T.length = n
  bl : Below Wm.heap.size Wm W
section
variable {Wm W W' : World} {gz n : Nat} {T : List SS}
theorem Rp.ge (h : Rp Wm gz n T W) : Wm.heap.size ≤ gz := own_ge' h.own rfl
theorem Rp.over (h : Rp Wm gz n T W) (hb : Below W.heap.size W W') : Rp Wm gz n T W' := ⟨own_same h.own fun k hk _ => hb.block k hk, h.len, h.bl.trans (hb.mono h.bl.size)⟩
theorem Rp.frz (h : Rp Wm gz n T W) (j : Nat) : W.frozen? ⟨gz, j, none⟩ = false := h.own.frozenAt j
theorem Rp.at (h : Rp Wm gz n T W) {i : Nat} {s : SS} (hs : T[i]? = some s) : W.cell? ⟨gz, i * 4, none⟩ = some (.int .i64 s.st) ∧ W.cell? ⟨gz, i * 4 + 1, none⟩ = some (.int .i64 s.us) ∧ W.cell? ⟨gz, i * 4 + 2, none⟩ = some (.int .i64 s.ca) ∧ W.cell? ⟨gz, i * 4 + 3, none⟩ = some (.int .i64 s.da) := by
  have hi := (List.getElem?_eq_some_iff.1 hs).1
  have := h.len
  have a0 := h.own.cellAt (i * 4 + 0) (by omega)
  have a1 := h.own.cellAt (i * 4 + 1) (by omega)
  have a2 := h.own.cellAt (i * 4 + 2) (by omega)
  have a3 := h.own.cellAt (i * 4 + 3) (by omega)
  unfold cellsSS at a0 a1 a2 a3
  rw [four_at sscells sscells_len T i _ (by decide), hs] at a0 a1 a2 a3
  exact ⟨a0, a1, a2, a3⟩
theorem Rp.set4 (h : Rp Wm gz n T W) (i : Nat) (s : SS) (hi : i < n) : Rp Wm gz n (T.set i s) ((((W.setCell ⟨gz, i * 4, none⟩ (.int .i64 s.st)).setCell ⟨gz, i * 4 + 1, none⟩ (.int .i64 s.us)).setCell ⟨gz, i * 4 + 2, none⟩ (.int .i64 s.ca)).setCell ⟨gz, i * 4 + 3, none⟩ (.int .i64 s.da)) := by
  have hge := h.ge
  have hT := h.len
  refine ⟨?_, by simp [hT], ?_⟩
  · have o4 := own_setcell (own_setcell (own_setcell (own_setcell h.own (i * 4) (.int .i64 s.st)) (i * 4 + 1) (.int .i64 s.us)) (i * 4 + 2) (.int .i64 s.ca)) (i * 4 + 3) (.int .i64 s.da)
    have e : ((((cellsSS T).set (i * 4) (.int .i64 s.st)).set (i * 4 + 1) (.int .i64 s.us)).set (i * 4 + 2) (.int .i64 s.ca)).set (i * 4 + 3) (.int .i64 s.da) = cellsSS (T.set i s) := by
      have hl := four_len sscells sscells_len T
      refine four_set sscells sscells_len T i s _ (by simp [cellsSS, hl]) (fun j hj _ => ?_) (fun k hk => ?_)
      · have hlen : i * 4 + 4 ≤ (cellsSS T).length := by unfold cellsSS; rw [hl]; omega
        have hj' : j = 0 ∨ j = 1 ∨ j = 2 ∨ j = 3 := by omega
        rcases hj' with rfl | rfl | rfl | rfl <;> simp [List.getElem?_set, sscells] <;> omega
      · simp only [List.getElem?_set]
        rw [if_neg (by omega), if_neg (by omega), if_neg (by omega), if_neg (by omega)]
        rfl
    rw [e] at o4
    exact o4
  · have hs : ∀ (V : World) (j : Nat) (v : Value), Below Wm.heap.size Wm V → Below Wm.heap.size Wm (V.setCell ⟨gz, j, none⟩ v) := fun V j v hV => hV.setCell (p := ⟨gz, j, none⟩) hge v
    exact hs _ _ _ (hs _ _ _ (hs _ _ _ (hs _ _ _ h.bl)))
theorem Rp.set2 (h : Rp Wm gz n T W) (i : Nat) (s : SS) (hs : T[i]? = some s) (z d : Int) : Rp Wm gz n (T.set i ⟨z, s.us, s.ca, d⟩) ((W.setCell ⟨gz, i * 4, none⟩ (.int .i64 z)).setCell ⟨gz, i * 4 + 3, none⟩ (.int .i64 d)) := by
  have hi := (List.getElem?_eq_some_iff.1 hs).1
  have hge := h.ge
  have hT := h.len
  refine ⟨?_, by simp [hT], ?_⟩
  · have o4 := own_setcell (own_setcell h.own (i * 4) (.int .i64 z)) (i * 4 + 3) (.int .i64 d)
    have e : ((cellsSS T).set (i * 4) (.int .i64 z)).set (i * 4 + 3) (.int .i64 d) = cellsSS (T.set i ⟨z, s.us, s.ca, d⟩) := by
      have hl := four_len sscells sscells_len T
      refine four_set sscells sscells_len T i ⟨z, s.us, s.ca, d⟩ _ (by simp [cellsSS, hl]) (fun j hj _ => ?_) (fun k hk => ?_)
      · have hlen : i * 4 + 4 ≤ (cellsSS T).length := by unfold cellsSS; rw [hl]; omega
        have h1 := four_at sscells sscells_len T i 1 (by decide)
        have h2 := four_at sscells sscells_len T i 2 (by decide)
        rw [hs] at h1 h2
        have h1' : (cellsSS T)[i * 4 + 1]? = some (.int .i64 s.us) := h1
        have h2' : (cellsSS T)[i * 4 + 2]? = some (.int .i64 s.ca) := h2
        have hj' : j = 0 ∨ j = 1 ∨ j = 2 ∨ j = 3 := by omega
        rcases hj' with rfl | rfl | rfl | rfl
        · simp [List.getElem?_set, sscells]; omega
        · rw [List.getElem?_set, if_neg (by omega), List.getElem?_set, if_neg (by omega), h1']; rfl
        · rw [List.getElem?_set, if_neg (by omega), List.getElem?_set, if_neg (by omega), h2']; rfl
        · simp [List.getElem?_set, sscells]; omega
      · simp only [List.getElem?_set]
        rw [if_neg (by omega), if_neg (by omega)]
        rfl
    rw [e] at o4
    exact o4
  · have hs : ∀ (V : World) (j : Nat) (v : Value), Below Wm.heap.size Wm V → Below Wm.heap.size Wm (V.setCell ⟨gz, j, none⟩ v) := fun V j v hV => hV.setCell (p := ⟨gz, j, none⟩) hge v
    exact hs _ _ _ (hs _ _ _ h.bl)
theorem Rp.set1 (h : Rp Wm gz n T W) (i : Nat) (s : SS) (hs : T[i]? = some s) (z : Int) : Rp Wm gz n (T.set i ⟨s.st, z, s.ca, s.da⟩) (W.setCell ⟨gz, i * 4 + 1, none⟩ (.int .i64 z)) := by
  have hi := (List.getElem?_eq_some_iff.1 hs).1
  have hge := h.ge
  have hT := h.len
  refine ⟨?_, by simp [hT], h.bl.setCell (p := ⟨gz, i * 4 + 1, none⟩) hge _⟩
  have o4 := own_setcell h.own (i * 4 + 1) (.int .i64 z)
  have e : (cellsSS T).set (i * 4 + 1) (.int .i64 z) = cellsSS (T.set i ⟨s.st, z, s.ca, s.da⟩) := by
    have hl := four_len sscells sscells_len T
    refine four_set sscells sscells_len T i ⟨s.st, z, s.ca, s.da⟩ _ (by simp [cellsSS, hl]) (fun j hj _ => ?_) (fun k hk => ?_)
    · have hlen : i * 4 + 4 ≤ (cellsSS T).length := by unfold cellsSS; rw [hl]; omega
      have h0 := four_at sscells sscells_len T i 0 (by decide)
      have h2 := four_at sscells sscells_len T i 2 (by decide)
      have h3 := four_at sscells sscells_len T i 3 (by decide)
      rw [hs] at h0 h2 h3
      have h0' : (cellsSS T)[i * 4 + 0]? = some (.int .i64 s.st) := h0
      have h2' : (cellsSS T)[i * 4 + 2]? = some (.int .i64 s.ca) := h2
      have h3' : (cellsSS T)[i * 4 + 3]? = some (.int .i64 s.da) := h3
      have hj' : j = 0 ∨ j = 1 ∨ j = 2 ∨ j = 3 := by omega
      rcases hj' with rfl | rfl | rfl | rfl
      · rw [List.getElem?_set, if_neg (by omega), h0']; rfl
      · simp [List.getElem?_set, sscells]; omega
      · rw [List.getElem?_set, if_neg (by omega), h2']; rfl
      · rw [List.getElem?_set, if_neg (by omega), h3']; rfl
    · simp only [List.getElem?_set]
      rw [if_neg (by omega)]
      rfl
  rw [e] at o4
  exact o4
theorem Rp.set0 (h : Rp Wm gz n T W) (i : Nat) (s : SS) (hs : T[i]? = some s) (z : Int) : Rp Wm gz n (T.set i ⟨z, s.us, s.ca, s.da⟩) (W.setCell ⟨gz, i * 4, none⟩ (.int .i64 z)) := by
  have hi := (List.getElem?_eq_some_iff.1 hs).1
  have hge := h.ge
  have hT := h.len
  refine ⟨?_, by simp [hT], h.bl.setCell (p := ⟨gz, i * 4, none⟩) hge _⟩
  have o4 := own_setcell h.own (i * 4) (.int .i64 z)
  have e : (cellsSS T).set (i * 4) (.int .i64 z) = cellsSS (T.set i ⟨z, s.us, s.ca, s.da⟩) := by
    have hl := four_len sscells sscells_len T
    refine four_set sscells sscells_len T i ⟨z, s.us, s.ca, s.da⟩ _ (by simp [cellsSS, hl]) (fun j hj _ => ?_) (fun k hk => ?_)
    · have hlen : i * 4 + 4 ≤ (cellsSS T).length := by unfold cellsSS; rw [hl]; omega
      have h0 := four_at sscells sscells_len T i 1 (by decide)
      have h2 := four_at sscells sscells_len T i 2 (by decide)
      have h3 := four_at sscells sscells_len T i 3 (by decide)
      rw [hs] at h0 h2 h3
      have h0' : (cellsSS T)[i * 4 + 1]? = some (.int .i64 s.us) := h0
      have h2' : (cellsSS T)[i * 4 + 2]? = some (.int .i64 s.ca) := h2
      have h3' : (cellsSS T)[i * 4 + 3]? = some (.int .i64 s.da) := h3
      have hj' : j = 0 ∨ j = 1 ∨ j = 2 ∨ j = 3 := by omega
      rcases hj' with rfl | rfl | rfl | rfl
      · simp [List.getElem?_set, sscells]; omega
      · rw [List.getElem?_set, if_neg (by omega), h0']; rfl
      · rw [List.getElem?_set, if_neg (by omega), h2']; rfl
      · rw [List.getElem?_set, if_neg (by omega), h3']; rfl
    · simp only [List.getElem?_set]
      rw [if_neg (by omega)]
      rfl
  rw [e] at o4
  exact o4
theorem Rp.set3 (h : Rp Wm gz n T W) (i : Nat) (s : SS) (hs : T[i]? = some s) (z : Int) : Rp Wm gz n (T.set i ⟨s.st, s.us, s.ca, z⟩) (W.setCell ⟨gz, i * 4 + 3, none⟩ (.int .i64 z)) := by
  have hi := (List.getElem?_eq_some_iff.1 hs).1
  have hge := h.ge
  have hT := h.len
  refine ⟨?_, by simp [hT], h.bl.setCell (p := ⟨gz, i * 4 + 3, none⟩) hge _⟩
  have o4 := own_setcell h.own (i * 4 + 3) (.int .i64 z)
  have e : (cellsSS T).set (i * 4 + 3) (.int .i64 z) = cellsSS (T.set i ⟨s.st, s.us, s.ca, z⟩) := by
    have hl := four_len sscells sscells_len T
    refine four_set sscells sscells_len T i ⟨s.st, s.us, s.ca, z⟩ _ (by simp [cellsSS, hl]) (fun j hj _ => ?_) (fun k hk => ?_)
    · have hlen : i * 4 + 4 ≤ (cellsSS T).length := by unfold cellsSS; rw [hl]; omega
      have h0 := four_at sscells sscells_len T i 0 (by decide)
      have h2 := four_at sscells sscells_len T i 2 (by decide)
      have h3 := four_at sscells sscells_len T i 1 (by decide)
      rw [hs] at h0 h2 h3
      have h0' : (cellsSS T)[i * 4 + 0]? = some (.int .i64 s.st) := h0
      have h2' : (cellsSS T)[i * 4 + 2]? = some (.int .i64 s.ca) := h2
      have h3' : (cellsSS T)[i * 4 + 1]? = some (.int .i64 s.us) := h3
      have hj' : j = 0 ∨ j = 1 ∨ j = 2 ∨ j = 3 := by omega
      rcases hj' with rfl | rfl | rfl | rfl
      · rw [List.getElem?_set, if_neg (by omega), h0']; rfl
      · rw [List.getElem?_set, if_neg (by omega), h3']; rfl
      · rw [List.getElem?_set, if_neg (by omega), h2']; rfl
      · simp [List.getElem?_set, sscells]; omega
    · simp only [List.getElem?_set]
      rw [if_neg (by omega)]
      rfl
  rw [e] at o4
  exact o4
end
/-- The states that are made. -/
theorem Rp.start {W W' : World} {n : Nat} (hn : n ≤ 64) (hW : W' = W.alloc (.cells (List.replicate (n * 4) (Value.int .i64 0)).toArray 51)) : Rp W W.heap.size n (List.replicate n ⟨0, 0, 0, 0⟩) W' := by
  subst hW
  have e : cellsSS (List.replicate n ⟨0, 0, 0, 0⟩) = List.replicate (n * 4) (Value.int .i64 0) := by
    induction n with
    | zero => rfl
    | succ n ih =>
      rw [List.replicate_succ]
      have : cellsSS (⟨0, 0, 0, 0⟩ :: List.replicate n ⟨0, 0, 0, 0⟩) = sscells ⟨0, 0, 0, 0⟩ ++ cellsSS (List.replicate n ⟨0, 0, 0, 0⟩) := rfl
      rw [this, ih (by omega), show (n + 1) * 4 = n * 4 + 1 + 1 + 1 + 1 by omega, List.replicate_succ, List.replicate_succ, List.replicate_succ, List.replicate_succ]
      rfl
  refine ⟨⟨by simp [e], .inr ⟨_, n, _, rfl, Nat.le_refl _, heap_new W _, Nat.le_refl _, by unfold maxLen; omega, by simp, by rw [e]; simp⟩⟩, by simp, (Below.refl _ W).alloc (Nat.le_refl _) _⟩
end Go.Proofs.YtaoddedocibdoaaDoor
namespace Go.Proofs.YtaoddedocibdoaaDoor
open Go.RowKit
/-- What stands ahead of the k-th turn. -/
structure GoE (n : Nat) (R : Rs) (k : Nat) : Prop where
  ok : RsOk n R
  st : R.stat ≠ 4
  ab : lefA R.S + lefB R.S + k ≤ 24
  lg : R.log.length ≤ 401 + 2 * k
theorem GoE.en {n : Nat} {R : Rs} {k : Nat} (h : GoE n R k) (h3 : R.stat ≠ 3) : endd R = false := by
  unfold endd
  have := h.st
  simp [h3, this]
/-- Can a turn be made with this step? -/
def mvS (n : Nat) (Pf : Nat → Nat) (R : Rs) (i : Nat) : Prop := (∃ s, R.S[i]? = some s ∧ s.st = 1) ∨ (rdyR n Pf R).testBit i = true
theorem donR_4 {R : Rs} (h : R.stat ≠ 4) (step user tick : Int) : (donR R step user tick).stat ≠ 4 := by
  unfold donR; split
  · exact hapD_4 h _ _ _
  · exact h
theorem clmR_4 {R : Rs} (Pf : Nat → Nat) (h : R.stat ≠ 4) (step user tick : Int) : (clmR Pf R step user tick).stat ≠ 4 := by
  unfold clmR; split
  · exact h
  · exact h
theorem GoE.done {n : Nat} {R : Rs} {k : Nat} (h : GoE n R k) (h3 : R.stat ≠ 3) {i : Nat} {s : SS} (hs : R.S[i]? = some s) (h1 : s.st = 1) :
    canD R (i : Int) s.us = 0 ∧ GoE n (donR R (i : Int) s.us 9) (k + 1) ∧ lefA (donR R (i : Int) s.us 9).S = lefA R.S ∧ lefB (donR R (i : Int) s.us 9).S + 1 = lefB R.S := by
  obtain ⟨a, b, c⟩ := dn_ok h.ok (h.en h3) hs h1
  have := h.ab
  have := h.lg
  have := donR_log R (i : Int) s.us 9
  exact ⟨a, ⟨donR_ok h.ok _ _ _, donR_4 h.st _ _ _, by omega, by omega⟩, b, c⟩
theorem GoE.claim {n : Nat} {Rel : Nat → Nat → Bool} {Pf Sf : Nat → Nat} {R : Rs} {k : Nat} (h : GoE n R k) (hO : O.Ord n Rel Pf Sf) (h3 : R.stat ≠ 3) {i : Nat} (hi : i < n) (hb : (rdyR n Pf R).testBit i = true) (u : Int) :
    canC Pf R (i : Int) = 0 ∧ GoE n (clmR Pf R (i : Int) u 9) (k + 1) ∧ lefA (clmR Pf R (i : Int) u 9).S + 1 = lefA R.S ∧ lefB (clmR Pf R (i : Int) u 9).S = lefB R.S := by
  obtain ⟨a, b, c⟩ := cl_ok hO h.ok (h.en h3) hi hb u
  have := h.ab
  have := h.lg
  have := clmR_log Pf R (i : Int) u 9
  exact ⟨a, ⟨clmR_ok Pf h.ok _ _ _, clmR_4 Pf h.st _ _ _, by omega, by omega⟩, b, c⟩
theorem GoE.moves {n : Nat} {Rel : Nat → Nat → Bool} {Pf Sf : Nat → Nat} {R : Rs} {k : Nat} (h : GoE n R k) (hO : O.Ord n Rel Pf Sf) (h3 : R.stat ≠ 3) {a : Nat} (ha : a < n) (hno : ∀ c, c < n → ¬ mvS n Pf R ((a + c) % n)) : False := by
  obtain ⟨i, s, hi, hs, hm⟩ := some_move hO h.ok (h.en h3)
  have e : (a + (i + n - a) % n) % n = i := by
    rw [Nat.add_mod_mod, show a + (i + n - a) = i + n by omega, Nat.add_mod_right, Nat.mod_eq_of_lt hi]
  have := hno ((i + n - a) % n) (Nat.mod_lt _ (by omega))
  rw [e] at this
  exact this (hm.elim (fun e => .inl ⟨s, hs, e⟩) .inr)
theorem GoE.out {n : Nat} {R : Rs} {k : Nat} (h : GoE n R k) (he : k = 24 ∨ R.stat = 3) : R.stat = 3 ∧ lefA R.S = 0 ∧ lefB R.S = 0 := by
  have h0 : lefB R.S = 0 := by
    rcases he with e | e
    · have := h.ab; omega
    · exact h.ok.fin.1 e
  have := lefA_leB R.S
  exact ⟨h.ok.fin.2 h0, by omega, h0⟩
theorem turn_n (a : Int) {n : Nat} (h1 : n ≠ 0) (hl : n ≤ 12) : ∃ k : Nat, (wrap64 (a.tmod (n : Int) + (n : Int))).tmod (n : Int) = (k : Int) ∧ k < n := by
  have h1 := Int.tmod_lt_of_pos a (show (0 : Int) < (n : Int) by omega)
  have h2 := Int.lt_tmod_of_pos a (show (0 : Int) < (n : Int) by omega)
  generalize a.tmod (n : Int) = x at *
  rw [show wrap64 (x + (n : Int)) = x + (n : Int) by unfold wrap64; omega, Int.tmod_eq_emod_of_nonneg (by omega)]
  have h3 := Int.emod_nonneg (x + (n : Int)) (show (n : Int) ≠ 0 by omega)
  have h4 := Int.emod_lt_of_pos (x + (n : Int)) (show (0 : Int) < (n : Int) by omega)
  exact ⟨((x + (n : Int)) % (n : Int)).toNat, by omega, by omega⟩
theorem turn_s {a c n : Nat} (ha : a < n) (hc : c < n) (hl : n ≤ 12) : (wrap64 ((a : Int) + (c : Int))).tmod (n : Int) = (((a + c) % n : Nat) : Int) := by
  rw [show wrap64 ((a : Int) + (c : Int)) = (a : Int) + (c : Int) by unfold wrap64; omega, Int.tmod_eq_emod_of_nonneg (by omega), ← Int.natCast_add, ← Int.natCast_emod]
theorem turn_s' (a c n : Nat) : ((a : Int) + (c : Int)) % (n : Int) = (((a + c) % n : Nat) : Int) := by
  rw [← Int.natCast_add, ← Int.natCast_emod]
theorem sta_at {R : Rs} {i : Nat} {s : SS} (h : R.S[i]? = some s) : staT R (i : Int) = .agg #[.int .i64 s.st, .int .i64 s.us, .int .i64 s.ca, .int .i64 s.da] := by
  have hi := (List.getElem?_eq_some_iff.1 h).1
  have hh : hasS R (i : Int) = true := by unfold hasS; simp [hi]
  unfold staT
  rw [if_pos hh]
  unfold sAt
  rw [Int.toNat_natCast, h]
  rfl
theorem rdyR_lt {n : Nat} {Rel : Nat → Nat → Bool} {Pf Sf : Nat → Nat} {R : Rs} (_hO : O.Ord n Rel Pf Sf) (hl : R.S.length ≤ 64) : rdyR n Pf R < 18446744073709551616 := by
  unfold rdyR
  split
  · decide
  · exact Nat.lt_of_le_of_lt Nat.and_le_right (thz_lt R.S 0 hl)
end Go.Proofs.YtaoddedocibdoaaDoor

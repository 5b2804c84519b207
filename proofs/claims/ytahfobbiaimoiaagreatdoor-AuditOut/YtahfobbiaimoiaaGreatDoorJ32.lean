/- AuditOut's drive, told plainly: twenty-four rounds over the steps end every run. -/
import Derived.Test.YtahfobbiaimoiaaGreatDoorJ07
import Derived.Test.YtahfobbiaimoiaaGreatDoorJ28
import Derived.Test.YtahfobbiaimoiaaGreatDoorJ29
import Derived.Test.YtahfobbiaimoiaaGreatDoorJ31
namespace Go.Proofs.YtahfobbiaimoiaaGreatDoor
open Go.RowKit
theorem cut_idem (F : Fw) : cutFw (cutFw F) = cutFw F := by
  unfold cutFw
  have e1 : (((F.steps.take 30).map cutS).take 30).map cutS = (F.steps.take 30).map cutS := by
    rw [List.take_of_length_le (by rw [List.length_map, List.length_take]; omega), List.map_map]
    refine List.map_congr_left fun s _ => ?_
    simp [cutS, List.take_take]
  have e2 : (((F.rules.take 60).map cutR).take 60).map cutR = (F.rules.take 60).map cutR := by
    rw [List.take_of_length_le (by rw [List.length_map, List.length_take]; omega), List.map_map]
    refine List.map_congr_left fun s _ => ?_
    simp [cutR, List.take_take]
  rw [e1, e2]
/-- What is asked of a flow's texts. -/
structure FlN (F : Fw) : Prop where
  nm : F.name.size ≤ 9223372036854775807
  st : ∀ s ∈ F.steps, s.name.size ≤ 9223372036854775807 ∧ s.duty.size ≤ 9223372036854775807
theorem flb_cut {F : Fw} (h : FlN F) : FlB (cutFw F) where
  nm := h.nm
  sl := by simp [cutFw]; omega
  st := fun s hs => by
    obtain ⟨q, hq, rfl⟩ := List.mem_map.1 hs
    have := h.st q (List.mem_of_mem_take hq)
    exact ⟨by simp [cutS]; omega, this.1, this.2⟩
  rl := by simp [cutFw]; omega
  ru := fun r hr => by
    obtain ⟨q, hq, rfl⟩ := List.mem_map.1 hr
    simp [cutR]; omega
/-- A flow that lies in memory of its own, as a value. -/
structure FlO (w W : World) (F : Fw) (o1 : Option Addr) (c1 : Nat) (o2 : Option Addr) (c2 : Nat) (P1 : List (Sp × Value)) (P2 : List (Rl × Value)) : Prop where
  m1 : P1.map Prod.fst = F.steps
  m2 : P2.map Prod.fst = F.rules
  t1 : TwP w.heap.size W (.slice o1 F.steps.length c1) P1
  t2 : TwS w.heap.size W (.slice o2 F.rules.length c2) P2
theorem FlO.fl {w W : World} {F : Fw} {o1 : Option Addr} {c1 : Nat} {o2 : Option Addr} {c2 : Nat} {P1 : List (Sp × Value)} {P2 : List (Rl × Value)} (h : FlO w W F o1 c1 o2 c2 P1 P2) : flV W (.agg #[.string F.name, .slice o1 F.steps.length c1, .slice o2 F.rules.length c2]) F := by
  have r1 := h.t1.rowS
  have r2 := h.t2.rowR
  rw [h.m1] at r1
  rw [h.m2] at r2
  exact ⟨_, _, rfl, r1, r2⟩
theorem FlO.over {w W W' : World} {F : Fw} {o1 : Option Addr} {c1 : Nat} {o2 : Option Addr} {c2 : Nat} {P1 : List (Sp × Value)} {P2 : List (Rl × Value)} (h : FlO w W F o1 c1 o2 c2 P1 P2) (hb : Below W.heap.size W W') : FlO w W' F o1 c1 o2 c2 P1 P2 := ⟨h.m1, h.m2, h.t1.over hb, h.t2.over hb⟩
theorem CopR.open {w w' : World} {F : Fw} {e : Ending} (h : CopR w F e w') : ∃ o1 c1 o2 c2 P1 P2, e = .returned (.agg #[.string F.name, .slice o1 F.steps.length c1, .slice o2 F.rules.length c2]) ∧ FlO w w' F o1 c1 o2 c2 P1 P2 ∧ Below w.heap.size w w' := by
  obtain ⟨sv, rv, P1, P2, rfl, m1, m2, t1, t2, hb⟩ := h
  obtain ⟨o1, c1, rfl⟩ := own_shp t1.row
  obtain ⟨o2, c2, rfl⟩ := own_shp t2.row
  have e1 : P1.length = F.steps.length := by rw [← m1, List.length_map]
  have e2 : P2.length = F.rules.length := by rw [← m2, List.length_map]
  rw [e1] at t1
  rw [e2] at t2
  exact ⟨o1, c1, o2, c2, P1, P2, by rw [e1, e2], ⟨m1, m2, t1, t2⟩, hb⟩
/-- A row of calls, wherever it lies. -/
def RowQ (w : World) (v : Value) (L : List Oq) : Prop := ∃ oa cap, v = .slice oa L.length cap ∧ (L.length ≤ cap ∧ (oa = none → cap = 0)) ∧ ∀ i o, L[i]? = some o → ∃ g f, oa = some ⟨g, f, none⟩ ∧ w.cell? ⟨g, f + i * 6, none⟩ = some (.int .i64 o.on) ∧ w.cell? ⟨g, f + i * 6 + 1, none⟩ = some (.int .i64 o.op) ∧ w.cell? ⟨g, f + i * 6 + 2, none⟩ = some (.int .i64 o.step) ∧ w.cell? ⟨g, f + i * 6 + 3, none⟩ = some (.int .i64 o.user) ∧ w.cell? ⟨g, f + i * 6 + 4, none⟩ = some (.int .i64 o.tick) ∧ w.cell? ⟨g, f + i * 6 + 5, none⟩ = some (.bool o.stuck)
theorem take_nextQ (ab : Bool) (Pf : Nat → Nat) (R : Rs) {L : List Oq} {c : Nat} {o : Oq} (h : L[c]? = some o) : plyL ab Pf R (L.take (c + 1)) = plyR ab Pf (plyL ab Pf R (L.take c)) o := by
  rw [List.take_add_one, h]
  exact plyL_snoc ab Pf R (L.take c) o
theorem plyR_log (ab : Bool) (Pf : Nat → Nat) (R : Rs) (o : Oq) : (plyR ab Pf R o).log.length ≤ R.log.length + 2 := by
  unfold plyR
  split
  · exact clmR_log _ _ _ _ _
  · split
    · exact donR_log _ _ _ _
    · split
      · exact aboR_log _ _
      · split
        · exact mrkR_log _ _ _
        · omega
/-- What stands while a run is played: its flow's number of steps is small. -/
structure PlS (n : Nat) (R : Rs) (c : Nat) : Prop where
  ok : RsOk n R
  st : R.stat ≠ 4
  lg : R.log.length ≤ 1 + 2 * c
theorem PlS.next {n : Nat} {R : Rs} {c : Nat} (h : PlS n R c) (Pf : Nat → Nat) (o : Oq) : PlS n (plyR false Pf R o) (c + 1) := ⟨plyR_ok _ _ h.ok o, plyR_4 Pf h.st o, by have := plyR_log false Pf R o; have := h.lg; omega⟩
theorem PlS.start {n : Nat} (hn : n ≠ 0) (tick : Int) : PlS n (newR n tick) 0 := ⟨newR_ok n hn tick, by simp [newR], by simp [newR]⟩
theorem ply1 {ab : Bool} {Pf : Nat → Nat} {R : Rs} {o : Oq} (h : o.op = 1) : plyR ab Pf R o = clmR Pf R o.step o.user o.tick := by unfold plyR; rw [if_pos h]
theorem ply2 {ab : Bool} {Pf : Nat → Nat} {R : Rs} {o : Oq} (h : o.op = 2) : plyR ab Pf R o = donR R o.step o.user o.tick := by unfold plyR; rw [if_neg (by rw [h]; decide), if_pos h]
theorem ply3 {Pf : Nat → Nat} {R : Rs} {o : Oq} (h : o.op = 3) : plyR true Pf R o = aboR R o.tick := by unfold plyR; rw [if_neg (by rw [h]; decide), if_neg (by rw [h]; decide), if_pos ⟨h, rfl⟩]
theorem ply4 {ab : Bool} {Pf : Nat → Nat} {R : Rs} {o : Oq} (h : o.op = 4) : plyR ab Pf R o = mrkR R o.stuck o.tick := by unfold plyR; rw [if_neg (by rw [h]; decide), if_neg (by rw [h]; decide), if_neg (fun e => by rw [h] at e; exact absurd e.1 (by decide)), if_pos h]
theorem ply0 {ab : Bool} {Pf : Nat → Nat} {R : Rs} {o : Oq} (h1 : o.op ≠ 1) (h2 : o.op ≠ 2) (h3 : ab = true → o.op ≠ 3) (h4 : o.op ≠ 4) : plyR ab Pf R o = R := by unfold plyR; rw [if_neg h1, if_neg h2, if_neg (fun e => h3 e.2 e.1), if_neg h4]
end Go.Proofs.YtahfobbiaimoiaaGreatDoor
namespace Go.Proofs.YtahfobbiaimoiaaGreatDoor
instance : DecidableEq Ev := fun a b => decidable_of_iff (a.tick = b.tick ∧ a.kind = b.kind ∧ a.step = b.step ∧ a.user = b.user) (by cases a; cases b; simp)
/-- The call that an event makes. -/
def agR (Pf : Nat → Nat) (R : Rs) (e : Ev) : Rs :=
  if e.kind = 2 then clmR Pf R e.step e.user e.tick else if e.kind = 3 then donR R e.step e.user e.tick else
  if e.kind = 4 then aboR R e.tick else if e.kind = 5 then mrkR R true e.tick else if e.kind = 6 then mrkR R false e.tick else R
def rpR (Pf : Nat → Nat) (R : Rs) (l : List Ev) : Rs := l.foldl (agR Pf) R
def ftk : List Ev → Int
  | [] => 0
  | e :: _ => e.tick
/-- The document's way through a log. -/
def dcR (Pf : Nat → Nat) : Nat → List Ev → Rs → Option Rs
  | _, [], R => some R
  | i, x :: l, R =>
    if i < R.log.length then (if R.log[i]? = some x then dcR Pf (i + 1) l R else none)
    else if (agR Pf R x).log[R.log.length]? = some x then dcR Pf (i + 1) l (agR Pf R x) else none
/-- What a call lays: nothing, an event, or the last completion and the end. -/
theorem agR_log (Pf : Nat → Nat) (R : Rs) (e : Ev) :
    agR Pf R e = R ∨ (∃ x, (agR Pf R e).log = R.log ++ [x]) ∨ ∃ x y, (agR Pf R e).log = R.log ++ [x, y] ∧ y.kind = 7 := by
  unfold agR
  split
  · unfold clmR; split
    · exact .inr (.inl ⟨_, rfl⟩)
    · exact .inl rfl
  · split
    · unfold donR; split
      · unfold hapD; split
        · exact .inr (.inr ⟨_, _, rfl, rfl⟩)
        · exact .inr (.inl ⟨_, rfl⟩)
      · exact .inl rfl
    · split
      · unfold aboR; split
        · exact .inl rfl
        · exact .inr (.inl ⟨_, rfl⟩)
      · split
        · unfold mrkR; split
          · exact .inr (.inl ⟨_, rfl⟩)
          · exact .inl rfl
        · split
          · unfold mrkR; split
            · exact .inr (.inl ⟨_, rfl⟩)
            · exact .inl rfl
          · exact .inl rfl
theorem agR_pre (Pf : Nat → Nat) (R : Rs) (e : Ev) {i : Nat} {x : Ev} (h : R.log[i]? = some x) : (agR Pf R e).log[i]? = some x := by
  have hi := (List.getElem?_eq_some_iff.1 h).1
  rcases agR_log Pf R e with h1 | ⟨y, h1⟩ | ⟨y, z, h1, _⟩
  · rw [h1]; exact h
  · rw [h1, List.getElem?_append_left hi]; exact h
  · rw [h1, List.getElem?_append_left hi]; exact h
theorem rpR_pre (Pf : Nat → Nat) (l : List Ev) : ∀ (R : Rs) {i : Nat} {x : Ev}, R.log[i]? = some x → (rpR Pf R l).log[i]? = some x := by
  induction l with
  | nil => exact fun R _ _ h => h
  | cons e l ih => exact fun R _ _ h => ih (agR Pf R e) (agR_pre Pf R e h)
theorem agR_len (Pf : Nat → Nat) (R : Rs) (e : Ev) : (agR Pf R e).log.length ≤ R.log.length + 2 := by
  rcases agR_log Pf R e with h1 | ⟨y, h1⟩ | ⟨y, z, h1, _⟩ <;> rw [h1] <;> simp
theorem agR_S (Pf : Nat → Nat) (R : Rs) (e : Ev) : (agR Pf R e).S.length = R.S.length := by
  unfold agR
  split
  · exact clmR_len _ _ _ _ _
  · split
    · exact donR_len _ _ _ _
    · split
      · exact aboR_len _ _
      · split
        · exact mrkR_len _ _ _
        · split
          · exact mrkR_len _ _ _
          · rfl
theorem agR_ok {n : Nat} {R : Rs} (Pf : Nat → Nat) (h : RsOk n R) (e : Ev) : RsOk n (agR Pf R e) := by
  unfold agR
  split
  · exact clmR_ok Pf h _ _ _
  · split
    · exact donR_ok h _ _ _
    · split
      · exact aboR_ok h _
      · split
        · exact mrkR_ok h _ _
        · split
          · exact mrkR_ok h _ _
          · exact h
theorem rpR_len (Pf : Nat → Nat) (l : List Ev) : ∀ R : Rs, (rpR Pf R l).log.length ≤ R.log.length + 2 * l.length := by
  induction l with
  | nil => exact fun R => Nat.le_refl _
  | cons e l ih =>
    intro R
    have h1 := ih (agR Pf R e)
    have h2 := agR_len Pf R e
    have h3 : rpR Pf R (e :: l) = rpR Pf (agR Pf R e) l := rfl
    rw [h3, List.length_cons]
    omega
theorem rpR_S (Pf : Nat → Nat) (l : List Ev) : ∀ R : Rs, (rpR Pf R l).S.length = R.S.length := by
  induction l with
  | nil => exact fun R => rfl
  | cons e l ih => exact fun R => (ih (agR Pf R e)).trans (agR_S Pf R e)
theorem rpR_ok {n : Nat} (Pf : Nat → Nat) (l : List Ev) : ∀ {R : Rs}, RsOk n R → RsOk n (rpR Pf R l) := by
  induction l with
  | nil => exact fun h => h
  | cons e l ih => exact fun h => ih (agR_ok Pf h e)
theorem rpR_app (Pf : Nat → Nat) (R : Rs) (l : List Ev) (e : Ev) : rpR Pf R (l ++ [e]) = agR Pf (rpR Pf R l) e := by simp [rpR]
theorem rpR_take (Pf : Nat → Nat) (R : Rs) {l : List Ev} {i : Nat} {e : Ev} (h : l[i]? = some e) : rpR Pf R (l.take (i + 1)) = agR Pf (rpR Pf R (l.take i)) e := by
  rw [List.take_add_one, h]
  exact rpR_app Pf R _ e
theorem agR_kind (Pf : Nat → Nat) (R : Rs) {e : Ev} (h : e.kind = 7) : agR Pf R e = R := by
  unfold agR; rw [h]; simp
/-- Whatever lays this event as its first: the event's own call does the same. -/
theorem agR_same (Pf : Nat → Nat) (R : Rs) (y x : Ev) (h : (agR Pf R y).log[R.log.length]? = some x) : agR Pf R x = agR Pf R y := by
  have hn : R.log[R.log.length]? = none := List.getElem?_eq_none (Nat.le_refl _)
  have ha : ∀ e : Ev, ∀ t : List Ev, (R.log ++ e :: t)[R.log.length]? = some e := fun e t => by
    rw [List.getElem?_append_right (Nat.le_refl _), Nat.sub_self]; rfl
  cases y with
  | mk t k s u =>
  by_cases h2 : k = 2
  · subst h2
    have e1 : agR Pf R ⟨t, 2, s, u⟩ = clmR Pf R s u t := rfl
    rw [e1] at h ⊢
    unfold clmR at h
    split at h
    · have : x = ⟨t, 2, s, u⟩ := by
        rw [show (hapC R s u t).log = R.log ++ [⟨t, 2, s, u⟩] from rfl, ha] at h; exact (Option.some.inj h).symm
      rw [this]; rfl
    · rw [hn] at h; cases h
  by_cases h3 : k = 3
  · subst h3
    have e1 : agR Pf R ⟨t, 3, s, u⟩ = donR R s u t := rfl
    rw [e1] at h ⊢
    unfold donR at h
    split at h
    · have : x = ⟨t, 3, s, u⟩ := by
        unfold hapD at h
        split at h
        · rw [show (⟨dnS R s t, 3, R.log ++ [⟨t, 3, s, u⟩, ⟨t, 7, -1, -1⟩]⟩ : Rs).log = R.log ++ [⟨t, 3, s, u⟩, ⟨t, 7, -1, -1⟩] from rfl, ha] at h; exact (Option.some.inj h).symm
        · rw [show (⟨dnS R s t, R.stat, R.log ++ [⟨t, 3, s, u⟩]⟩ : Rs).log = R.log ++ [⟨t, 3, s, u⟩] from rfl, ha] at h; exact (Option.some.inj h).symm
      rw [this]; rfl
    · rw [hn] at h; cases h
  by_cases h4 : k = 4
  · subst h4
    have e1 : agR Pf R ⟨t, 4, s, u⟩ = aboR R t := rfl
    rw [e1] at h ⊢
    have h' := h
    unfold aboR at h'
    split at h'
    · rw [hn] at h'; cases h'
    · have : x = ⟨t, 4, -1, -1⟩ := by
        rw [show (hapS R 4 ⟨t, 4, -1, -1⟩).log = R.log ++ [⟨t, 4, -1, -1⟩] from rfl, ha] at h'; exact (Option.some.inj h').symm
      rw [this]; rfl
  by_cases h5 : k = 5
  · subst h5
    have e1 : agR Pf R ⟨t, 5, s, u⟩ = mrkR R true t := rfl
    rw [e1] at h ⊢
    have h' := h
    unfold mrkR at h'
    split at h'
    · have : x = ⟨t, 5, -1, -1⟩ := by
        rw [show (hapS R (if true = true then 2 else 1) ⟨t, if true = true then 5 else 6, -1, -1⟩).log = R.log ++ [⟨t, 5, -1, -1⟩] from rfl, ha] at h'; exact (Option.some.inj h').symm
      rw [this]; rfl
    · rw [hn] at h'; cases h'
  by_cases h6 : k = 6
  · subst h6
    have e1 : agR Pf R ⟨t, 6, s, u⟩ = mrkR R false t := rfl
    rw [e1] at h ⊢
    have h' := h
    unfold mrkR at h'
    split at h'
    · have : x = ⟨t, 6, -1, -1⟩ := by
        rw [show (hapS R (if false = true then 2 else 1) ⟨t, if false = true then 5 else 6, -1, -1⟩).log = R.log ++ [⟨t, 6, -1, -1⟩] from rfl, ha] at h'; exact (Option.some.inj h').symm
      rw [this]; rfl
    · rw [hn] at h'; cases h'
  · have e1 : agR Pf R ⟨t, k, s, u⟩ = R := by unfold agR; simp [h2, h3, h4, h5, h6]
    rw [e1, hn] at h; cases h
/-- What was refused once is not laid there by what comes. -/
theorem rpR_not (Pf : Nat → Nat) (R : Rs) (x : Ev) (hx : agR Pf R x = R) : ∀ l : List Ev, (rpR Pf R l).log[R.log.length]? ≠ some x := by
  intro l
  induction l with
  | nil => exact fun h => by rw [show (rpR Pf R []).log = R.log from rfl, List.getElem?_eq_none (Nat.le_refl _)] at h; cases h
  | cons y l ih =>
    intro h
    rcases agR_log Pf R y with h1 | ⟨z, h1⟩ | ⟨z, z2, h1, _⟩
    · rw [show rpR Pf R (y :: l) = rpR Pf (agR Pf R y) l from rfl, h1] at h
      exact ih h
    all_goals
      have hz : (agR Pf R y).log[R.log.length]? = some z := by rw [h1, List.getElem?_append_right (Nat.le_refl _), Nat.sub_self]; rfl
      have h3 := rpR_pre Pf l (agR Pf R y) hz
      rw [show rpR Pf R (y :: l) = rpR Pf (agR Pf R y) l from rfl, h3] at h
      cases h
      have h4 := agR_same Pf R y x hz
      rw [hx] at h4
      rw [← h4, List.getElem?_eq_none (Nat.le_refl _)] at hz
      cases hz
/-- How a log stands while it is gone through. -/
def Gi (i : Nat) (R : Rs) : Prop := R.log.length = i ∨ (R.log.length = i + 1 ∧ ∃ x, R.log[i]? = some x ∧ x.kind = 7)
theorem Gi.next {Pf : Nat → Nat} {i : Nat} {R : Rs} {x : Ev} (hi : R.log.length = i) (h : (agR Pf R x).log[R.log.length]? = some x) : Gi (i + 1) (agR Pf R x) := by
  rcases agR_log Pf R x with h1 | ⟨z, h1⟩ | ⟨z, z2, h1, hk⟩
  · rw [h1, List.getElem?_eq_none (Nat.le_refl _)] at h; cases h
  · exact .inl (by rw [h1]; simp [hi])
  · refine .inr ⟨by rw [h1]; simp [hi], z2, ?_, hk⟩
    rw [h1, List.getElem?_append_right (by omega), hi, show i + 1 - i = 1 by omega]; rfl
theorem Gi.skip {i : Nat} {R : Rs} {x : Ev} (h : Gi i R) (hl : i < R.log.length) (hx : R.log[i]? = some x) : Gi (i + 1) R ∧ x.kind = 7 := by
  rcases h with h | ⟨h1, y, h2, h3⟩
  · omega
  · rw [hx] at h2; cases h2
    exact ⟨.inl h1, h3⟩
/-- The document's way found it: so does the program's. -/
theorem dcR_some (Pf : Nat → Nat) : ∀ (l : List Ev) (i : Nat) (R R' : Rs), Gi i R → dcR Pf i l R = some R' → rpR Pf R l = R' ∧ (∀ k x, l[k]? = some x → R'.log[i + k]? = some x) ∧ i + l.length ≤ R'.log.length := by
  intro l
  induction l with
  | nil =>
    intro i R R' hg h
    cases h
    refine ⟨rfl, (fun k x e => by cases e), ?_⟩
    rcases hg with h | h
    · simp [h]
    · simp [h.1]
  | cons x l ih =>
    intro i R R' hg h
    unfold dcR at h
    split at h
    · rename_i hl
      split at h
      · rename_i hx
        obtain ⟨g1, g2⟩ := hg.skip hl hx
        obtain ⟨h1, h2, h3⟩ := ih (i + 1) R R' g1 h
        have h4 : rpR Pf R (x :: l) = rpR Pf (agR Pf R x) l := rfl
        rw [agR_kind Pf R g2] at h4
        refine ⟨h4.trans h1, fun k y hk => ?_, by rw [List.length_cons]; omega⟩
        cases k with
        | zero => cases hk; rw [← h1]; exact rpR_pre Pf l R hx
        | succ k => have := h2 k y hk; rwa [show i + (k + 1) = i + 1 + k by omega]
      · cases h
    · rename_i hl
      have hi : R.log.length = i := by
        rcases hg with g | g
        · exact g
        · omega
      split at h
      · rename_i hx
        obtain ⟨h1, h2, h3⟩ := ih (i + 1) _ R' (Gi.next hi hx) h
        refine ⟨h1, fun k y hk => ?_, by rw [List.length_cons]; omega⟩
        cases k with
        | zero => cases hk; rw [← h1, Nat.add_zero, ← hi]; exact rpR_pre Pf l _ hx
        | succ k => have := h2 k y hk; rwa [show i + (k + 1) = i + 1 + k by omega]
      · cases h
theorem dcR_of (Pf : Nat → Nat) : ∀ (l : List Ev) (i : Nat) (R : Rs), Gi i R → (∀ k x, l[k]? = some x → (rpR Pf R l).log[i + k]? = some x) → dcR Pf i l R = some (rpR Pf R l) := by
  intro l
  induction l with
  | nil => exact fun i R _ _ => rfl
  | cons x l ih =>
    intro i R hg h
    have h0 : (rpR Pf R (x :: l)).log[i]? = some x := by have := h 0 x rfl; rwa [Nat.add_zero] at this
    unfold dcR
    split
    · rename_i hl
      have hx : R.log[i]? = some x := by
        obtain ⟨y, hy⟩ : ∃ y, R.log[i]? = some y := ⟨_, List.getElem?_eq_getElem hl⟩
        have := rpR_pre Pf (x :: l) R hy
        rw [h0] at this
        rw [hy, this]
      obtain ⟨g1, g2⟩ := hg.skip hl hx
      have h4 : rpR Pf R (x :: l) = rpR Pf R l := by
        rw [show rpR Pf R (x :: l) = rpR Pf (agR Pf R x) l from rfl, agR_kind Pf R g2]
      rw [if_pos hx, h4]
      refine ih (i + 1) R g1 fun k y hk => ?_
      have := h (k + 1) y hk
      rw [h4] at this
      rwa [show i + 1 + k = i + (k + 1) by omega]
    · rename_i hl
      have hi : R.log.length = i := by
        rcases hg with g | g
        · exact g
        · omega
      have hx : (agR Pf R x).log[R.log.length]? = some x := by
        rcases agR_log Pf R x with h1 | ⟨z, h1⟩ | ⟨z, z2, h1, _⟩
        · exact absurd (by rw [hi]; exact h0) (rpR_not Pf R x h1 (x :: l))
        all_goals
          have hz : (agR Pf R x).log[R.log.length]? = some z := by rw [h1, List.getElem?_append_right (Nat.le_refl _), Nat.sub_self]; rfl
          have := rpR_pre Pf l (agR Pf R x) hz
          rw [show rpR Pf R (x :: l) = rpR Pf (agR Pf R x) l from rfl] at h0
          rw [hi] at this
          rw [h0] at this
          rw [hz, this]
      rw [if_pos hx, show rpR Pf R (x :: l) = rpR Pf (agR Pf R x) l from rfl]
      refine ih (i + 1) _ (Gi.next hi hx) fun k y hk => ?_
      have := h (k + 1) y hk
      rw [show rpR Pf R (x :: l) = rpR Pf (agR Pf R x) l from rfl] at this
      rwa [show i + 1 + k = i + (k + 1) by omega]
/-- Does the document find a run of this log? -/
def dcQ (Pf : Nat → Nat) (n : Nat) (l : List Ev) : Option Rs :=
  match l with
  | [] => none
  | x :: t => if (⟨x.tick, 1, -1, -1⟩ : Ev) = x then (match dcR Pf 1 t (newR n x.tick) with | some R => if R.log.length = (x :: t).length then some R else none | none => none) else none
theorem dcQ_eq (Pf : Nat → Nat) (n : Nat) (l : List Ev) : dcQ Pf n l = if (rpR Pf (newR n (ftk l)) l).log = l then some (rpR Pf (newR n (ftk l)) l) else none := by
  cases l with
  | nil => rfl
  | cons x t =>
    have h0 : (newR n x.tick).log[0]? = some ⟨x.tick, 1, -1, -1⟩ := rfl
    have hg : Gi 1 (newR n x.tick) := .inl rfl
    by_cases hx : (⟨x.tick, 1, -1, -1⟩ : Ev) = x
    · have hq : dcQ Pf n (x :: t) = (match dcR Pf 1 t (newR n x.tick) with | some R => if R.log.length = (x :: t).length then some R else none | none => none) := by
        show (if (⟨x.tick, 1, -1, -1⟩ : Ev) = x then _ else none) = _
        rw [if_pos hx]
      rw [hq]
      have hk : agR Pf (newR n x.tick) x = newR n x.tick := by rw [← hx]; rfl
      have e1 : rpR Pf (newR n (ftk (x :: t))) (x :: t) = rpR Pf (newR n x.tick) t := by
        show rpR Pf (agR Pf (newR n x.tick) x) t = _; rw [hk]
      rw [e1]
      cases hd : dcR Pf 1 t (newR n x.tick) with
      | some R =>
        obtain ⟨h1, h2, h3⟩ := dcR_some Pf t 1 _ R hg hd
        show (if R.log.length = (x :: t).length then some R else none) = _
        rw [h1]
        by_cases hl : R.log.length = (x :: t).length
        · rw [if_pos hl, if_pos]
          apply List.ext_getElem?
          intro k
          cases k with
          | zero =>
            have := rpR_pre Pf t _ h0
            rw [h1, hx] at this
            rw [this]; rfl
          | succ k =>
            cases hk2 : t[k]? with
            | some y =>
              have := h2 k y hk2
              rw [show 1 + k = k + 1 by omega] at this
              rw [this, List.getElem?_cons_succ, hk2]
            | none =>
              rw [List.getElem?_cons_succ, hk2]
              have := List.getElem?_eq_none_iff.1 hk2
              exact List.getElem?_eq_none (by rw [hl, List.length_cons]; omega)
        · rw [if_neg hl, if_neg]
          intro e; exact hl (by rw [e])
      | none =>
        rw [if_neg]
        intro e
        have := dcR_of Pf t 1 (newR n x.tick) hg fun k y hk2 => by
          rw [e, show 1 + k = k + 1 by omega, List.getElem?_cons_succ]; exact hk2
        rw [hd] at this; cases this
    · have hq : dcQ Pf n (x :: t) = none := by
        show (if (⟨x.tick, 1, -1, -1⟩ : Ev) = x then _ else none) = _
        rw [if_neg hx]
      rw [hq, if_neg]
      intro e
      have h1 := rpR_pre Pf (x :: t) (newR n (ftk (x :: t))) (i := 0) (x := ⟨x.tick, 1, -1, -1⟩) rfl
      rw [e] at h1
      exact hx (Option.some.inj h1).symm
end Go.Proofs.YtahfobbiaimoiaaGreatDoor
namespace Go.Proofs.YtahfobbiaimoiaaGreatDoor
/-- How many steps a user has claimed. -/
def cntE (u : Int) (l : List Ev) : Nat := l.countP fun e => decide (e.kind = 2) && decide (e.user = u)
theorem cntE_snoc (u : Int) (l : List Ev) (e : Ev) : cntE u (l ++ [e]) = cntE u l + if e.kind = 2 ∧ e.user = u then 1 else 0 := by
  unfold cntE
  rw [List.countP_append, List.countP_singleton]
  by_cases h : e.kind = 2 ∧ e.user = u
  · rw [if_pos h, if_pos (by simp [h.1, h.2])]
  · rw [if_neg h, if_neg]
    intro e; simp at e; exact h e
theorem cntE_le (u : Int) (l : List Ev) : cntE u l ≤ l.length := List.countP_le_length
theorem cntE_mem {u : Int} {l : List Ev} (h : 0 < cntE u l) : ∃ e ∈ l, e.user = u := by
  unfold cntE at h
  obtain ⟨e, h1, h2⟩ := List.countP_pos_iff.1 h
  simp at h2
  exact ⟨e, h1, h2.2⟩
/-- A claim more, among pairs that rise. -/
def insL (u : Int) : List (Int × Int) → List (Int × Int)
  | [] => [(u, 1)]
  | (a, c) :: l => if a < u then (a, c) :: insL u l else if a = u then (a, c + 1) :: l else (u, 1) :: (a, c) :: l
def ldL (L : List Ev) : List (Int × Int) := L.foldl (fun l e => if e.kind = 2 then insL e.user l else l) []
def Srt (l : List (Int × Int)) : Prop := l.Pairwise fun p q => p.1 < q.1
theorem insL_mem1 (u : Int) : ∀ {l : List (Int × Int)} {p : Int × Int}, p ∈ insL u l → p.1 = u ∨ p ∈ l := by
  intro l
  induction l with
  | nil => intro p h; simp [insL] at h; exact .inl (by rw [h])
  | cons q l ih =>
    obtain ⟨a, c⟩ := q
    intro p h
    unfold insL at h
    split at h
    · rcases List.mem_cons.1 h with h | h
      · exact .inr (by rw [h]; exact List.mem_cons_self)
      · rcases ih h with h | h
        · exact .inl h
        · exact .inr (List.mem_cons_of_mem _ h)
    · split at h
      · rename_i e
        rcases List.mem_cons.1 h with h | h
        · exact .inl (by rw [h]; exact e)
        · exact .inr (List.mem_cons_of_mem _ h)
      · rcases List.mem_cons.1 h with h | h
        · exact .inl (by rw [h])
        · exact .inr h
theorem insL_srt (u : Int) : ∀ {l : List (Int × Int)}, Srt l → Srt (insL u l) := by
  intro l
  induction l with
  | nil => intro _; exact List.pairwise_singleton _ _
  | cons q l ih =>
    obtain ⟨a, c⟩ := q
    intro h
    obtain ⟨h1, h2⟩ := List.pairwise_cons.1 h
    unfold insL
    split
    · rename_i hlt
      refine List.pairwise_cons.2 ⟨fun p hp => ?_, ih h2⟩
      rcases insL_mem1 u hp with e | e
      · show a < p.1; omega
      · exact h1 p e
    · split
      · exact List.pairwise_cons.2 ⟨h1, h2⟩
      · rename_i h3 h4
        refine List.pairwise_cons.2 ⟨fun p hp => ?_, h⟩
        rcases List.mem_cons.1 hp with e | e
        · rw [e]; show u < a; omega
        · have := h1 p e; show u < p.1; simp only at this; omega
theorem insL_mem (u : Int) : ∀ {l : List (Int × Int)}, Srt l → ∀ (a c : Int), (a, c) ∈ insL u l ↔ (a ≠ u ∧ (a, c) ∈ l) ∨ (a = u ∧ ((∃ d, (u, d) ∈ l ∧ c = d + 1) ∨ ((∀ d, (u, d) ∉ l) ∧ c = 1))) := by
  intro l
  induction l with
  | nil => intro _ a c; simp [insL]
  | cons q l ih =>
    obtain ⟨b, e⟩ := q
    intro h a c
    obtain ⟨h1, h2⟩ := List.pairwise_cons.1 h
    unfold insL
    split
    · rename_i hlt
      have hb : ∀ d, (u, d) ∈ (b, e) :: l ↔ (u, d) ∈ l := fun d => by
        rw [List.mem_cons]
        constructor
        · rintro (h | h)
          · injection h with h _; omega
          · exact h
        · exact .inr
      rw [List.mem_cons, ih h2 a c]
      simp only [hb]
      constructor
      · rintro (k | (⟨k1, k2⟩ | k))
        · injection k with k1 k2; exact .inl ⟨by omega, by rw [k1, k2]; exact List.mem_cons_self⟩
        · exact .inl ⟨k1, List.mem_cons_of_mem _ k2⟩
        · exact .inr k
      · rintro (⟨k1, k2⟩ | k)
        · rcases List.mem_cons.1 k2 with k2 | k2
          · exact .inl k2
          · exact .inr (.inl ⟨k1, k2⟩)
        · exact .inr (.inr k)
    · split
      · rename_i h3 h4
        subst h4
        have hn : ∀ d, (b, d) ∉ l := fun d hd => by have := h1 _ hd; simp only at this; omega
        rw [List.mem_cons]
        constructor
        · rintro (k | k)
          · injection k with k1 k2; exact .inr ⟨k1, .inl ⟨e, List.mem_cons_self, k2⟩⟩
          · exact .inl ⟨fun e2 => hn c (e2 ▸ k), List.mem_cons_of_mem _ k⟩
        · rintro (⟨k1, k2⟩ | ⟨k1, ⟨d, k2, k3⟩ | ⟨k2, _⟩⟩)
          · rcases List.mem_cons.1 k2 with k2 | k2
            · injection k2 with k3 _; exact absurd k3 k1
            · exact .inr k2
          · rcases List.mem_cons.1 k2 with k2 | k2
            · injection k2 with _ k4; exact .inl (by rw [k1, k3, k4])
            · exact absurd k2 (hn d)
          · exact absurd List.mem_cons_self (k2 e)
      · rename_i h3 h4
        have hn : ∀ d, (u, d) ∉ (b, e) :: l := fun d hd => by
          rcases List.mem_cons.1 hd with k | k
          · injection k with k _; exact h4 k.symm
          · have := h1 _ k; simp only at this; omega
        rw [List.mem_cons]
        constructor
        · rintro (k | k)
          · injection k with k1 k2; exact .inr ⟨k1, .inr ⟨hn, k2⟩⟩
          · exact .inl ⟨fun e2 => hn c (e2 ▸ k), k⟩
        · rintro (⟨_, k2⟩ | ⟨k1, ⟨d, k2, _⟩ | ⟨_, k3⟩⟩)
          · exact .inr k2
          · exact absurd k2 (hn d)
          · exact .inl (by rw [k1, k3])
theorem ldL_snoc (l : List Ev) (e : Ev) : ldL (l ++ [e]) = if e.kind = 2 then insL e.user (ldL l) else ldL l := by simp [ldL]
theorem ldL_take {L : List Ev} {c : Nat} {e : Ev} (h : L[c]? = some e) : ldL (L.take (c + 1)) = if e.kind = 2 then insL e.user (ldL (L.take c)) else ldL (L.take c) := by
  rw [List.take_add_one, h]
  exact ldL_snoc _ e
theorem cntE_take {L : List Ev} {c : Nat} {e : Ev} (h : L[c]? = some e) (u : Int) : cntE u (L.take (c + 1)) = cntE u (L.take c) + if e.kind = 2 ∧ e.user = u then 1 else 0 := by
  rw [List.take_add_one, h]
  exact cntE_snoc u _ e
theorem list_snoc {α : Type} {p : List α → Prop} (h0 : p []) (h1 : ∀ l a, p l → p (l ++ [a])) (l : List α) : p l := by
  have : ∀ k, p (l.take k) := by
    intro k
    induction k with
    | zero => simpa using h0
    | succ k ih =>
      rw [List.take_add_one]
      cases l[k]? with
      | none => simpa using ih
      | some a => exact h1 _ a ih
  have h := this l.length
  rwa [List.take_length] at h
theorem ldL_srt (L : List Ev) : Srt (ldL L) := by
  induction L using list_snoc with
  | h0 => exact List.Pairwise.nil
  | h1 l e ih =>
    rw [ldL_snoc]
    split
    · exact insL_srt _ ih
    · exact ih
theorem ldL_mem (L : List Ev) : ∀ a c : Int, (a, c) ∈ ldL L ↔ 0 < cntE a L ∧ c = (cntE a L : Nat) := by
  induction L using list_snoc with
  | h0 => intro a c; simp [ldL, cntE]
  | h1 l e ih =>
    intro a c
    rw [ldL_snoc, cntE_snoc]
    split
    · rename_i hk
      rw [insL_mem _ (ldL_srt l)]
      by_cases ha : a = e.user
      · subst ha
        rw [if_pos ⟨hk, rfl⟩]
        constructor
        · rintro (⟨k, _⟩ | ⟨_, ⟨d, k1, k2⟩ | ⟨k1, k2⟩⟩)
          · exact absurd rfl k
          · rw [ih] at k1; omega
          · have : cntE e.user l = 0 := by
              cases hc : cntE e.user l with
              | zero => rfl
              | succ m => exact absurd ((ih _ _).2 ⟨by omega, rfl⟩) (k1 _)
            rw [this]; omega
        · rintro ⟨_, k2⟩
          refine .inr ⟨rfl, ?_⟩
          cases hc : cntE e.user l with
          | zero => exact .inr ⟨fun d hd => by rw [ih] at hd; omega, by rw [k2, hc]; rfl⟩
          | succ m => exact .inl ⟨_, (ih _ _).2 ⟨by omega, rfl⟩, by rw [k2]; omega⟩
      · rw [if_neg (fun k => ha k.2.symm), ih]
        constructor
        · rintro (⟨_, k⟩ | ⟨k, _⟩)
          · exact k
          · exact absurd k ha
        · exact fun k => .inl ⟨ha, k⟩
    · rename_i hk
      rw [if_neg (fun k => hk k.1), ih]
      rfl
/-- The users, rising. -/
def usE (L : List Ev) : List Int := (ldL L).map Prod.fst
theorem usE_mem (L : List Ev) (u : Int) : u ∈ usE L ↔ 0 < cntE u L := by
  unfold usE
  rw [List.mem_map]
  constructor
  · rintro ⟨⟨a, c⟩, h, rfl⟩
    exact ((ldL_mem L a c).1 h).1
  · exact fun h => ⟨(u, (cntE u L : Nat)), (ldL_mem L _ _).2 ⟨h, rfl⟩, rfl⟩
theorem usE_srt (L : List Ev) : (usE L).Pairwise (· < ·) := List.pairwise_map.2 (ldL_srt L)
theorem usE_nodup (L : List Ev) : (usE L).Nodup := (usE_srt L).imp fun h e => by subst e; exact Int.lt_irrefl _ h
theorem ldL_eq (L : List Ev) : ldL L = (usE L).map fun u => (u, ((cntE u L : Nat) : Int)) := by
  unfold usE
  rw [List.map_map]
  conv => lhs; rw [← List.map_id (ldL L)]
  apply List.map_congr_left
  rintro ⟨a, c⟩ h
  have := ((ldL_mem L a c).1 h).2
  show (a, c) = (a, _)
  rw [this]
theorem usE_len (L : List Ev) : (usE L).length = (ldL L).length := by simp [usE]
theorem ldL_len (L : List Ev) : (ldL L).length ≤ L.length := by
  have hi : ∀ (u : Int) (l : List (Int × Int)), (insL u l).length ≤ l.length + 1 := by
    intro u l
    induction l with
    | nil => exact Nat.le_refl _
    | cons q l ih =>
      obtain ⟨a, c⟩ := q
      unfold insL
      split
      · simp only [List.length_cons]; omega
      · split <;> simp only [List.length_cons] <;> omega
  induction L using list_snoc with
  | h0 => exact Nat.le_refl _
  | h1 l e ih =>
    rw [ldL_snoc, List.length_append, List.length_singleton]
    split
    · have := hi e.user (ldL l); omega
    · omega
end Go.Proofs.YtahfobbiaimoiaaGreatDoor
namespace Go.Proofs.YtahfobbiaimoiaaGreatDoor
/-- The event of a call. -/
def evO (o : Oq) : Ev := if o.op = 1 then ⟨o.tick, 2, o.step, o.user⟩ else if o.op = 2 then ⟨o.tick, 3, o.step, o.user⟩ else if o.op = 3 then ⟨o.tick, 4, -1, -1⟩ else if o.op = 4 then ⟨o.tick, if o.stuck then 5 else 6, -1, -1⟩ else ⟨0, 0, 0, 0⟩
theorem ply_ag (Pf : Nat → Nat) (R : Rs) (o : Oq) : plyR true Pf R o = agR Pf R (evO o) := by
  unfold evO
  by_cases h1 : o.op = 1
  · rw [ply1 h1, if_pos h1]; rfl
  by_cases h2 : o.op = 2
  · rw [ply2 h2, if_neg h1, if_pos h2]; rfl
  by_cases h3 : o.op = 3
  · rw [ply3 h3, if_neg h1, if_neg h2, if_pos h3]; rfl
  by_cases h4 : o.op = 4
  · rw [ply4 h4, if_neg h1, if_neg h2, if_neg h3, if_pos h4]
    cases o.stuck <;> rfl
  · rw [ply0 h1 h2 (fun _ => h3) h4, if_neg h1, if_neg h2, if_neg h3, if_neg h4]; rfl
theorem ag_back {Pf : Nat → Nat} {R0 R : Rs} (h : rpR Pf R0 R.log = R) (y : Ev) : rpR Pf R0 (agR Pf R y).log = agR Pf R y := by
  rcases agR_log Pf R y with h1 | ⟨x, h1⟩ | ⟨x, z, h1, hk⟩
  · rw [h1]; exact h
  · have hx : (agR Pf R y).log[R.log.length]? = some x := by rw [h1, List.getElem?_append_right (Nat.le_refl _), Nat.sub_self]; rfl
    rw [h1, rpR_app, h]
    exact agR_same Pf R y x hx
  · have hx : (agR Pf R y).log[R.log.length]? = some x := by rw [h1, List.getElem?_append_right (Nat.le_refl _), Nat.sub_self]; rfl
    rw [h1, show R.log ++ [x, z] = (R.log ++ [x]) ++ [z] by simp, rpR_app, rpR_app, h, agR_kind Pf _ hk]
    exact agR_same Pf R y x hx
theorem ply_back (Pf : Nat → Nat) (n : Nat) (t : Int) : ∀ (L : List Oq) (R : Rs), rpR Pf (newR n t) R.log = R → rpR Pf (newR n t) (plyL true Pf R L).log = plyL true Pf R L := by
  intro L
  induction L with
  | nil => exact fun R h => h
  | cons o L ih =>
    intro R h
    have h2 := ih (plyR true Pf R o) (by rw [ply_ag]; exact ag_back h (evO o))
    exact h2
theorem back0 (Pf : Nat → Nat) (n : Nat) (t : Int) : rpR Pf (newR n t) (newR n t).log = newR n t := rfl
theorem plyL_pre (Pf : Nat → Nat) : ∀ (L : List Oq) (R : Rs) {i : Nat} {x : Ev}, R.log[i]? = some x → (plyL true Pf R L).log[i]? = some x := by
  intro L
  induction L with
  | nil => exact fun R _ _ h => h
  | cons o L ih => exact fun R _ _ h => ih (plyR true Pf R o) (by rw [ply_ag]; exact agR_pre Pf R _ h)
theorem plyL_ftk (Pf : Nat → Nat) (n : Nat) (t : Int) (L : List Oq) : ftk (plyL true Pf (newR n t) L).log = t := by
  have := plyL_pre Pf L (newR n t) (i := 0) (x := ⟨t, 1, -1, -1⟩) rfl
  cases h : (plyL true Pf (newR n t) L).log with
  | nil => rw [h] at this; cases this
  | cons a l => rw [h] at this; cases this; rfl
/-- Two tellings of one order. -/
theorem canC_two {n : Nat} {Rel : Nat → Nat → Bool} {Pf Sf Pf' Sf' : Nat → Nat} (h : O.Ord n Rel Pf Sf) (h' : O.Ord n Rel Pf' Sf') {R : Rs} (hR : R.S.length = n) (s : Int) : canC Pf R s = canC Pf' R s := by
  unfold canC
  by_cases he : endd R = true
  · rw [if_pos he, if_pos he]
  · rw [if_neg he, if_neg he]
    by_cases hh : hasS R s = false
    · rw [if_pos hh, if_pos hh]
    · have hh' : hasS R s = true := by simpa using hh
      have hs := (hasS_iff hh').2.1
      rw [hR] at hs
      have e : Pf s.toNat = Pf' s.toNat := by
        apply Nat.eq_of_testBit_eq
        intro a
        rw [h.pre _ hs, h'.pre _ hs]
      rw [e]
theorem agR_two {n : Nat} {Rel : Nat → Nat → Bool} {Pf Sf Pf' Sf' : Nat → Nat} (h : O.Ord n Rel Pf Sf) (h' : O.Ord n Rel Pf' Sf') {R : Rs} (hR : R.S.length = n) (e : Ev) : agR Pf R e = agR Pf' R e := by
  unfold agR clmR
  rw [canC_two h h' hR]
theorem rpR_two {n : Nat} {Rel : Nat → Nat → Bool} {Pf Sf Pf' Sf' : Nat → Nat} (h : O.Ord n Rel Pf Sf) (h' : O.Ord n Rel Pf' Sf') : ∀ (l : List Ev) {R : Rs}, R.S.length = n → rpR Pf R l = rpR Pf' R l := by
  intro l
  induction l with
  | nil => exact fun _ => rfl
  | cons e l ih =>
    intro R hR
    show rpR Pf (agR Pf R e) l = rpR Pf' (agR Pf' R e) l
    rw [← agR_two h h' hR e]
    exact ih (by rw [agR_S, hR])
theorem plyR_S (ab : Bool) (Pf : Nat → Nat) (R : Rs) (o : Oq) : (plyR ab Pf R o).S.length = R.S.length := by
  unfold plyR
  split
  · exact clmR_len _ _ _ _ _
  · split
    · exact donR_len _ _ _ _
    · split
      · exact aboR_len _ _
      · split
        · exact mrkR_len _ _ _
        · rfl
theorem plyL_S (ab : Bool) (Pf : Nat → Nat) : ∀ (L : List Oq) (R : Rs), (plyL ab Pf R L).S.length = R.S.length := by
  intro L
  induction L with
  | nil => exact fun R => rfl
  | cons o L ih => exact fun R => (ih (plyR ab Pf R o)).trans (plyR_S ab Pf R o)
theorem plyL_log (ab : Bool) (Pf : Nat → Nat) : ∀ (L : List Oq) (R : Rs), (plyL ab Pf R L).log.length ≤ R.log.length + 2 * L.length := by
  intro L
  induction L with
  | nil => exact fun R => Nat.le_refl _
  | cons o L ih =>
    intro R
    have h1 := ih (plyR ab Pf R o)
    have h2 := plyR_log ab Pf R o
    have h3 : plyL ab Pf R (o :: L) = plyL ab Pf (plyR ab Pf R o) L := rfl
    rw [h3, List.length_cons]
    omega
theorem plyL_ok {n : Nat} (ab : Bool) (Pf : Nat → Nat) : ∀ (L : List Oq) {R : Rs}, RsOk n R → RsOk n (plyL ab Pf R L) := by
  intro L
  induction L with
  | nil => exact fun h => h
  | cons o L ih => exact fun h => ih (plyR_ok ab Pf h o)
end Go.Proofs.YtahfobbiaimoiaaGreatDoor
namespace Go.Proofs.YtahfobbiaimoiaaGreatDoor
def kdN (k : Int) (L : List Ev) : Nat := L.countP fun e => decide (e.kind = k)
def spKN (k i : Int) (L : List Ev) : Nat := L.countP fun e => decide (e.kind = k) && decide (e.step = i)
theorem kdN_snoc (k : Int) (L : List Ev) (e : Ev) : kdN k (L ++ [e]) = kdN k L + if e.kind = k then 1 else 0 := by
  unfold kdN; rw [List.countP_append, List.countP_singleton]; simp
theorem spKN_snoc (k i : Int) (L : List Ev) (e : Ev) : spKN k i (L ++ [e]) = spKN k i L + if e.kind = k ∧ e.step = i then 1 else 0 := by
  unfold spKN; rw [List.countP_append, List.countP_singleton]; simp
theorem kdN_no {k : Int} {e : Ev} (L : List Ev) (h : e.kind ≠ k) : kdN k (L ++ [e]) = kdN k L := by rw [kdN_snoc, if_neg h]; rfl
theorem spKN_no {k : Int} {e : Ev} (i : Int) (L : List Ev) (h : e.kind ≠ k) : spKN k i (L ++ [e]) = spKN k i L := by rw [spKN_snoc, if_neg (fun x => h x.1)]; rfl
theorem spKN_st {i : Int} {e : Ev} (k : Int) (L : List Ev) (h : e.step ≠ i) : spKN k i (L ++ [e]) = spKN k i L := by rw [spKN_snoc, if_neg (fun x => h x.2)]; rfl
theorem spKN_yes {k i : Int} {e : Ev} (L : List Ev) (h : e.kind = k) (h' : e.step = i) : spKN k i (L ++ [e]) = spKN k i L + 1 := by rw [spKN_snoc, if_pos ⟨h, h'⟩]
theorem get_set {S : List SS} {i j : Nat} {t s : SS} (h : (S.set i t)[j]? = some s) : (i = j ∧ s = t) ∨ (i ≠ j ∧ S[j]? = some s) := by
  by_cases e : i = j
  · subst e
    rw [List.getElem?_set_self'] at h
    cases hs : S[i]? with
    | none => rw [hs] at h; simp at h
    | some x => rw [hs] at h; simp at h; exact .inl ⟨rfl, h.symm⟩
  · rw [List.getElem?_set_ne e] at h
    exact .inr ⟨e, h⟩
theorem cnt_drop (f : Ev → Bool) {L : List Ev} {k : Nat} {e : Ev} (h : L[k]? = some e) : L.countP f = (L.take k ++ L.drop (k + 1)).countP f + if f e = true then 1 else 0 := by
  obtain ⟨hlt, he⟩ := List.getElem?_eq_some_iff.1 h
  have h1 : L = L.take k ++ e :: L.drop (k + 1) := by rw [← he, ← List.drop_eq_getElem_cons hlt, List.take_append_drop]
  have h2 : L.countP f = (L.take k ++ e :: L.drop (k + 1)).countP f := congrArg (List.countP f) h1
  rw [h2, List.countP_append, List.countP_append, List.countP_cons]
  omega
/-- What a run's log counts. -/
structure Cn (R : Rs) : Prop where
  one : kdN 1 R.log = 1
  fin : kdN 7 R.log = if R.stat = 3 then 1 else 0
  cl : ∀ (i : Nat) (s : SS), R.S[i]? = some s → spKN 2 (i : Int) R.log = if s.st = 0 then 0 else 1
  dn : ∀ (i : Nat) (s : SS), R.S[i]? = some s → spKN 3 (i : Int) R.log = if s.st = 2 then 1 else 0
  rg : ∀ e ∈ R.log, e.kind = 2 ∨ e.kind = 3 → 0 ≤ e.step ∧ e.step.toNat < R.S.length
  kd : ∀ e ∈ R.log, e.kind = 1 ∨ e.kind = 2 ∨ e.kind = 3 ∨ e.kind = 4 ∨ e.kind = 5 ∨ e.kind = 6 ∨ e.kind = 7
  ab : R.stat ≠ 4 → kdN 4 R.log = 0
theorem newR_cn (n : Nat) (t : Int) : Cn (newR n t) where
  one := by simp [newR, kdN]
  fin := by simp [newR, kdN]
  cl := fun i s h => by
    simp only [newR, List.getElem?_replicate] at h
    split at h
    · cases h; simp [newR, spKN]
    · cases h
  dn := fun i s h => by
    simp only [newR, List.getElem?_replicate] at h
    split at h
    · cases h; simp [newR, spKN]
    · cases h
  rg := fun e he => by simp [newR] at he; subst he; intro h; simp at h
  kd := fun e he => by simp [newR] at he; subst he; exact .inl rfl
  ab := fun _ => by simp [newR, kdN]
theorem Cn.mark {R : Rs} (h : Cn R) (st : Int) (e : Ev) (hk : e.kind = 4 ∨ e.kind = 5 ∨ e.kind = 6) (h3 : R.stat ≠ 3) (hst : st ≠ 3) (h4 : st ≠ 4 → e.kind ≠ 4 ∧ R.stat ≠ 4) : Cn (hapS R st e) where
  one := (kdN_no _ (by omega)).trans h.one
  fin := by show kdN 7 (R.log ++ [e]) = if st = 3 then 1 else 0; rw [kdN_no _ (by omega), h.fin, if_neg h3, if_neg hst]
  cl := fun i s hs => (spKN_no _ _ (by omega)).trans (h.cl i s hs)
  dn := fun i s hs => (spKN_no _ _ (by omega)).trans (h.dn i s hs)
  rg := fun x hx => by
    rcases List.mem_append.1 hx with hx | hx
    · exact h.rg x hx
    · obtain rfl := List.mem_singleton.1 hx; intro hh; omega
  kd := fun x hx => by
    rcases List.mem_append.1 hx with hx | hx
    · exact h.kd x hx
    · obtain rfl := List.mem_singleton.1 hx; omega
  ab := fun h' => (kdN_no _ (h4 h').1).trans (h.ab (h4 h').2)
theorem endd_ne {R : Rs} (h : ¬ endd R = true) : R.stat ≠ 3 ∧ R.stat ≠ 4 := by
  unfold endd at h
  simp at h
  exact h
theorem mrkR_cn {R : Rs} (h : Cn R) (b : Bool) (t : Int) : Cn (mrkR R b t) := by
  unfold mrkR
  split
  · rename_i hb
    have h1 : ¬ endd R = true := by unfold mrkB at hb; simp at hb; simp [hb.1]
    obtain ⟨h3, h4⟩ := endd_ne h1
    exact h.mark _ _ (by cases b <;> simp) h3 (by cases b <;> decide) (fun _ => ⟨by cases b <;> simp, h4⟩)
  · exact h
theorem aboR_cn {R : Rs} (h : Cn R) (t : Int) : Cn (aboR R t) := by
  unfold aboR
  split
  · exact h
  · rename_i hb
    exact h.mark _ _ (.inl rfl) (endd_ne hb).1 (by decide) (fun e => absurd rfl e)
theorem clmR_cn {R : Rs} (Pf : Nat → Nat) (h : Cn R) (step user t : Int) : Cn (clmR Pf R step user t) := by
  unfold clmR
  split
  · rename_i hc
    obtain ⟨h1, h2, h3, _⟩ := canC_zero hc
    obtain ⟨hi0, hi1, hi2⟩ := hasS_iff h2
    have hs0 := sAt_some h2
    refine ⟨(kdN_no _ (by simp)).trans h.one, (kdN_no _ (by simp)).trans h.fin, fun j s hs => ?_, fun j s hs => ?_, fun x hx => ?_, fun x hx => ?_, fun h' => (kdN_no _ (by simp)).trans (h.ab h')⟩
    · rcases get_set hs with ⟨rfl, rfl⟩ | ⟨hj, hs⟩
      · exact (spKN_yes (k := 2) (e := ⟨t, 2, step, user⟩) R.log rfl hi2).trans (by rw [h.cl _ _ hs0, if_pos h3]; rfl)
      · exact (spKN_st _ _ (fun e => hj (by simp only at e; omega))).trans (h.cl j s hs)
    · refine (spKN_no _ _ (by simp)).trans ?_
      rcases get_set hs with ⟨rfl, rfl⟩ | ⟨hj, hs⟩
      · rw [h.dn _ _ hs0, if_neg (by rw [h3]; decide)]; rfl
      · exact h.dn j s hs
    · intro hk
      show 0 ≤ x.step ∧ x.step.toNat < (R.S.set _ _).length
      rw [List.length_set]
      rcases List.mem_append.1 hx with hx | hx
      · exact h.rg x hx hk
      · obtain rfl := List.mem_singleton.1 hx; exact ⟨hi0, hi1⟩
    · rcases List.mem_append.1 hx with hx | hx
      · exact h.kd x hx
      · obtain rfl := List.mem_singleton.1 hx; exact .inr (.inl rfl)
  · exact h
theorem donR_cn {n : Nat} {R : Rs} (h : Cn R) (ho : RsOk n R) (step user t : Int) : Cn (donR R step user t) := by
  unfold donR
  split
  · rename_i hc
    obtain ⟨h1, h2, h3, h4, _⟩ := canD_zero hc
    obtain ⟨hi0, hi1, hi2⟩ := hasS_iff h2
    have hs0 := sAt_some h2
    obtain ⟨n3, n4⟩ := endd_ne (R := R) (by rw [h1]; decide)
    have hst : (sAt R step).st = 1 := by
      rcases ho.st _ _ hs0 with e | e | e
      · exact absurd e h3
      · exact e
      · exact absurd e h4
    have c2 : ∀ (j : Nat) (s : SS), (dnS R step t)[j]? = some s → spKN 2 (j : Int) R.log = if s.st = 0 then 0 else 1 := fun j s hs => by
      rcases get_set hs with ⟨rfl, rfl⟩ | ⟨hj, hs⟩
      · rw [h.cl _ _ hs0, if_neg h3]; rfl
      · exact h.cl j s hs
    have c3 : ∀ (j : Nat) (s : SS), (dnS R step t)[j]? = some s → spKN 3 (j : Int) (R.log ++ [⟨t, 3, step, user⟩]) = if s.st = 2 then 1 else 0 := fun j s hs => by
      rcases get_set hs with ⟨rfl, rfl⟩ | ⟨hj, hs⟩
      · exact (spKN_yes (k := 3) (e := ⟨t, 3, step, user⟩) R.log rfl hi2).trans (by rw [h.dn _ _ hs0, if_neg h4]; rfl)
      · exact (spKN_st _ _ (fun e => hj (by simp only at e; omega))).trans (h.dn j s hs)
    have hl : (dnS R step t).length = R.S.length := by unfold dnS; rw [List.length_set]
    unfold hapD
    split
    · have hL : ∀ (a b : Ev), R.log ++ [a, b] = (R.log ++ [a]) ++ [b] := fun a b => by simp
      refine ⟨?_, ?_, fun j s hs => ?_, fun j s hs => ?_, fun x hx => ?_, fun x hx => ?_, fun _ => ?_⟩
      · show kdN 1 (R.log ++ [_, _]) = 1; rw [hL, kdN_no _ (by simp), kdN_no _ (by simp), h.one]
      · show kdN 7 (R.log ++ [_, _]) = if (3 : Int) = 3 then 1 else 0; rw [hL, kdN_snoc, kdN_no _ (by simp), h.fin, if_neg n3, if_pos rfl, if_pos rfl]
      · show spKN 2 _ (R.log ++ [_, _]) = _; rw [hL, spKN_no _ _ (by simp), spKN_no _ _ (by simp)]; exact c2 j s hs
      · show spKN 3 _ (R.log ++ [_, _]) = _; rw [hL, spKN_no _ _ (by simp)]; exact c3 j s hs
      · intro hk
        show 0 ≤ x.step ∧ x.step.toNat < (dnS R step t).length
        rw [hl]
        rcases List.mem_append.1 hx with hx | hx
        · exact h.rg x hx hk
        · rcases List.mem_cons.1 hx with rfl | hx
          · exact ⟨hi0, hi1⟩
          · obtain rfl := List.mem_singleton.1 hx; simp at hk
      · rcases List.mem_append.1 hx with hx | hx
        · exact h.kd x hx
        · rcases List.mem_cons.1 hx with rfl | hx
          · exact .inr (.inr (.inl rfl))
          · obtain rfl := List.mem_singleton.1 hx; simp
      · show kdN 4 (R.log ++ [_, _]) = 0; rw [hL, kdN_no _ (by simp), kdN_no _ (by simp), h.ab n4]
    · refine ⟨(kdN_no _ (by simp)).trans h.one, (kdN_no _ (by simp)).trans h.fin, fun j s hs => (spKN_no _ _ (by simp)).trans (c2 j s hs), fun j s hs => c3 j s hs, fun x hx => ?_, fun x hx => ?_, fun _ => (kdN_no _ (by simp)).trans (h.ab n4)⟩
      · intro hk
        show 0 ≤ x.step ∧ x.step.toNat < (dnS R step t).length
        rw [hl]
        rcases List.mem_append.1 hx with hx | hx
        · exact h.rg x hx hk
        · obtain rfl := List.mem_singleton.1 hx; exact ⟨hi0, hi1⟩
      · rcases List.mem_append.1 hx with hx | hx
        · exact h.kd x hx
        · obtain rfl := List.mem_singleton.1 hx; exact .inr (.inr (.inl rfl))
  · exact h
theorem agR_cn {n : Nat} {R : Rs} (Pf : Nat → Nat) (h : Cn R) (ho : RsOk n R) (e : Ev) : Cn (agR Pf R e) := by
  unfold agR
  split
  · exact clmR_cn Pf h _ _ _
  · split
    · exact donR_cn h ho _ _ _
    · split
      · exact aboR_cn h _
      · split
        · exact mrkR_cn h _ _
        · split
          · exact mrkR_cn h _ _
          · exact h
theorem rpR_cn {n : Nat} (Pf : Nat → Nat) (l : List Ev) : ∀ {R : Rs}, Cn R → RsOk n R → Cn (rpR Pf R l) := by
  induction l with
  | nil => exact fun h _ => h
  | cons e l ih => exact fun h ho => ih (agR_cn Pf h ho e) (rpR_ok (n := n) Pf [e] ho)
theorem plyR_cn {n : Nat} {R : Rs} (ab : Bool) (Pf : Nat → Nat) (h : Cn R) (ho : RsOk n R) (o : Oq) : Cn (plyR ab Pf R o) := by
  unfold plyR
  split
  · exact clmR_cn Pf h _ _ _
  · split
    · exact donR_cn h ho _ _ _
    · split
      · exact aboR_cn h _
      · split
        · exact mrkR_cn h _ _
        · exact h
theorem all_two {n : Nat} {R : Rs} (ho : RsOk n R) : R.stat = 3 ↔ ∀ (i : Nat) (s : SS), R.S[i]? = some s → s.st = 2 := by
  rw [ho.fin]
  constructor
  · intro h i s hs
    obtain ⟨h1, h2⟩ := lefB_zero h hs
    rcases ho.st i s hs with e | e | e
    · exact absurd e h1
    · exact absurd e h2
    · exact e
  · intro h
    unfold lefB
    rw [List.countP_eq_zero]
    intro s hs
    obtain ⟨i, hi⟩ := List.mem_iff_getElem?.1 hs
    rw [h i s hi]
    decide
/-- No event but a mark can be taken out of a finished run's log. -/
theorem drop_bad {n : Nat} {R R' : Rs} (hR : RsOk n R) (hC : Cn R) (h3 : R.stat = 3) {k : Nat} {e : Ev} (he : R.log[k]? = some e) (h5 : e.kind ≠ 5) (h6 : e.kind ≠ 6) (hR' : RsOk n R') (hC' : Cn R') : R'.log ≠ R.log.take k ++ R.log.drop (k + 1) := by
  intro hE
  have K : ∀ q, kdN q R.log = kdN q R'.log + if e.kind = q then 1 else 0 := fun q => by
    have := cnt_drop (fun e => decide (e.kind = q)) he
    rw [← hE] at this
    unfold kdN
    rw [this]
    simp
  have P : ∀ q i, spKN q i R.log = spKN q i R'.log + if e.kind = q ∧ e.step = i then 1 else 0 := fun q i => by
    have := cnt_drop (fun e => decide (e.kind = q) && decide (e.step = i)) he
    rw [← hE] at this
    unfold spKN
    rw [this]
    simp
  have hm := List.mem_of_getElem? he
  have A := (all_two hR).1 h3
  have hat : ∀ i : Nat, i < n → ∃ s s', R.S[i]? = some s ∧ R'.S[i]? = some s' ∧ s.st = 2 := fun i hi => by
    refine ⟨R.S[i]'(by rw [hR.len]; exact hi), R'.S[i]'(by rw [hR'.len]; exact hi), List.getElem?_eq_getElem _, List.getElem?_eq_getElem _, ?_⟩
    exact A i _ (List.getElem?_eq_getElem _)
  rcases hC.kd e hm with q | q | q | q | q | q | q
  · have := K 1
    rw [hC.one, hC'.one, if_pos q] at this
    omega
  · obtain ⟨r0, r1⟩ := hC.rg e hm (.inl q)
    obtain ⟨s, s', hs, hs', h2⟩ := hat _ (by rw [← hR.len]; exact r1)
    have e0 : ((e.step.toNat : Nat) : Int) = e.step := by omega
    have a := P 2 e.step
    have b := P 3 e.step
    have c1 := hC.cl _ _ hs
    have c2 := hC.dn _ _ hs
    have c3 := hC'.cl _ _ hs'
    have c4 := hC'.dn _ _ hs'
    rw [e0] at c1 c2 c3 c4
    rw [if_pos ⟨q, rfl⟩, c1, c3, if_neg (by omega)] at a
    rw [if_neg (by omega), c2, c4, if_pos h2] at b
    split at b
    · rename_i g
      rw [if_neg (by rw [g]; decide)] at a; omega
    · omega
  · obtain ⟨r0, r1⟩ := hC.rg e hm (.inr q)
    obtain ⟨s, s', hs, hs', h2⟩ := hat _ (by rw [← hR.len]; exact r1)
    have e0 : ((e.step.toNat : Nat) : Int) = e.step := by omega
    have b := P 3 e.step
    have f := K 7
    have c2 := hC.dn _ _ hs
    have c4 := hC'.dn _ _ hs'
    rw [e0] at c2 c4
    rw [if_pos ⟨q, rfl⟩, c2, c4, if_pos h2] at b
    rw [hC.fin, hC'.fin, if_pos h3, if_neg (c := e.kind = 7) (by rw [q]; decide)] at f
    split at f
    · rename_i g
      have := (all_two hR').1 g _ _ hs'
      rw [if_pos this] at b
      omega
    · omega
  · have := K 4
    rw [hC.ab (by rw [h3]; decide), if_pos q] at this
    omega
  · exact absurd q h5
  · exact absurd q h6
  · have f := K 7
    rw [hC.fin, hC'.fin, if_pos h3, if_pos q] at f
    have g : R'.stat ≠ 3 := fun g => by rw [if_pos g] at f; omega
    refine g ((all_two hR').2 fun i s' hs' => ?_)
    have hi := (List.getElem?_eq_some_iff.1 hs').1
    obtain ⟨s, s'', hs, hs'', h2⟩ := hat i (by rw [← hR'.len]; exact hi)
    rw [hs'] at hs''
    cases hs''
    have b := P 3 (i : Int)
    rw [if_neg (by omega), hC.dn _ _ hs, hC'.dn _ _ hs', if_pos h2] at b
    split at b
    · assumption
    · omega
end Go.Proofs.YtahfobbiaimoiaaGreatDoor
namespace Go.Proofs.YtahfobbiaimoiaaGreatDoor
/-- A turn: a claimed step is done by its user, an open one claimed by u. -/
def stO (Pf : Nat → Nat) (u : Int) (R : Rs) (i : Nat) : Rs := if (sAt R (i : Int)).st = 1 then donR R (i : Int) (sAt R (i : Int)).us 9 else clmR Pf R (i : Int) u 9
def rdO (Pf : Nat → Nat) (u : Int) (R : Rs) (c : Nat) : Rs := (List.range c).foldl (stO Pf u) R
theorem rdO_next (Pf : Nat → Nat) (u : Int) (R : Rs) (c : Nat) : rdO Pf u R (c + 1) = stO Pf u (rdO Pf u R c) c := by simp [rdO, List.range_succ]
def msO (R : Rs) : Nat := lefA R.S + lefB R.S
theorem stO_ok {n : Nat} {R : Rs} (Pf : Nat → Nat) (u : Int) (h : RsOk n R) (i : Nat) : RsOk n (stO Pf u R i) := by
  unfold stO
  split
  · exact donR_ok h _ _ _
  · exact clmR_ok Pf h _ _ _
theorem rdO_ok {n : Nat} {R : Rs} (Pf : Nat → Nat) (u : Int) (h : RsOk n R) : ∀ c, RsOk n (rdO Pf u R c) := by
  intro c
  induction c with
  | zero => exact h
  | succ c ih => rw [rdO_next]; exact stO_ok Pf u ih c
theorem stO_cn {n : Nat} {R : Rs} (Pf : Nat → Nat) (u : Int) (h : Cn R) (ho : RsOk n R) (i : Nat) : Cn (stO Pf u R i) := by
  unfold stO
  split
  · exact donR_cn h ho _ _ _
  · exact clmR_cn Pf h _ _ _
theorem rdO_cn {n : Nat} {R : Rs} (Pf : Nat → Nat) (u : Int) (h : Cn R) (ho : RsOk n R) : ∀ c, Cn (rdO Pf u R c) := by
  intro c
  induction c with
  | zero => exact h
  | succ c ih => rw [rdO_next]; exact stO_cn Pf u ih (rdO_ok Pf u ho c) c
theorem sAt_nat {R : Rs} {i : Nat} {s : SS} (h : R.S[i]? = some s) : sAt R (i : Int) = s := by unfold sAt; rw [Int.toNat_natCast, h]; rfl
theorem stO_ms {n : Nat} {R : Rs} (Pf : Nat → Nat) (u : Int) (h : RsOk n R) {i : Nat} (hi : i < n) : stO Pf u R i = R ∨ msO (stO Pf u R i) < msO R := by
  obtain ⟨s, hs⟩ : ∃ s, R.S[i]? = some s := ⟨_, List.getElem?_eq_getElem (by rw [h.len]; exact hi)⟩
  have es := sAt_nat hs
  unfold stO
  rw [es]
  split
  · rename_i h1
    cases he : endd R with
    | true => left; unfold donR; rw [if_neg (by unfold canD; rw [if_pos he]; decide)]
    | false =>
      obtain ⟨_, h2, h3⟩ := dn_ok h he hs h1
      right; unfold msO; omega
  · unfold clmR
    split
    · rename_i hc
      obtain ⟨_, _, h0, _⟩ := canC_zero hc
      rw [es] at h0
      have a := lefA_set (t := ⟨1, u, 9, 0⟩) hs
      have b := lefB_set (t := ⟨1, u, 9, 0⟩) hs
      rw [if_pos h0, if_neg (by simp)] at a
      rw [if_pos (.inl h0), if_pos (.inr rfl)] at b
      right
      show lefA (R.S.set (i : Int).toNat _) + lefB (R.S.set (i : Int).toNat _) < _
      rw [Int.toNat_natCast]
      unfold msO
      omega
    · exact .inl rfl
theorem rdO_ms {n : Nat} {R : Rs} (Pf : Nat → Nat) (u : Int) (h : RsOk n R) : ∀ c, c ≤ n → rdO Pf u R c = R ∨ msO (rdO Pf u R c) < msO R := by
  intro c
  induction c with
  | zero => exact fun _ => .inl rfl
  | succ c ih =>
    intro hc
    rw [rdO_next]
    rcases ih (by omega) with e | e
    · rw [e]; exact stO_ms Pf u h (by omega)
    · rcases stO_ms Pf u (rdO_ok Pf u h c) (i := c) (by omega) with e2 | e2
      · rw [e2]; exact .inr e
      · exact .inr (by omega)
/-- A round of a run that has not ended goes on. -/
theorem rdO_lt {n : Nat} {Rel : Nat → Nat → Bool} {Pf Sf : Nat → Nat} {R : Rs} (hO : O.Ord n Rel Pf Sf) (h : RsOk n R) (he : endd R = false) (u : Int) : msO (rdO Pf u R n) < msO R := by
  obtain ⟨i, s, hi, hs, hmv⟩ := some_move hO h he
  have es := sAt_nat hs
  have key : ∀ c, i < c → c ≤ n → msO (rdO Pf u R c) < msO R := by
    intro c
    induction c with
    | zero => exact fun h => absurd h (Nat.not_lt_zero _)
    | succ c ih =>
      intro hc hcn
      rw [rdO_next]
      by_cases hic : i < c
      · have := ih hic (by omega)
        rcases stO_ms Pf u (rdO_ok Pf u h c) (i := c) (by omega) with e2 | e2
        · rw [e2]; exact this
        · omega
      · obtain rfl : i = c := by omega
        rcases rdO_ms Pf u h i (by omega) with e | e
        · rw [e]
          unfold stO
          rw [es]
          rcases hmv with h1 | hb
          · rw [if_pos h1]
            obtain ⟨_, h2, h3⟩ := dn_ok h he hs h1
            unfold msO; omega
          · obtain ⟨h1, h2, h3⟩ := cl_ok hO h he hi hb u
            obtain ⟨_, _, h0, _⟩ := canC_zero h1
            rw [es] at h0
            rw [if_neg (by rw [h0]; decide)]
            unfold msO; omega
        · rcases stO_ms Pf u (rdO_ok Pf u h i) (i := i) hi with e2 | e2
          · rw [e2]; exact e
          · omega
  exact key n hi (Nat.le_refl _)
/-- What stands ahead of round k. -/
structure Gd (n : Nat) (R : Rs) (k : Nat) : Prop where
  ok : RsOk n R
  cn : Cn R
  ms : endd R = true ∨ msO R + k ≤ 24
theorem Gd.start {n : Nat} {R : Rs} (h : RsOk n R) (hc : Cn R) (hn : n ≤ 12) : Gd n R 0 := by
  refine ⟨h, hc, .inr ?_⟩
  have a := lefA_le R.S
  have b := lefB_le R.S
  rw [h.len] at a b
  unfold msO; omega
theorem Gd.next {n : Nat} {Rel : Nat → Nat → Bool} {Pf Sf : Nat → Nat} {R : Rs} {k : Nat} (h : Gd n R k) (hO : O.Ord n Rel Pf Sf) (he : endd R = false) (u : Int) : Gd n (rdO Pf u R n) (k + 1) := by
  refine ⟨rdO_ok Pf u h.ok n, rdO_cn Pf u h.cn h.ok n, .inr ?_⟩
  have := rdO_lt hO h.ok he u
  rcases h.ms with e | e
  · rw [he] at e; cases e
  · omega
theorem Gd.out {n : Nat} {R : Rs} {k : Nat} (h : Gd n R k) (hk : k = 24 ∨ endd R = true) : endd R = true := by
  rcases hk with rfl | hk
  · rcases h.ms with e | e
    · exact e
    · have : lefB R.S = 0 := by unfold msO at e; omega
      have := h.ok.fin.2 this
      unfold endd; rw [this]; rfl
  · exact hk
/-- Each event of the drive is paid for: the log stays short. -/
def paid (R : Rs) : Nat := R.log.length + 2 * msO R
theorem stO_paid {n : Nat} {R : Rs} (Pf : Nat → Nat) (u : Int) (h : RsOk n R) {i : Nat} (hi : i < n) : paid (stO Pf u R i) ≤ paid R := by
  rcases stO_ms Pf u h hi with e | e
  · rw [e]; exact Nat.le_refl _
  · have hl : (stO Pf u R i).log.length ≤ R.log.length + 2 := by
      unfold stO
      split
      · unfold donR hapD
        split
        · split <;> simp
        · omega
      · unfold clmR
        split
        · simp [hapC]
        · omega
    unfold paid; omega
theorem rdO_paid {n : Nat} {R : Rs} (Pf : Nat → Nat) (u : Int) (h : RsOk n R) : ∀ c, c ≤ n → paid (rdO Pf u R c) ≤ paid R := by
  intro c
  induction c with
  | zero => exact fun _ => Nat.le_refl _
  | succ c ih =>
    intro hc
    rw [rdO_next]
    exact Nat.le_trans (stO_paid Pf u (rdO_ok Pf u h c) (by omega)) (ih (by omega))
end Go.Proofs.YtahfobbiaimoiaaGreatDoor

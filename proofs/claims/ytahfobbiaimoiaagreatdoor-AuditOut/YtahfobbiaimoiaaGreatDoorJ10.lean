/- stepsFit, rising, numberFits, Check: what they answer. -/
import Derived.Test.YtahfobbiaimoiaaGreatDoorRMath
import Derived.Test.YtahfobbiaimoiaaGreatDoorJ09
import Derived.Lib.OwnKind
namespace Go.Proofs.YtahfobbiaimoiaaGreatDoor
open Go.RowKit
/-- A rule as a value. -/
def rv (r : Rl) (sv : Value) : Value := .agg #[.int .i64 r.kind, .int .i64 r.k, sv]
def rcells (p : Rl × Value) : List Value := [.int .i64 p.1.kind, .int .i64 p.1.k, p.2]
def cellsR (P : List (Rl × Value)) : List Value := P.flatMap rcells
theorem cellsR_len (L : List (Rl × Value)) : (cellsR L).length = L.length * 3 := by
  induction L with
  | nil => rfl
  | cons a l ih => simp [cellsR, rcells] at ih ⊢; omega
theorem cellsR_app (L M : List (Rl × Value)) : cellsR (L ++ M) = cellsR L ++ cellsR M := by simp [cellsR]
theorem cellsR_at : ∀ (L : List (Rl × Value)) (i j : Nat), j < 3 → (cellsR L)[i * 3 + j]? = L[i]?.bind fun t => (rcells t)[j]?
  | [], i, j, _ => by simp [cellsR]
  | a :: l, 0, j, hj => by
    have e : cellsR (a :: l) = rcells a ++ cellsR l := by simp [cellsR]
    rw [e, List.getElem?_append_left (by simpa [rcells] using hj)]
    simp
  | a :: l, i + 1, j, hj => by
    have h := cellsR_at l i j hj
    have e : cellsR (a :: l) = rcells a ++ cellsR l := by simp [cellsR]
    have hl : (rcells a).length = 3 := rfl
    rw [e, List.getElem?_append_right (by rw [hl]; omega), hl, show (i + 1) * 3 + j - 3 = i * 3 + j by omega, List.getElem?_cons_succ]
    exact h
/-- A row of rules, wherever it lies. -/
def RowR (w : World) (v : Value) (L : List Rl) : Prop := ∃ oa cap, v = .slice oa L.length cap ∧ (L.length ≤ cap ∧ (oa = none → cap = 0)) ∧ ∀ i r, L[i]? = some r → ∃ g o sv, oa = some ⟨g, o, none⟩ ∧ w.cell? ⟨g, o + i * 3, none⟩ = some (.int .i64 r.kind) ∧ w.cell? ⟨g, o + i * 3 + 1, none⟩ = some (.int .i64 r.k) ∧ w.cell? ⟨g, o + i * 3 + 2, none⟩ = some sv ∧ RowI w sv r.steps
theorem RowR.below {w w' : World} {v : Value} {l : List Rl} {n : Nat} (h : RowR w v l) (hb : Below n w w') (hn : w.heap.size ≤ n) : RowR w' v l := by
  obtain ⟨oa, cap, e, e0, h⟩ := h
  refine ⟨oa, cap, e, e0, fun i z hz => ?_⟩
  obtain ⟨g, o, sv, e1, e2, e3, e4, e5⟩ := h i z hz
  exact ⟨g, o, sv, e1, (hb.cell (p := ⟨g, o + i * 3, none⟩) (Nat.lt_of_lt_of_le (cell_lt e2) hn)).trans e2, (hb.cell (p := ⟨g, o + i * 3 + 1, none⟩) (Nat.lt_of_lt_of_le (cell_lt e3) hn)).trans e3, (hb.cell (p := ⟨g, o + i * 3 + 2, none⟩) (Nat.lt_of_lt_of_le (cell_lt e4) hn)).trans e4, e5.below hb hn⟩
/-- A row of rules, all in memory of its own. -/
structure TwS (B : Nat) (w : World) (v : Value) (P : List (Rl × Value)) : Prop where
  row : w.ownsRow B 82 3 v P.length (cellsR P)
  inner : ∀ p ∈ P, w.ownsRow B 3 1 p.2 p.1.steps.length (cellsI p.1.steps)
theorem TwS.rowR {B : Nat} {w : World} {v : Value} {P : List (Rl × Value)} (h : TwS B w v P) : RowR w v (P.map Prod.fst) := by
  have hr := h.row
  unfold RowR
  rw [List.length_map]
  rcases hr.2 with ⟨rfl, h0⟩ | ⟨g, cap, cur, rfl, _, _, hcap, _⟩
  · refine ⟨none, 0, by rw [h0], ⟨by omega, fun _ => rfl⟩, fun i z hz => ?_⟩
    have := (List.getElem?_eq_some_iff.1 hz).1
    simp at this; omega
  · refine ⟨_, cap, rfl, ⟨hcap, fun e => by cases e⟩, fun i z hz => ?_⟩
    rw [List.getElem?_map] at hz
    cases hp : P[i]? with
    | none => rw [hp] at hz; cases hz
    | some p =>
      rw [hp] at hz
      cases hz
      have hi := (List.getElem?_eq_some_iff.1 hp).1
      have a0 := hr.cellAt (i * 3 + 0) (by omega)
      have a1 := hr.cellAt (i * 3 + 1) (by omega)
      have a2 := hr.cellAt (i * 3 + 2) (by omega)
      rw [cellsR_at P i 0 (by decide), hp] at a0
      rw [cellsR_at P i 1 (by decide), hp] at a1
      rw [cellsR_at P i 2 (by decide), hp] at a2
      refine ⟨g, 0, p.2, rfl, by rw [Nat.zero_add]; exact a0, by rw [Nat.zero_add]; exact a1, by rw [Nat.zero_add]; exact a2, RowI.of_owns (h.inner p (List.mem_of_getElem? hp))⟩
theorem TwS.nil (B : Nat) (w : World) : TwS B w (.slice none 0 0) [] := ⟨World.ownsRow_nil w _ _ _, fun p h => by cases h⟩
theorem TwS.ne {B : Nat} {w : World} {v : Value} {P : List (Rl × Value)} (h : TwS B w v P) {p : Rl × Value} (hp : p ∈ P) {g : Nat} (hv : v.ownBlock = some g) : p.2.ownBlock ≠ some g := by
  intro e
  obtain ⟨c1, f1, h1⟩ := Go.Lib.ownsRow_kind (h.inner p hp) g e
  obtain ⟨c2, f2, h2⟩ := Go.Lib.ownsRow_kind h.row g hv
  rw [h1] at h2
  simp at h2
/-- Both kept by a world that changes nothing of the row's own. -/
theorem TwS.kept {B : Nat} {w w' : World} {v : Value} {P : List (Rl × Value)} (h : TwS B w v P) (hg : w.grownBy w' none) : TwS B w' v P :=
  ⟨h.row.kept hg (by cases hv : v.ownBlock with | none => exact .inl rfl | some b => exact .inr (by simp)), fun p hp => (h.inner p hp).kept hg (by cases hv : p.2.ownBlock with | none => exact .inl rfl | some b => exact .inr (by simp))⟩
theorem TwS.push {B : Nat} {w w' : World} {v v' : Value} {P : List (Rl × Value)} (h : TwS B w v P) (p : Rl × Value) (hp : w.ownsRow B 3 1 p.2 p.1.steps.length (cellsI p.1.steps)) (hne : ∀ g, v.ownBlock = some g → p.2.ownBlock ≠ some g) (hown : w'.ownsRow B 82 3 v' (P.length + 1) (cellsR P ++ rcells p)) (hg : w.grownBy w' v.ownBlock) : TwS B w' v' (P ++ [p]) := by
  have K : ∀ q : Rl × Value, (∀ g, v.ownBlock = some g → q.2.ownBlock ≠ some g) → w.ownsRow B 3 1 q.2 q.1.steps.length (cellsI q.1.steps) → w'.ownsRow B 3 1 q.2 q.1.steps.length (cellsI q.1.steps) := fun q hq ho => by
    refine ho.kept hg ?_
    cases hv : q.2.ownBlock with
    | none => exact .inl rfl
    | some b => exact .inr fun e => hq b e.symm hv
  refine ⟨?_, fun q hq => ?_⟩
  · rw [cellsR_app, List.length_append]
    simpa [cellsR] using hown
  · rcases List.mem_append.1 hq with hq | hq
    · exact K q (fun g hv => h.ne hq hv) (h.inner q hq)
    · rw [List.mem_singleton] at hq
      subst hq
      exact K _ hne hp
end Go.Proofs.YtahfobbiaimoiaaGreatDoor
namespace Go.Proofs.YtahfobbiaimoiaaGreatDoor
open Go.RowKit
set_option maxHeartbeats 400000 in
theorem stepsFit (n : Int) (w : World) :
    Calls Tryz.prog 145 #[.int .i64 n] w fun e w' => e = .returned (.bool (decide (0 ≤ n) && decide (n ≤ 12))) ∧ w' = w := by
  by_cases h0 : 0 ≤ n
  · go_enter Tryz.func145, Tryz.ntmps145
    go_wp2
    go_ret
    exact ⟨ret_bool (by simp [h0]), rfl⟩
  · have hd : decide (0 ≤ n) = false := by simpa using h0
    go_enter Tryz.func145, Tryz.ntmps145
    go_wp2
    go_ret
    exact ⟨ret_bool (by simp), rfl⟩
/-- ErrArg, or none. -/
def erC (b : Bool) : Int := cond b 0 1
theorem ret_er {a : Int} {b c : Bool} (h : b = c) (e : erC c = a) : Ending.returned (.int .i64 a) = .returned (.int .i64 (erC b)) := by rw [h, e]
theorem ris_drop {n lo : Int} {l : List Int} {c : Nat} {x : Int} (hx : l[c]? = some x) : ris n lo (l.drop c) = (decide (lo ≤ x) && decide (x < n) && ris n (x + 1) (l.drop (c + 1))) := by
  obtain ⟨hlt, rfl⟩ := List.getElem?_eq_some_iff.1 hx
  rw [← List.getElem_cons_drop hlt, ris]
set_option maxRecDepth 100000 in
set_option maxHeartbeats 1000000 in
theorem rising (l : List Int) (v : Value) (n : Int) (w : World) (hr : RowI w v l) (h0 : 0 ≤ n) (h12 : n ≤ 12) (hm : l.length ≤ 1000000000000) :
    Calls Tryz.prog 146 #[v, .int .i64 n] w fun e w' => e = .returned (.bool (ris n 0 l)) ∧ w' = w := by
  obtain ⟨oa, cap, rfl, _, hc⟩ := hr
  have hc' := hide' hc
  clear hc
  go_enter Tryz.func146, Tryz.ntmps146
  go_wp2
  go_loop [5, 7, 10] (fun lo _ k => ∃ (c : Nat) (z : Int), c ≤ l.length ∧ k = .int .i64 c ∧ lo = .int .i64 z ∧ 0 ≤ z ∧ z ≤ 12 ∧ Hid (ris n 0 l = ris n z (l.drop c))) (fun _ _ k => (l.length - intOf k).toNat)
  case atStart => exact ⟨0, 0, Nat.zero_le _, rfl, rfl, by omega, by omega, by show _ = _; rw [List.drop_zero]⟩
  case round =>
    obtain ⟨c, z, hcl, rfl, rfl, hz0, hz1, hE⟩ := hrel
    by_cases hlt : c < l.length
    · obtain ⟨x, hx⟩ : ∃ x, l[c]? = some x := ⟨_, List.getElem?_eq_getElem hlt⟩
      obtain ⟨g, o, rfl, cx⟩ := hc'.out c x hx
      have hD := hide' (ris_drop (n := n) (lo := z) hx)
      clear hx
      by_cases h1 : x < z
      · have hR : Hid (ris n 0 l = false) := by
          show _ = _
          rw [hE.out, hD.out, decide_eq_false (by omega : ¬ z ≤ x)]; rfl
        clear hE hD
        go_wp2
        go_ret
        exact ⟨ret_bool hR.out.symm, rfl⟩
      · have h1' : decide (x < z) = false := decide_eq_false h1
        by_cases h2 : n ≤ x
        · have hR : Hid (ris n 0 l = false) := by
            show _ = _
            rw [hE.out, hD.out, decide_eq_false (by omega : ¬ x < n)]; simp
          clear hE hD
          go_wp2
          go_ret
          exact ⟨ret_bool hR.out.symm, rfl⟩
        · have hN : Hid (ris n 0 l = ris n (x + 1) (l.drop (c + 1))) := by
            show _ = _
            rw [hE.out, hD.out, decide_eq_true (by omega : z ≤ x), decide_eq_true (by omega : x < n)]; rfl
          have hx0 : 0 ≤ x := by omega
          have hx1 : x < 12 := by omega
          clear hE hD
          go_wp2
          exact ⟨⟨c + 1, x + 1, by omega, by go_num, by go_num, by omega, by omega, hN⟩, by simp [intOf]; omega⟩
    · obtain rfl : c = l.length := by omega
      have hR : Hid (ris n 0 l = true) := by
        show _ = _
        rw [hE.out, List.drop_length]; rfl
      clear hE
      go_wp2
      go_ret
      exact ⟨ret_bool hR.out.symm, rfl⟩
set_option maxRecDepth 100000 in
set_option maxHeartbeats 2000000 in
theorem numberFits (a b : Int) (oa : Option Addr) (m cap : Nat) (hm : m ≤ 1000000000000) (w : World) :
    Calls Tryz.prog 147 #[.agg #[.int .i64 a, .int .i64 b, .slice oa m cap]] w fun e w' => e = .returned (.bool (numF a b m)) ∧ Below w.heap.size w w' := by
  have hB : Hid (Below w.heap.size w (w.alloc (.cells #[.int .i64 a, .int .i64 b, .slice oa m cap] 82))) := (Below.refl _ w).alloc (Nat.le_refl _) _
  by_cases h1 : a = 1 ∨ a = 2
  · by_cases hk : b = 0
    · subst hk
      have hR : Hid (numF a 0 m = decide ((2 : Int) ≤ (m : Int))) := by
        show _ = _
        unfold numF
        rw [if_pos h1]; simp; omega
      rcases h1 with rfl | rfl
      all_goals
        go_enter Tryz.func147, Tryz.ntmps147
        go_wp2
        go_ret
        exact ⟨ret_bool (by rw [hR.out]), hB.out⟩
    · have hk' : (b == 0) = false := by simpa using hk
      have hR : Hid (numF a b m = false) := by
        show _ = _
        unfold numF
        rw [if_pos h1]; simp [hk]
      clear hk
      rcases h1 with rfl | rfl
      all_goals
        go_enter Tryz.func147, Tryz.ntmps147
        go_wp2
        go_ret
        exact ⟨ret_bool (by rw [hR.out]), hB.out⟩
  · by_cases h3 : a = 3 ∨ a = 4
    · have hR : Hid (numF a b m = (decide (1 ≤ b) && decide (b ≤ 999999999) && decide (1 ≤ m))) := by
        show _ = _
        unfold numF
        rw [if_neg h1, if_pos h3]
      clear h1
      by_cases hk : 1 ≤ b
      · by_cases hk2 : b ≤ 999999999
        · have hR2 : Hid (numF a b m = decide ((1 : Int) ≤ (m : Int))) := by
            show _ = _
            rw [hR.out, decide_eq_true hk, decide_eq_true hk2]; simp; omega
          clear hR
          rcases h3 with rfl | rfl
          all_goals
            go_enter Tryz.func147, Tryz.ntmps147
            go_wp2
            go_ret
            exact ⟨ret_bool (by rw [hR2.out]), hB.out⟩
        · have hd : decide (b ≤ 999999999) = false := decide_eq_false hk2
          have hR2 : Hid (numF a b m = false) := by
            show _ = _
            rw [hR.out, hd]; simp
          clear hR hk2
          rcases h3 with rfl | rfl
          all_goals
            go_enter Tryz.func147, Tryz.ntmps147
            go_wp2
            go_ret
            exact ⟨ret_bool (by rw [hR2.out]), hB.out⟩
      · have hd : decide (1 ≤ b) = false := decide_eq_false hk
        have hR2 : Hid (numF a b m = false) := by
          show _ = _
          rw [hR.out, hd]; simp
        clear hR hk
        rcases h3 with rfl | rfl
        all_goals
          go_enter Tryz.func147, Tryz.ntmps147
          go_wp2
          go_ret
          exact ⟨ret_bool (by rw [hR2.out]), hB.out⟩
    · by_cases h5 : a = 5
      · have hR : Hid (numF a b m = (decide (1 ≤ b) && decide (b ≤ (m : Int)))) := by
          show _ = _
          unfold numF
          rw [if_neg h1, if_neg h3, if_pos h5]
        subst h5
        clear h1 h3
        by_cases hk : 1 ≤ b
        · have hR2 : Hid (numF 5 b m = decide (b ≤ (m : Int))) := by
            show _ = _
            rw [hR.out, decide_eq_true hk]; simp
          clear hR
          go_enter Tryz.func147, Tryz.ntmps147
          go_wp2
          go_ret
          exact ⟨ret_bool (by rw [hR2.out]), hB.out⟩
        · have hd : decide (1 ≤ b) = false := decide_eq_false hk
          have hR2 : Hid (numF 5 b m = false) := by
            show _ = _
            rw [hR.out, hd]; simp
          clear hR hk
          go_enter Tryz.func147, Tryz.ntmps147
          go_wp2
          go_ret
          exact ⟨ret_bool (by rw [hR2.out]), hB.out⟩
      · have hR : Hid (numF a b m = false) := by
          show _ = _
          unfold numF
          rw [if_neg h1, if_neg h3, if_neg h5]
        have e1 : (a == 1) = false := by simp; omega
        have e2 : (a == 2) = false := by simp; omega
        have e3 : (a == 3) = false := by simp; omega
        have e4 : (a == 4) = false := by simp; omega
        have e5 : (a == 5) = false := by simp; omega
        clear h1 h3 h5
        go_enter Tryz.func147, Tryz.ntmps147
        go_wp2
        go_ret
        exact ⟨ret_bool (by rw [hR.out]), hB.out⟩
set_option maxRecDepth 100000 in
set_option maxHeartbeats 2000000 in
theorem checkF (n : Int) (r : Rl) (sv : Value) (w : World) (hr : RowI w sv r.steps) (hm : r.steps.length ≤ 1000000000000) :
    Calls Tryz.prog 128 #[.int .i64 n, rv r sv] w fun e w' => e = .returned (.int .i64 (erC (chk n r))) ∧ Below w.heap.size w w' := by
  have K1 := hide' fun W => stepsFit n W
  have K2 : Hid (∀ W, Below w.heap.size w W → 0 ≤ n → n ≤ 12 → Calls Tryz.prog 146 #[sv, .int .i64 n] W fun e w' => e = .returned (.bool (ris n 0 r.steps)) ∧ w' = W) := fun W hW h0 h12 => rising r.steps sv n W (hr.below hW (Nat.le_refl _)) h0 h12 hm
  obtain ⟨oa, cap, rfl, _, _⟩ := hr
  have K3 := hide' fun W => numberFits r.kind r.k oa r.steps.length cap hm W
  unfold rv
  have hB : Hid (Below w.heap.size w (w.alloc (.cells #[.int .i64 r.kind, .int .i64 r.k, .slice oa r.steps.length cap] 82))) := (Below.refl _ w).alloc (Nat.le_refl _) _
  by_cases h1 : 0 ≤ n ∧ n ≤ 12
  · obtain ⟨h0, h12⟩ := h1
    have hs : (decide (0 ≤ n) && decide (n ≤ 12)) = true := by simp [h0, h12]
    rw [hs] at K1
    have hR : Hid (chk n r = (ris n 0 r.steps && numF r.kind r.k r.steps.length)) := by
      show _ = _
      unfold chk
      rw [hs]; rfl
    have K2' := hide' fun W hW => K2.out W hW h0 h12
    clear K2 hs
    cases h2 : ris n 0 r.steps with
    | false =>
      rw [h2] at K2' hR
      have hR' : Hid (chk n r = false) := hR.out
      clear hR K3 h2
      go_enter Tryz.func128, Tryz.ntmps128
      go_wp2_with (first | (go_at_call 145; refine (K1.out _).mono ?_; rintro e w1 ⟨rfl, rfl⟩) | (go_at_call 146; refine (K2'.out _ hB.out).mono ?_; rintro e w1 ⟨rfl, rfl⟩))
      go_ret
      exact ⟨ret_er hR'.out rfl, hB.out⟩
    | true =>
      rw [h2] at K2' hR
      cases h3 : numF r.kind r.k r.steps.length with
      | false =>
        rw [h3] at K3 hR
        have hR' : Hid (chk n r = false) := hR.out
        clear hR h2 h3
        go_enter Tryz.func128, Tryz.ntmps128
        go_wp2_with (first | (go_at_call 145; refine (K1.out _).mono ?_; rintro e w1 ⟨rfl, rfl⟩) | (go_at_call 146; refine (K2'.out _ hB.out).mono ?_; rintro e w1 ⟨rfl, rfl⟩) | (go_at_call 147; refine (K3.out _).mono ?_; rintro e w3 ⟨rfl, hb3⟩))
        go_ret
        exact ⟨ret_er hR'.out rfl, hB.out.trans (hb3.mono hB.out.size)⟩
      | true =>
        rw [h3] at K3 hR
        have hR' : Hid (chk n r = true) := hR.out
        clear hR h2 h3
        go_enter Tryz.func128, Tryz.ntmps128
        go_wp2_with (first | (go_at_call 145; refine (K1.out _).mono ?_; rintro e w1 ⟨rfl, rfl⟩) | (go_at_call 146; refine (K2'.out _ hB.out).mono ?_; rintro e w1 ⟨rfl, rfl⟩) | (go_at_call 147; refine (K3.out _).mono ?_; rintro e w3 ⟨rfl, hb3⟩))
        go_ret
        exact ⟨ret_er hR'.out rfl, hB.out.trans (hb3.mono hB.out.size)⟩
  · have hs : (decide (0 ≤ n) && decide (n ≤ 12)) = false := by simp; omega
    rw [hs] at K1
    have hR : Hid (chk n r = false) := by
      show _ = _
      unfold chk
      rw [hs]; rfl
    clear K2 K3 hs h1
    go_enter Tryz.func128, Tryz.ntmps128
    go_wp2_with (go_at_call 145; refine (K1.out _).mono ?_; rintro e w1 ⟨rfl, rfl⟩)
    go_ret
    exact ⟨ret_er hR.out rfl, hB.out⟩
end Go.Proofs.YtahfobbiaimoiaaGreatDoor

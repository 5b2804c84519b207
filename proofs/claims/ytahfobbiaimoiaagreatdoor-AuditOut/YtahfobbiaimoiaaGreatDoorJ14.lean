/- The document's Find. -/
import Derived.Test.YtahfobbiaimoiaaGreatDoorJ06
import Derived.Test.YtahfobbiaimoiaaGreatDoorJ10
import Derived.Lib.OwnKind
namespace Go.Proofs.YtahfobbiaimoiaaGreatDoor
open Go.RowKit
/-- A step as a value. -/
def spv (r : Sp) (sv : Value) : Value := .agg #[.string r.name, .string r.duty, sv]
def scells (p : Sp × Value) : List Value := [.string p.1.name, .string p.1.duty, p.2]
def cellsS (P : List (Sp × Value)) : List Value := P.flatMap scells
theorem cellsS_len (L : List (Sp × Value)) : (cellsS L).length = L.length * 3 := by
  induction L with
  | nil => rfl
  | cons a l ih => simp [cellsS, scells] at ih ⊢; omega
theorem cellsS_app (L M : List (Sp × Value)) : cellsS (L ++ M) = cellsS L ++ cellsS M := by simp [cellsS]
theorem cellsS_at : ∀ (L : List (Sp × Value)) (i j : Nat), j < 3 → (cellsS L)[i * 3 + j]? = L[i]?.bind fun t => (scells t)[j]?
  | [], i, j, _ => by simp [cellsS]
  | a :: l, 0, j, hj => by
    have e : cellsS (a :: l) = scells a ++ cellsS l := by simp [cellsS]
    rw [e, List.getElem?_append_left (by simpa [scells] using hj)]
    simp
  | a :: l, i + 1, j, hj => by
    have h := cellsS_at l i j hj
    have e : cellsS (a :: l) = scells a ++ cellsS l := by simp [cellsS]
    have hl : (scells a).length = 3 := rfl
    rw [e, List.getElem?_append_right (by rw [hl]; omega), hl, show (i + 1) * 3 + j - 3 = i * 3 + j by omega, List.getElem?_cons_succ]
    exact h
/-- A row of steps, wherever it lies. -/
def RowS (w : World) (v : Value) (L : List Sp) : Prop := ∃ oa cap, v = .slice oa L.length cap ∧ (L.length ≤ cap ∧ (oa = none → cap = 0)) ∧ ∀ i r, L[i]? = some r → ∃ g o sv, oa = some ⟨g, o, none⟩ ∧ w.cell? ⟨g, o + i * 3, none⟩ = some (.string r.name) ∧ w.cell? ⟨g, o + i * 3 + 1, none⟩ = some (.string r.duty) ∧ w.cell? ⟨g, o + i * 3 + 2, none⟩ = some sv ∧ RowI w sv r.after
theorem RowS.below {w w' : World} {v : Value} {l : List Sp} {n : Nat} (h : RowS w v l) (hb : Below n w w') (hn : w.heap.size ≤ n) : RowS w' v l := by
  obtain ⟨oa, cap, e, e0, h⟩ := h
  refine ⟨oa, cap, e, e0, fun i z hz => ?_⟩
  obtain ⟨g, o, sv, e1, e2, e3, e4, e5⟩ := h i z hz
  exact ⟨g, o, sv, e1, (hb.cell (p := ⟨g, o + i * 3, none⟩) (Nat.lt_of_lt_of_le (cell_lt e2) hn)).trans e2, (hb.cell (p := ⟨g, o + i * 3 + 1, none⟩) (Nat.lt_of_lt_of_le (cell_lt e3) hn)).trans e3, (hb.cell (p := ⟨g, o + i * 3 + 2, none⟩) (Nat.lt_of_lt_of_le (cell_lt e4) hn)).trans e4, e5.below hb hn⟩
/-- A row of steps, all in memory of its own. -/
structure TwP (B : Nat) (w : World) (v : Value) (P : List (Sp × Value)) : Prop where
  row : w.ownsRow B 95 3 v P.length (cellsS P)
  inner : ∀ p ∈ P, w.ownsRow B 3 1 p.2 p.1.after.length (cellsI p.1.after)
theorem TwP.rowS {B : Nat} {w : World} {v : Value} {P : List (Sp × Value)} (h : TwP B w v P) : RowS w v (P.map Prod.fst) := by
  have hr := h.row
  unfold RowS
  rw [List.length_map]
  rcases hr.2 with ⟨rfl, h0⟩ | ⟨g, cap, cur, rfl, _, _, hcap, _⟩
  · refine ⟨none, 0, by rw [h0], ⟨by omega, fun _ => rfl⟩, fun i z hz => ?_⟩
    have := (List.getElem?_eq_some_iff.1 hz).1
    simp at this; omega
  · refine ⟨_, cap, rfl, ⟨hcap, fun e => by cases e⟩, fun i z hz => ?_⟩
    rw [List.getElem?_map] at hz
    cases hp : P[i]? with
    | none => rw [hp] at hz; cases hz
    | some p =>
      rw [hp] at hz
      cases hz
      have hi := (List.getElem?_eq_some_iff.1 hp).1
      have a0 := hr.cellAt (i * 3 + 0) (by omega)
      have a1 := hr.cellAt (i * 3 + 1) (by omega)
      have a2 := hr.cellAt (i * 3 + 2) (by omega)
      rw [cellsS_at P i 0 (by decide), hp] at a0
      rw [cellsS_at P i 1 (by decide), hp] at a1
      rw [cellsS_at P i 2 (by decide), hp] at a2
      refine ⟨g, 0, p.2, rfl, by rw [Nat.zero_add]; exact a0, by rw [Nat.zero_add]; exact a1, by rw [Nat.zero_add]; exact a2, RowI.of_owns (h.inner p (List.mem_of_getElem? hp))⟩
theorem TwP.nil (B : Nat) (w : World) : TwP B w (.slice none 0 0) [] := ⟨World.ownsRow_nil w _ _ _, fun p h => by cases h⟩
theorem TwP.ne {B : Nat} {w : World} {v : Value} {P : List (Sp × Value)} (h : TwP B w v P) {p : Sp × Value} (hp : p ∈ P) {g : Nat} (hv : v.ownBlock = some g) : p.2.ownBlock ≠ some g := by
  intro e
  obtain ⟨c1, f1, h1⟩ := Go.Lib.ownsRow_kind (h.inner p hp) g e
  obtain ⟨c2, f2, h2⟩ := Go.Lib.ownsRow_kind h.row g hv
  rw [h1] at h2
  simp at h2
/-- Both kept by a world that changes nothing of the row's own. -/
theorem TwP.kept {B : Nat} {w w' : World} {v : Value} {P : List (Sp × Value)} (h : TwP B w v P) (hg : w.grownBy w' none) : TwP B w' v P :=
  ⟨h.row.kept hg (by cases hv : v.ownBlock with | none => exact .inl rfl | some b => exact .inr (by simp)), fun p hp => (h.inner p hp).kept hg (by cases hv : p.2.ownBlock with | none => exact .inl rfl | some b => exact .inr (by simp))⟩
theorem TwP.push {B : Nat} {w w' : World} {v v' : Value} {P : List (Sp × Value)} (h : TwP B w v P) (p : Sp × Value) (hp : w.ownsRow B 3 1 p.2 p.1.after.length (cellsI p.1.after)) (hne : ∀ g, v.ownBlock = some g → p.2.ownBlock ≠ some g) (hown : w'.ownsRow B 95 3 v' (P.length + 1) (cellsS P ++ scells p)) (hg : w.grownBy w' v.ownBlock) : TwP B w' v' (P ++ [p]) := by
  have K : ∀ q : Sp × Value, (∀ g, v.ownBlock = some g → q.2.ownBlock ≠ some g) → w.ownsRow B 3 1 q.2 q.1.after.length (cellsI q.1.after) → w'.ownsRow B 3 1 q.2 q.1.after.length (cellsI q.1.after) := fun q hq ho => by
    refine ho.kept hg ?_
    cases hv : q.2.ownBlock with
    | none => exact .inl rfl
    | some b => exact .inr fun e => hq b e.symm hv
  refine ⟨?_, fun q hq => ?_⟩
  · rw [cellsS_app, List.length_append]
    simpa [cellsS] using hown
  · rcases List.mem_append.1 hq with hq | hq
    · exact K q (fun g hv => h.ne hq hv) (h.inner q hq)
    · rw [List.mem_singleton] at hq
      subst hq
      exact K _ hne hp
set_option maxRecDepth 100000 in
set_option maxHeartbeats 1000000 in
theorem row7 (l : List Int) (v : Value) (w : World) (hr : RowI w v l) :
    Calls Tryz.prog 45 #[v] w fun e w' => ∃ v', e = .returned v' ∧ w'.ownsRow w.heap.size 3 1 v' (l.take 30).length (cellsI (l.take 30)) ∧ Below w.heap.size w w' := by
  obtain ⟨oa, cap, rfl, hcap, hc⟩ := hr
  obtain ⟨i0, hi, hz0, hz1, hz2⟩ := info_parts info3
  have hc' := hide' hc
  clear hc
  go_enter Tryz.func45, Tryz.ntmps45
  by_cases hlong : 30 < l.length
  · obtain ⟨ad, rfl⟩ : ∃ ad, oa = some ad := by
      cases oa with
      | none => have := hcap.2 rfl; omega
      | some ad => exact ⟨ad, rfl⟩
    obtain ⟨g, o, e, _⟩ := hc'.out 0 l[0] (List.getElem?_eq_getElem (by omega))
    cases e
    have hcap1 := hcap.1
    have hnews : ∀ j u, (cellsI (l.take 30))[j]? = some u → w.cell? (Addr.add ⟨g, o, none⟩ j) = some u := fun j u hu => by
      obtain ⟨z, hz, rfl⟩ := cellsI_at hu
      obtain ⟨hj, _⟩ := List.getElem?_eq_some_iff.1 hz
      rw [List.length_take] at hj
      rw [List.getElem?_take_of_lt (by omega)] at hz
      obtain ⟨g', o', e, hcell⟩ := hc'.out j z hz
      cases e
      rw [Addr.add_lit]; exact hcell
    clear hcap
    go_wp2_with (at_builtin; refine wpList_append_own _ rfl _ _ 53 rfl w.heap.size 3 i0 (.int .i64 0) 1 8 Tryz.underlying53 hi hz0 hz1 hz2 rfl (by decide) _ 0 (cellsI []) rfl (owns_zero w _) ⟨g, o, none⟩ 30 cap (cellsI (l.take 30)) rfl (by simp [cellsI]; omega) (fun j u hu => cell_new (hnews j u hu)) (one_cells _) (by unfold maxLen; omega) (by omega) (by simp) ?_; intro v1 w1 hown1 hgrow1 hnil)
    go_ret
    have hown : w1.ownsRow w.heap.size 3 1 v1 (0 + 30) (cellsI (l.take 30)) := hown1
    rw [show 0 + 30 = (l.take 30).length by rw [List.length_take]; omega] at hown
    exact ⟨_, rfl, hown, ((Below.refl _ w).alloc (Nat.le_refl _) _).grown hgrow1 (by simp) (fun j ej => by cases ej; exact Nat.le_refl _)⟩
  · have hle : l.length ≤ 30 := by omega
    rw [List.take_of_length_le hle]
    cases oa with
    | none =>
      obtain ⟨h1, h2⟩ := hcap
      have := h2 rfl
      subst this
      have : l = [] := List.eq_nil_of_length_eq_zero (by omega)
      subst this
      go_wp2_with (at_builtin; refine wpList_append_own_none rfl _ _ 53 rfl w.heap.size 3 i0 1 Tryz.underlying53 hi _ 0 (cellsI []) rfl (owns_zero w _) rfl ?_)
      go_ret
      exact ⟨_, rfl, owns_zero w _, (Below.refl _ w).alloc (Nat.le_refl _) _⟩
    | some ad =>
      have hnews : ∀ j u, (cellsI l)[j]? = some u → w.cell? (ad.add j) = some u := fun j u hu => by
        obtain ⟨z, hz, rfl⟩ := cellsI_at hu
        obtain ⟨g, o, e, hcell⟩ := hc'.out j z hz
        cases e
        rw [Addr.add_lit]; exact hcell
      clear hcap
      go_wp2_with (at_builtin; refine wpList_append_own _ rfl _ _ 53 rfl w.heap.size 3 i0 (.int .i64 0) 1 8 Tryz.underlying53 hi hz0 hz1 hz2 rfl (by decide) _ 0 (cellsI []) rfl (owns_zero w _) ad l.length cap (cellsI l) rfl (by simp [cellsI]) (fun j u hu => cell_new (hnews j u hu)) (one_cells _) (by unfold maxLen; omega) (by omega) (by simp) ?_; intro v1 w1 hown1 hgrow1 hnil)
      go_ret
      have hown : w1.ownsRow w.heap.size 3 1 v1 (0 + l.length) (cellsI l) := hown1
      rw [Nat.zero_add] at hown
      exact ⟨_, rfl, hown, ((Below.refl _ w).alloc (Nat.le_refl _) _).grown hgrow1 (by simp) (fun j ej => by cases ej; exact Nat.le_refl _)⟩
theorem row7F (l : List Int) (v : Value) (w : World) (hr : RowI w v l) :
    Calls Tryz.prog 45 #[v] w fun e w' => ∃ v', e = .returned v' ∧ RowI w' v' (l.take 30) ∧ Below w.heap.size w w' :=
  (row7 l v w hr).mono fun _ _ ⟨v', h1, h2, h3⟩ => ⟨v', h1, RowI.of_owns h2, h3⟩
end Go.Proofs.YtahfobbiaimoiaaGreatDoor
namespace Go.Proofs.YtahfobbiaimoiaaGreatDoor
open Go.RowKit
/-- A flow as a value. -/
def flV (w : World) (v : Value) (F : Fw) : Prop := ∃ sv rv, v = .agg #[.string F.name, sv, rv] ∧ RowS w sv F.steps ∧ RowR w rv F.rules
theorem flV.below {w w' : World} {v : Value} {F : Fw} {n : Nat} (h : flV w v F) (hb : Below n w w') (hn : w.heap.size ≤ n) : flV w' v F := by
  obtain ⟨sv, rv, e, h1, h2⟩ := h
  exact ⟨sv, rv, e, h1.below hb hn, h2.below hb hn⟩
theorem str_ne {a b : ByteArray} (h : a ≠ b) : (a.toList == b.toList) = false := by
  rw [beq_eq_false_iff_ne]
  intro e
  rw [ByteArray.toList_eq, ByteArray.toList_eq] at e
  refine h ?_
  cases a; cases b
  simp at e
  rw [e]
theorem al_snd (W : World) (o0 o1 : Obj) : ((W.alloc o0).alloc o1).heap[W.heap.size + 1]? = some o1 := by
  have := heap_alloc_new (W.alloc o0) o1
  simpa using this
theorem al_fst (W : World) (o0 o1 : Obj) : ((W.alloc o0).alloc o1).heap[W.heap.size]? = some o0 := by
  rw [((Below.refl _ (W.alloc o0)).alloc (Nat.le_refl _) o1).block W.heap.size (by simp)]
  exact heap_alloc_new W o0
theorem RowS.shape {w : World} {v : Value} {L : List Sp} (h : RowS w v L) : ∃ oa cap, v = .slice oa L.length cap := by
  obtain ⟨oa, cap, e, _⟩ := h
  exact ⟨oa, cap, e⟩
theorem RowR.shape {w : World} {v : Value} {L : List Rl} (h : RowR w v L) : ∃ oa cap, v = .slice oa L.length cap := by
  obtain ⟨oa, cap, e, _⟩ := h
  exact ⟨oa, cap, e⟩
set_option maxRecDepth 100000 in
set_option maxHeartbeats 2000000 in
theorem findF (L : List Sp) (sv : Value) (nm b : ByteArray) (orr : Option Addr) (lr cr : Nat) (w : World) (hr : RowS w sv L) (hl : L.length ≤ 1000) :
    Calls Tryz.prog 181 #[.agg #[.string nm, sv, .slice orr lr cr], .string b] w fun e w' => e = .returned (.int .i64 (fnd L b 0)) ∧ Below w.heap.size w w' := by
  obtain ⟨oa, cap, rfl, hcap, hc⟩ := hr
  have hc' := hide' hc
  have hF1 : Hid (∀ (n : Nat) (s : Sp), (∀ (i : Nat) (s : Sp), i < n → L[i]? = some s → s.name ≠ b) → L[n]? = some s → s.name = b → fnd L b 0 = n) := fun n s h1 h2 h3 => fnd_here h1 h2 h3
  have hF2 : Hid ((∀ (i : Nat) (s : Sp), i < L.length → L[i]? = some s → s.name ≠ b) → fnd L b 0 = -1) := fun h => fnd_none h
  clear hc hcap
  generalize fnd L b 0 = z at *
  go_enter Tryz.func181, Tryz.ntmps181
  go_wp2
  go_loopw [10] (fun k wr => ∃ (c : Nat), c ≤ L.length ∧ k = .int .i64 c ∧ Hid (∀ (i : Nat) (s : Sp), i < c → L[i]? = some s → s.name ≠ b) ∧ Hid (Below w.heap.size w wr)) (fun k _ => ((L.length : Int) - intOf k).toNat)
  case atStart => exact ⟨0, Nat.zero_le _, rfl, fun i s h => by omega, (Below.refl _ w).alloc (Nat.le_refl _) _⟩
  case round =>
    obtain ⟨c, hcl, rfl, hA, hB⟩ := hrel
    by_cases hlt : c < L.length
    · obtain ⟨s, hx⟩ : ∃ x, L[c]? = some x := ⟨_, List.getElem?_eq_getElem hlt⟩
      obtain ⟨g, o, av, rfl, c1', c2', c3', hs⟩ := hc'.out c s hx
      have c1 := (hB.out.cell (p := ⟨g, o + c * 3, none⟩) (cell_lt c1')).trans c1'
      have c2 := (hB.out.cell (p := ⟨g, o + c * 3 + 1, none⟩) (cell_lt c2')).trans c2'
      have c3 := (hB.out.cell (p := ⟨g, o + c * 3 + 2, none⟩) (cell_lt c3')).trans c3'
      obtain ⟨os, cs, rfl, _, _⟩ := hs
      have hN : Hid (s.name ≠ b → ∀ (i : Nat) (s : Sp), i < c + 1 → L[i]? = some s → s.name ≠ b) := fun hne i s' hi hs' => by
        by_cases e : i = c
        · subst e; rw [hx] at hs'; cases hs'; exact hne
        · exact hA.out i s' (by omega) hs'
      have hE : Hid (s.name = b → z = c) := fun e => hF1.out c s hA.out hx e
      clear hF1 hF2 hc' c1' c2' c3' hx hA
      generalize s.name = sn at *
      generalize s.duty = sd at *
      generalize s.after.length = q at *
      by_cases e : sn = b
      · have hz := hide' (hE.out e)
        clear hE hN
        subst e
        go_wp2
        go_ret
        exact ⟨by rw [hz.out]; rfl, hB.out.alloc hB.out.size _⟩
      · have hq := hide' (hN.out e)
        have he := str_ne e
        clear hE hN
        go_wp2
        exact ⟨⟨c + 1, by omega, by go_num, hq, hB.out.alloc hB.out.size _⟩, by simp [intOf]; omega⟩
    · obtain rfl : c = L.length := by omega
      have hz := hide' (hF2.out hA.out)
      clear hc' hF1 hF2 hA
      go_wp2
      go_ret
      exact ⟨by rw [hz.out]; rfl, hB.out⟩
end Go.Proofs.YtahfobbiaimoiaaGreatDoor
namespace Go.Proofs.YtahfobbiaimoiaaGreatDoor
open Go.RowKit
set_option maxRecDepth 100000 in
set_option maxHeartbeats 1000000 in
theorem risingF (l : List Int) (v : Value) (n : Int) (w : World) (hr : RowI w v l) (h0 : 0 ≤ n) (h12 : n ≤ 12) (hm : l.length ≤ 1000000000000) :
    Calls Tryz.prog 182 #[v, .int .i64 n] w fun e w' => e = .returned (.bool (ris n 0 l)) ∧ w' = w := by
  obtain ⟨oa, cap, rfl, _, hc⟩ := hr
  have hc' := hide' hc
  clear hc
  go_enter Tryz.func182, Tryz.ntmps182
  go_wp2
  go_loop [5, 7, 10] (fun lo _ k => ∃ (c : Nat) (z : Int), c ≤ l.length ∧ k = .int .i64 c ∧ lo = .int .i64 z ∧ 0 ≤ z ∧ z ≤ 12 ∧ Hid (ris n 0 l = ris n z (l.drop c))) (fun _ _ k => (l.length - intOf k).toNat)
  case atStart => exact ⟨0, 0, Nat.zero_le _, rfl, rfl, by omega, by omega, by show _ = _; rw [List.drop_zero]⟩
  case round =>
    obtain ⟨c, z, hcl, rfl, rfl, hz0, hz1, hE⟩ := hrel
    by_cases hlt : c < l.length
    · obtain ⟨x, hx⟩ : ∃ x, l[c]? = some x := ⟨_, List.getElem?_eq_getElem hlt⟩
      obtain ⟨g, o, rfl, cx⟩ := hc'.out c x hx
      have hD := hide' (ris_drop (n := n) (lo := z) hx)
      clear hx
      by_cases h1 : x < z
      · have hR : Hid (ris n 0 l = false) := by
          show _ = _
          rw [hE.out, hD.out, decide_eq_false (by omega : ¬ z ≤ x)]; rfl
        clear hE hD
        go_wp2
        go_ret
        exact ⟨ret_bool hR.out.symm, rfl⟩
      · have h1' : decide (x < z) = false := decide_eq_false h1
        by_cases h2 : n ≤ x
        · have hR : Hid (ris n 0 l = false) := by
            show _ = _
            rw [hE.out, hD.out, decide_eq_false (by omega : ¬ x < n)]; simp
          clear hE hD
          go_wp2
          go_ret
          exact ⟨ret_bool hR.out.symm, rfl⟩
        · have hN : Hid (ris n 0 l = ris n (x + 1) (l.drop (c + 1))) := by
            show _ = _
            rw [hE.out, hD.out, decide_eq_true (by omega : z ≤ x), decide_eq_true (by omega : x < n)]; rfl
          have hx0 : 0 ≤ x := by omega
          have hx1 : x < 12 := by omega
          clear hE hD
          go_wp2
          exact ⟨⟨c + 1, x + 1, by omega, by go_num, by go_num, by omega, by omega, hN⟩, by simp [intOf]; omega⟩
    · obtain rfl : c = l.length := by omega
      have hR : Hid (ris n 0 l = true) := by
        show _ = _
        rw [hE.out, List.drop_length]; rfl
      clear hE
      go_wp2
      go_ret
      exact ⟨ret_bool hR.out.symm, rfl⟩
end Go.Proofs.YtahfobbiaimoiaaGreatDoor
namespace Go.Proofs.YtahfobbiaimoiaaGreatDoor
open Go.RowKit
set_option maxRecDepth 100000 in
set_option maxHeartbeats 2000000 in
theorem rFindF (L : List Sp) (sv : Value) (nm b : ByteArray) (orr : Option Addr) (lr cr : Nat) (w : World) (hr : RowS w sv L) (hl : L.length ≤ 1000) :
    Calls Tryz.prog 80 #[.agg #[.string nm, sv, .slice orr lr cr], .string b] w fun e w' => e = .returned (.int .i64 (fnd L b 0)) ∧ Below w.heap.size w w' := by
  obtain ⟨oa, cap, rfl, hcap, hc⟩ := hr
  have hc' := hide' hc
  have hF1 : Hid (∀ (n : Nat) (s : Sp), (∀ (i : Nat) (s : Sp), i < n → L[i]? = some s → s.name ≠ b) → L[n]? = some s → s.name = b → fnd L b 0 = n) := fun n s h1 h2 h3 => fnd_here h1 h2 h3
  have hF2 : Hid ((∀ (i : Nat) (s : Sp), i < L.length → L[i]? = some s → s.name ≠ b) → fnd L b 0 = -1) := fun h => fnd_none h
  clear hc hcap
  generalize fnd L b 0 = z at *
  go_enter Tryz.func80, Tryz.ntmps80
  go_wp2
  have k1 : (w.alloc (.cells #[.string nm, .slice oa L.length cap, .slice orr lr cr] 25)).cell? ⟨w.heap.size, 1, none⟩ = some (.slice oa L.length cap) := by simp
  have hB : Hid (Below w.heap.size w (w.alloc (.cells #[.string nm, .slice oa L.length cap, .slice orr lr cr] 25))) := (Below.refl _ w).alloc (Nat.le_refl _) _
  generalize w.alloc (.cells #[.string nm, .slice oa L.length cap, .slice orr lr cr] 25) = W0 at *
  go_loopw [5] (fun k wr => ∃ (c : Nat), c ≤ L.length ∧ k = .int .i64 c ∧ Hid (∀ (i : Nat) (s : Sp), i < c → L[i]? = some s → s.name ≠ b) ∧ W0 = wr) (fun k _ => ((L.length : Int) - intOf k).toNat)
  case atStart => exact ⟨0, Nat.zero_le _, rfl, fun i s h => by omega, rfl⟩
  case round =>
    obtain ⟨c, hcl, rfl, hA, rfl⟩ := hrel
    by_cases hlt : c < L.length
    · obtain ⟨s, hx⟩ : ∃ x, L[c]? = some x := ⟨_, List.getElem?_eq_getElem hlt⟩
      obtain ⟨g, o, av, rfl, c1', c2', c3', hs⟩ := hc'.out c s hx
      have c1 := (hB.out.cell (p := ⟨g, o + c * 3, none⟩) (cell_lt c1')).trans c1'
      have hN : Hid (s.name ≠ b → ∀ (i : Nat) (s : Sp), i < c + 1 → L[i]? = some s → s.name ≠ b) := fun hne i s' hi hs' => by
        by_cases e : i = c
        · subst e; rw [hx] at hs'; cases hs'; exact hne
        · exact hA.out i s' (by omega) hs'
      have hE : Hid (s.name = b → z = c) := fun e => hF1.out c s hA.out hx e
      clear hF1 hF2 hc' c1' c2' c3' hx hA hs
      generalize s.name = sn at *
      by_cases e : sn = b
      · have hz := hide' (hE.out e)
        clear hE hN
        subst e
        go_wp2
        go_ret
        exact ⟨by rw [hz.out]; rfl, hB.out⟩
      · have hq := hide' (hN.out e)
        have he := str_ne e
        clear hE hN
        go_wp2
        exact ⟨⟨c + 1, by omega, by go_num, hq, trivial⟩, by simp [intOf]; omega⟩
    · obtain rfl : c = L.length := by omega
      have hz := hide' (hF2.out hA.out)
      clear hc' hF1 hF2 hA
      go_wp2
      go_ret
      exact ⟨by rw [hz.out]; rfl, hB.out⟩
end Go.Proofs.YtahfobbiaimoiaaGreatDoor

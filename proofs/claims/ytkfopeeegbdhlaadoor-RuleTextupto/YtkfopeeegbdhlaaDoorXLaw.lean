/- RuleText: it returns true. -/
import Derived.Test.YtkfopeeegbdhlaaDoorXRText
import Derived.Test.YtkfopeeegbdhlaaDoorRHold
import Derived.Test.YtkfopeeegbdhlaaDoorRTwin
import Derived.Test.YtkfopeeegbdhlaaDoorRRef
namespace Go.Proofs.YtkfopeeegbdhlaaDoor
open Go.RowKit Go.Shelf
theorem RowR.shapeT {w : World} {v : Value} {L : List Rl} (h : RowR w v L) : ∃ oa cap, v = .slice oa L.length cap := by
  obtain ⟨oa, cap, e, _⟩ := h
  exact ⟨oa, cap, e⟩
theorem RowI.shapeT {w : World} {v : Value} {L : List Int} (h : RowI w v L) : ∃ oa cap, v = .slice oa L.length cap := by
  obtain ⟨oa, cap, e, _⟩ := h
  exact ⟨oa, cap, e⟩
theorem twinT (L : List Rl) (v : Value) (w : World) (hr : RowR w v L) :
    Calls Tryd.prog 4 #[v] w fun e w' => ∃ ol cl, e = .returned (.slice ol (twin L).length cl) ∧ RowR w' (.slice ol (twin L).length cl) (twin L) ∧ Below w.heap.size w w' :=
  (twinF L v w hr).mono fun _ _ ⟨v', h1, ⟨P, h2, h3⟩, h4⟩ => by
    have h5 := h3.rowR
    rw [h2] at h5
    obtain ⟨oa, cap, e⟩ := h5.shapeT
    subst e
    exact ⟨oa, cap, h1, h5, h4⟩
/-- Rules in new memory, and names. -/
structure StT (w W : World) (ol : Option Addr) (cl : Nat) (L : List Rl) (on : Option Addr) (cn : Nat) (N : List ByteArray) : Prop where
  rl : RowR W (.slice ol L.length cl) L
  nr : RowN W (.slice on N.length cn) N
  bl : Below w.heap.size w W
  few : L.length ≤ 60
  low : ∀ r ∈ L, r.steps.length ≤ 30
  nfew : N.length ≤ 20
  nz : ∀ x ∈ N, x.size ≤ 1048576
theorem StT.over {w W W' : World} {ol : Option Addr} {cl : Nat} {L : List Rl} {on : Option Addr} {cn : Nat} {N : List ByteArray} (h : StT w W ol cl L on cn N) (hb : Below W.heap.size W W') : StT w W' ol cl L on cn N :=
  ⟨h.rl.below hb (Nat.le_refl _), h.nr.below hb (Nat.le_refl _), h.bl.trans (hb.mono h.bl.size), h.few, h.low, h.nfew, h.nz⟩
theorem StT.cells {w W : World} {ol : Option Addr} {cl : Nat} {L : List Rl} {on : Option Addr} {cn : Nat} {N : List ByteArray} (h : StT w W ol cl L on cn N) {c : Nat} {r : Rl} (hr : L[c]? = some r) : ∃ g o os cs, ol = some ⟨g, o, none⟩ ∧ (∀ V, Below W.heap.size W V → V.cell? ⟨g, o + c * 3, none⟩ = some (.int .i64 r.kind) ∧ V.cell? ⟨g, o + c * 3 + 1, none⟩ = some (.int .i64 r.k) ∧ V.cell? ⟨g, o + c * 3 + 2, none⟩ = some (.slice os r.steps.length cs)) ∧ ∀ V, Below W.heap.size W V → RowI V (.slice os r.steps.length cs) r.steps := by
  obtain ⟨oa, cap, e, _, hc⟩ := h.rl
  cases e
  obtain ⟨g, o, sv, e1, e2, e3, e4, e5⟩ := hc c r hr
  obtain ⟨os, cs, e6⟩ := e5.shapeT
  subst e6
  refine ⟨g, o, os, cs, e1, fun V hV => ⟨(hV.cell (p := ⟨g, o + c * 3, none⟩) (cell_lt e2)).trans e2, (hV.cell (p := ⟨g, o + c * 3 + 1, none⟩) (cell_lt e3)).trans e3, (hV.cell (p := ⟨g, o + c * 3 + 2, none⟩) (cell_lt e4)).trans e4⟩, fun V hV => e5.below hV (Nat.le_refl _)⟩
theorem cellsS_at {l : List ByteArray} {j : Nat} {u : Value} (h : (cellsS l)[j]? = some u) : ∃ z, l[j]? = some z ∧ u = .string z := by
  rw [cellsS, List.getElem?_map] at h
  cases hz : l[j]? with
  | none => rw [hz] at h; cases h
  | some z => rw [hz] at h; cases h; exact ⟨z, rfl, rfl⟩
theorem cellsS_one (l : List ByteArray) : ∀ u ∈ cellsS l, u.oneCell' = true := by
  intro u hu
  obtain ⟨z, _, rfl⟩ := List.mem_map.1 hu
  rfl
theorem RowN.of_owns {w : World} {b : Nat} {v : Value} {l : List ByteArray} (h : w.ownsRow b 9 1 v l.length (cellsS l)) : RowN w v l := by
  rcases h.2 with ⟨rfl, h0⟩ | ⟨g, cap, cur, rfl, _, _, hcap, _⟩
  · refine ⟨none, 0, by rw [h0], ⟨by omega, fun _ => rfl⟩, fun i z hz => ?_⟩
    have := (List.getElem?_eq_some_iff.1 hz).1
    omega
  · refine ⟨_, cap, rfl, ⟨hcap, fun e => by cases e⟩, fun i z hz => ⟨g, 0, rfl, ?_⟩⟩
    have hi := (List.getElem?_eq_some_iff.1 hz).1
    have a0 := h.cellAt i (by omega)
    rw [cellsS, List.getElem?_map, hz] at a0
    rw [Nat.zero_add]
    exact a0
theorem RowN.shape {w : World} {v : Value} {L : List ByteArray} (h : RowN w v L) : ∃ oa cap, v = .slice oa L.length cap := by
  obtain ⟨oa, cap, e, _⟩ := h
  exact ⟨oa, cap, e⟩
/-- The names of a row, in new memory. -/
theorem app_str {o : Oper} {a : Act} {K : Act → World → Prop} {Q : Exit → Act → World → Prop} (s x : Operand) (W : World) (oa : Option Addr) (cap : Nat) (l : List ByteArray) (ho : o.op = .call { callee := .builtin .append, args := #[s, x], argTypes := #[24, 24] })
    (es : a.eval s = .slice (some ⟨W.heap.size, 0, none⟩) 0 0) (ex : a.eval x = .slice oa l.length cap) (hr : RowN W (.slice oa l.length cap) l) (hn : l.length ≤ 1000000)
    (hK : ∀ o1 c1 w1, RowN w1 (.slice o1 l.length c1) l → Below W.heap.size W w1 → K (a.put o.dst (.slice o1 l.length c1)) w1) : o.wp Tryd.prog a (W.alloc (.cells #[] 9)) K Q := by
  obtain ⟨i0, hi, hz0, hz1, hz2⟩ := info_parts infoS
  have hown0 : (W.alloc (.cells #[] 9)).ownsRow W.heap.size 9 1 (.slice (some ⟨W.heap.size, 0, none⟩) 0 0) 0 (cellsS []) := owns_zero W _
  obtain ⟨oa', cap', e, hcap, hc⟩ := hr
  cases e
  cases oa with
  | none =>
    have := hcap.2 rfl
    subst this
    have : l = [] := List.eq_nil_of_length_eq_zero (by omega)
    subst this
    have hrun := run_append_owned_none (P := Tryd.prog) (w := W.alloc (.cells #[] 9)) W.heap.size 24 o.type 9 i0 1 Tryd.underlying24 hi _ 0 (cellsS []) hown0
    have ex' : a.eval x = .slice none 0 0 := ex
    unfold Oper.wp
    simp [execOp, ho, resolve, invoke, builtin, es, ex', hrun, Result.andThen]
    exact hK _ _ _ (RowN.of_owns (l := []) hown0) ((Below.refl _ W).alloc (Nat.le_refl _) _)
  | some ad =>
    have hnews : ∀ j u, (cellsS l)[j]? = some u → (W.alloc (.cells #[] 9)).cell? (ad.add j) = some u := fun j u hu => by
      obtain ⟨z, hz, rfl⟩ := cellsS_at hu
      obtain ⟨g, o, e, hcell⟩ := hc j z hz
      cases e
      rw [Addr.add_lit]; exact cell_new hcell
    refine wp_append_own _ s x 24 ho W.heap.size 9 i0 (.string ⟨#[]⟩) 1 16 Tryd.underlying24 hi hz0 hz1 hz2 rfl (by decide) _ 0 (cellsS []) es hown0 ad l.length cap (cellsS l) ex (by simp [cellsS]) hnews (cellsS_one _) (by unfold maxLen; omega) (by omega) (by simp) ?_
    intro v1 w1 hown1 hgrow1 _
    have hown : w1.ownsRow W.heap.size 9 1 v1 (0 + l.length) (cellsS l) := hown1
    rw [Nat.zero_add] at hown
    have hN := RowN.of_owns hown
    obtain ⟨o1, c1, rfl⟩ := hN.shape
    exact hK _ _ _ hN (((Below.refl _ W).alloc (Nat.le_refl _) _).grown hgrow1 (by simp) (fun j ej => by cases ej; exact Nat.le_refl _))
theorem rowN_take {w : World} {oa : Option Addr} {cap : Nat} {l : List ByteArray} (h : RowN w (.slice oa l.length cap) l) {n : Nat} (hn : n ≤ l.length) : RowN w (.slice oa n cap) (l.take n) := by
  obtain ⟨oa', cap', e, hcap, hc⟩ := h
  cases e
  refine ⟨oa, cap, by rw [List.length_take, Nat.min_eq_left hn], ⟨by rw [List.length_take]; omega, hcap.2⟩, fun i z hi => ?_⟩
  obtain ⟨hlt, _⟩ := List.getElem?_eq_some_iff.1 hi
  rw [List.length_take] at hlt
  rw [List.getElem?_take_of_lt (by omega)] at hi
  exact hc i z hi
theorem ItoaOk.over {w W : World} (h : ItoaOk w) (hb : Below w.heap.size w W) : ItoaOk W := fun V k hV => h V k (hb.trans (hV.mono hb.size))
set_option maxRecDepth 100000 in
set_option maxHeartbeats 8000000 in
theorem ruleText_walk (n : Int) (L0 : List Rl) (N0 : List ByteArray) (or : Option Addr) (cr : Nat) (oB : Option Addr) (lB cB : Nat) (on : Option Addr) (cn : Nat) (w : World) (hr : RowR w (.slice or L0.length cr) L0) (hn : RowN w (.slice on N0.length cn) N0) (hz : ∀ x ∈ N0, x.size ≤ 1048576) (hI0 : ItoaOk w) (hJ : JoinOk) (hD : DigOk) :
    Calls Tryd.prog 3 #[.agg #[.int .i64 n, .slice or L0.length cr, .slice oB lB cB, .slice on N0.length cn]] w fun e w' => e = .returned (.bool true) ∧ Below w.heap.size w w' := by
  have hI := hide' hI0
  have hB : Hid (Below w.heap.size w (w.alloc (.cells #[.int .i64 n, .slice or L0.length cr, .slice oB lB cB, .slice on N0.length cn] 26))) := (Below.refl _ w).alloc (Nat.le_refl _) _
  have C3 : Hid ((w.alloc (.cells #[.int .i64 n, .slice or L0.length cr, .slice oB lB cB, .slice on N0.length cn] 26)).cell? ⟨w.heap.size, 3, none⟩ = some (.slice on N0.length cn)) := by show _ = _; simp
  have K1 := hide' (twinT L0 _ _ (hr.below hB.out (Nat.le_refl _)))
  have K9 := hide' wakesR
  have hcn : N0.length ≤ cn ∧ (on = none → cn = 0) := by
    obtain ⟨_, _, e, h, _⟩ := hn
    cases e
    exact h
  clear hr hI0
  go_enter Tryd.func3, Tryd.ntmps3
  go_wp2_with fail
  refine K1.out.mono ?_
  rintro e w1 ⟨ol, cl, rfl, hr1, hb1⟩
  have x3 := cell_ov C3.out hb1
  have hB1 : Hid (Below w.heap.size w w1) := hB.out.trans (hb1.mono hB.out.size)
  have hr1' := hide' hr1
  have hn1 := hide' (hn.below hB1.out (Nat.le_refl _))
  clear K1 hr1 hb1 hB C3 hn
  by_cases hlong : 20 < N0.length
  · obtain ⟨ad, rfl⟩ : ∃ ad, on = some ad := by
      cases on with
      | none => have := hcn.2 rfl; omega
      | some ad => exact ⟨ad, rfl⟩
    have hlongI : (20 : Int) < (N0.length : Int) := by omega
    have hcn1 := hcn.1
    have h20 : 20 ≤ cn := by omega
    clear hcn
    have hS0 : Hid (StT w w1 ol cl (twin L0) (some ad) cn (N0.take 20)) := ⟨hr1'.out, by have := rowN_take hn1.out (n := 20) (by omega); rw [List.length_take, Nat.min_eq_left (by omega)]; exact this, hB1.out, twin_len L0, fun r h => twin_steps h, by rw [List.length_take]; omega, fun x hx => hz x (List.mem_of_mem_take hx)⟩
    have hnl : Hid ((N0.take 20).length = 20) := by show _ = _; rw [List.length_take]; omega
    clear hr1' hB1
    generalize twin L0 = L at *
    generalize N0.take 20 = N at *
    go_wp2
    go_loopw [5, 6, 7] (fun k _ _ wr => ∃ c : Nat, c ≤ L.length ∧ k = .int .i64 c ∧ Hid (StT w wr ol cl L (some ad) cn N)) (fun k _ _ _ => ((L.length : Int) - intOf k).toNat)
    case atStart => exact ⟨0, Nat.zero_le _, rfl, hS0⟩
    case round =>
      clear hS0
      obtain ⟨c, hcl, rfl, hS⟩ := hrel
      have hf := hS.out.few
      by_cases hlt : c < L.length
      · as_aux_lemma =>
        obtain ⟨r, hx⟩ : ∃ r, L[c]? = some r := ⟨_, List.getElem?_eq_getElem hlt⟩
        obtain ⟨g, o, os, cs, rfl, hC, hV⟩ := hS.out.cells hx
        have hC' := hide' hC
        have hm := hS.out.low r (List.mem_of_getElem? hx)
        have hnf := hS.out.nfew
        have KD : Hid (∀ V, Below wr.heap.size wr V → Calls Tryd.prog 6 #[.int .i64 (20 : Int), .agg #[.int .i64 r.kind, .int .i64 r.k, .slice os r.steps.length cs]] V fun e w' => e = .returned (.bool (chk N.length r)) ∧ Below V.heap.size V w') := fun V h1 => by
          have h := rCheck (N.length : Int) r _ V (hV V h1) (by omega)
          rwa [hnl.out] at h ⊢
        have KT : Hid (∀ V o1 c1, Below wr.heap.size wr V → RowN V (.slice o1 N.length c1) N → Calls Tryd.prog 5 #[.agg #[.int .i64 r.kind, .int .i64 r.k, .slice os r.steps.length cs], .slice o1 N.length c1] V fun e w' => e = .returned (.tuple #[.string (if chk N.length r then ⟨(txtL N r).toArray⟩ else ⟨#[]⟩), .int .i64 (erC (chk N.length r))]) ∧ Below V.heap.size V w') := fun V o1 c1 h1 h2 => textF r _ _ N V (hV V h1) h2 (by omega) hS.out.nz (hI.out.over (hS.out.bl.trans (h1.mono hS.out.bl.size))) hJ
        have KR : Hid (∀ V, Below wr.heap.size wr V → chk N.length r = true → Calls Tryd.prog 7 #[.agg #[.int .i64 r.kind, .int .i64 r.k, .slice os r.steps.length cs], .slice (some ad) 20 cn] V fun e w' => e = .returned (.string ⟨(txtL N r).toArray⟩) ∧ Below V.heap.size V w') := fun V h1 h2 => by
          have h := rTextF r _ _ N V (hV V h1) (hS.out.nr.below h1 (Nat.le_refl _)) h2 hS.out.nz hD
          rwa [hnl.out] at h
        have hnr : Hid (RowN wr.drew (.slice (some ad) N.length cn) N) := hS.out.nr.below ((Below.refl wr.heap.size wr).drew) (Nat.le_refl _)
        have hd : Hid (Below wr.heap.size wr wr.drew) := (Below.refl _ _).drew
        have hda : Hid (∀ o, Below wr.heap.size wr (wr.drew.alloc o)) := fun o => (Below.refl _ _).drew.alloc (Nat.le_refl _) _
        have hSn : Hid (∀ V, Below wr.heap.size wr V → Hid (StT w V (some ⟨g, o, none⟩) cl L (some ad) cn N)) := fun V hV => hS.out.over hV
        clear hC hV hx K9 hS
        generalize r.steps.length = q at *
        generalize r.kind = kd at *
        generalize r.k = kk at *
        cases hck : chk N.length r with
        | true =>
          have KR' := hide' fun V h1 => KR.out V h1 hck
          rw [hck] at KD KT
          generalize (⟨(txtL N r).toArray⟩ : ByteArray) = tx at *
          have KT' : Hid (∀ V o1 c1, Below wr.heap.size wr V → RowN V (.slice o1 N.length c1) N → Calls Tryd.prog 5 #[.agg #[.int .i64 kd, .int .i64 kk, .slice os q cs], .slice o1 N.length c1] V fun e w' => e = .returned (.tuple #[.string tx, .int .i64 0]) ∧ Below V.heap.size V w') := KT
          clear KT KR hck
          go_wp2_with fail
          go_region_held3 (fun V => V.cell? ⟨g, o + c * 3, none⟩ = some (.int .i64 kd) ∧ V.cell? ⟨g, o + c * 3 + 1, none⟩ = some (.int .i64 kk) ∧ V.cell? ⟨g, o + c * 3 + 2, none⟩ = some (.slice os q cs)) (first | (exact hC'.out _ hd.out) | (exact hC'.out _ (hda.out _)) | (exact hC'.out _ h0.out) | (exact hC'.out _ h1.out)) (first | (rw [if_pos (by rfl)]; refine app_str (.tmp 29) (.tmp 30) wr.drew (some ad) cn N rfl rfl (by rw [hnl.out]; rfl) hnr.out (by omega) ?_; intro o1 c1 w2 hrN hb; have h0 : Hid (Below wr.heap.size wr w2) := hd.out.trans hb; have hrN' := hide' hrN; clear hb hrN) | (go_at_call 5; refine (KT'.out _ _ _ h0.out hrN'.out).mono ?_; rintro e w3 ⟨rfl, hb⟩; have h1 : Hid (Below wr.heap.size wr w3) := h0.out.trans (hb.mono h0.out.size); clear hb))
          all_goals
            obtain ⟨p0, p1, p2⟩ := hC'.out _ h1.out
            go_wp2_with (first | (go_at_call 6; refine (KD.out _ h1.out).mono ?_; rintro e w4 ⟨rfl, hb⟩; have h4 : Hid (Below wr.heap.size wr w4) := h1.out.trans (hb.mono h1.out.size); clear hb; obtain ⟨e0, e1, e2⟩ := hC'.out _ h4.out) | (go_at_call 7; refine (KR'.out _ h4.out).mono ?_; rintro e w5 ⟨rfl, hb⟩; have h5 : Hid (Below wr.heap.size wr w5) := h4.out.trans (hb.mono h4.out.size); clear hb))
            exact ⟨⟨c + 1, by omega, by go_num, hSn.out _ h5.out⟩, by simp [intOf]; omega⟩
        | false =>
          rw [hck] at KD KT
          have KT' : Hid (∀ V o1 c1, Below wr.heap.size wr V → RowN V (.slice o1 N.length c1) N → Calls Tryd.prog 5 #[.agg #[.int .i64 kd, .int .i64 kk, .slice os q cs], .slice o1 N.length c1] V fun e w' => e = .returned (.tuple #[.string ⟨#[]⟩, .int .i64 1]) ∧ Below V.heap.size V w') := KT
          clear KT KR hck
          go_wp2_with fail
          go_region_held3 (fun V => V.cell? ⟨g, o + c * 3, none⟩ = some (.int .i64 kd) ∧ V.cell? ⟨g, o + c * 3 + 1, none⟩ = some (.int .i64 kk) ∧ V.cell? ⟨g, o + c * 3 + 2, none⟩ = some (.slice os q cs)) (first | (exact hC'.out _ hd.out) | (exact hC'.out _ (hda.out _)) | (exact hC'.out _ h0.out) | (exact hC'.out _ h1.out)) (first | (rw [if_pos (by rfl)]; refine app_str (.tmp 29) (.tmp 30) wr.drew (some ad) cn N rfl rfl (by rw [hnl.out]; rfl) hnr.out (by omega) ?_; intro o1 c1 w2 hrN hb; have h0 : Hid (Below wr.heap.size wr w2) := hd.out.trans hb; have hrN' := hide' hrN; clear hb hrN) | (go_at_call 5; refine (KT'.out _ _ _ h0.out hrN'.out).mono ?_; rintro e w3 ⟨rfl, hb⟩; have h1 : Hid (Below wr.heap.size wr w3) := h0.out.trans (hb.mono h0.out.size); clear hb))
          all_goals
            obtain ⟨p0, p1, p2⟩ := hC'.out _ h1.out
            go_wp2_with (first | (go_at_call 6; refine (KD.out _ h1.out).mono ?_; rintro e w4 ⟨rfl, hb⟩; have h4 : Hid (Below wr.heap.size wr w4) := h1.out.trans (hb.mono h1.out.size); clear hb; obtain ⟨e0, e1, e2⟩ := hC'.out _ h4.out))
            exact ⟨⟨c + 1, by omega, by go_num, hSn.out _ h4.out⟩, by simp [intOf]; omega⟩
      · obtain rfl : c = L.length := by omega
        have K9' := hide' (K9.out wr)
        have hB9 := hS.out.bl
        clear K9 hS
        go_wp2_with (first | (go_at_call 8; refine K9'.out.mono ?_; rintro e w9 ⟨rfl, hb9⟩))
        go_ret
        exact ⟨rfl, hB9.trans (hb9.mono hB9.size)⟩
  · have hlongI : ¬ (20 : Int) < (N0.length : Int) := by omega
    have hlongD : decide ((20 : Int) < (N0.length : Int)) = false := decide_eq_false hlongI
    have hS0 : Hid (StT w w1 ol cl (twin L0) on cn N0) := ⟨hr1'.out, hn1.out, hB1.out, twin_len L0, fun r h => twin_steps h, by omega, hz⟩
    clear hr1' hB1
    generalize twin L0 = L at *
    generalize N0 = N at *
    go_wp2
    go_loopw [5, 6, 7] (fun k _ _ wr => ∃ c : Nat, c ≤ L.length ∧ k = .int .i64 c ∧ Hid (StT w wr ol cl L on cn N)) (fun k _ _ _ => ((L.length : Int) - intOf k).toNat)
    case atStart => exact ⟨0, Nat.zero_le _, rfl, hS0⟩
    case round =>
      clear hS0
      obtain ⟨c, hcl, rfl, hS⟩ := hrel
      have hf := hS.out.few
      by_cases hlt : c < L.length
      · as_aux_lemma =>
        obtain ⟨r, hx⟩ : ∃ r, L[c]? = some r := ⟨_, List.getElem?_eq_getElem hlt⟩
        obtain ⟨g, o, os, cs, rfl, hC, hV⟩ := hS.out.cells hx
        have hC' := hide' hC
        have hm := hS.out.low r (List.mem_of_getElem? hx)
        have hnf := hS.out.nfew
        have KD : Hid (∀ V, Below wr.heap.size wr V → Calls Tryd.prog 6 #[.int .i64 ((N.length : Nat) : Int), .agg #[.int .i64 r.kind, .int .i64 r.k, .slice os r.steps.length cs]] V fun e w' => e = .returned (.bool (chk N.length r)) ∧ Below V.heap.size V w') := fun V h1 => by
          have h := rCheck (N.length : Int) r _ V (hV V h1) (by omega)
          exact h
        have KT : Hid (∀ V o1 c1, Below wr.heap.size wr V → RowN V (.slice o1 N.length c1) N → Calls Tryd.prog 5 #[.agg #[.int .i64 r.kind, .int .i64 r.k, .slice os r.steps.length cs], .slice o1 N.length c1] V fun e w' => e = .returned (.tuple #[.string (if chk N.length r then ⟨(txtL N r).toArray⟩ else ⟨#[]⟩), .int .i64 (erC (chk N.length r))]) ∧ Below V.heap.size V w') := fun V o1 c1 h1 h2 => textF r _ _ N V (hV V h1) h2 (by omega) hS.out.nz (hI.out.over (hS.out.bl.trans (h1.mono hS.out.bl.size))) hJ
        have KR : Hid (∀ V, Below wr.heap.size wr V → chk N.length r = true → Calls Tryd.prog 7 #[.agg #[.int .i64 r.kind, .int .i64 r.k, .slice os r.steps.length cs], .slice on N.length cn] V fun e w' => e = .returned (.string ⟨(txtL N r).toArray⟩) ∧ Below V.heap.size V w') := fun V h1 h2 => by
          have h := rTextF r _ _ N V (hV V h1) (hS.out.nr.below h1 (Nat.le_refl _)) h2 hS.out.nz hD
          exact h
        have hnr : Hid (RowN wr.drew (.slice on N.length cn) N) := hS.out.nr.below ((Below.refl wr.heap.size wr).drew) (Nat.le_refl _)
        have hd : Hid (Below wr.heap.size wr wr.drew) := (Below.refl _ _).drew
        have hda : Hid (∀ o, Below wr.heap.size wr (wr.drew.alloc o)) := fun o => (Below.refl _ _).drew.alloc (Nat.le_refl _) _
        have hSn : Hid (∀ V, Below wr.heap.size wr V → Hid (StT w V (some ⟨g, o, none⟩) cl L on cn N)) := fun V hV => hS.out.over hV
        clear hC hV hx K9 hS
        generalize r.steps.length = q at *
        generalize r.kind = kd at *
        generalize r.k = kk at *
        cases hck : chk N.length r with
        | true =>
          have KR' := hide' fun V h1 => KR.out V h1 hck
          rw [hck] at KD KT
          generalize (⟨(txtL N r).toArray⟩ : ByteArray) = tx at *
          have KT' : Hid (∀ V o1 c1, Below wr.heap.size wr V → RowN V (.slice o1 N.length c1) N → Calls Tryd.prog 5 #[.agg #[.int .i64 kd, .int .i64 kk, .slice os q cs], .slice o1 N.length c1] V fun e w' => e = .returned (.tuple #[.string tx, .int .i64 0]) ∧ Below V.heap.size V w') := KT
          clear KT KR hck
          go_wp2_with fail
          go_region_held3 (fun V => V.cell? ⟨g, o + c * 3, none⟩ = some (.int .i64 kd) ∧ V.cell? ⟨g, o + c * 3 + 1, none⟩ = some (.int .i64 kk) ∧ V.cell? ⟨g, o + c * 3 + 2, none⟩ = some (.slice os q cs)) (first | (exact hC'.out _ hd.out) | (exact hC'.out _ (hda.out _)) | (exact hC'.out _ h0.out) | (exact hC'.out _ h1.out)) (first | (rw [if_pos (by rfl)]; refine app_str (.tmp 29) (.tmp 30) wr.drew on cn N rfl rfl rfl hnr.out (by omega) ?_; intro o1 c1 w2 hrN hb; have h0 : Hid (Below wr.heap.size wr w2) := hd.out.trans hb; have hrN' := hide' hrN; clear hb hrN) | (go_at_call 5; refine (KT'.out _ _ _ h0.out hrN'.out).mono ?_; rintro e w3 ⟨rfl, hb⟩; have h1 : Hid (Below wr.heap.size wr w3) := h0.out.trans (hb.mono h0.out.size); clear hb))
          all_goals
            obtain ⟨p0, p1, p2⟩ := hC'.out _ h1.out
            go_wp2_with (first | (go_at_call 6; refine (KD.out _ h1.out).mono ?_; rintro e w4 ⟨rfl, hb⟩; have h4 : Hid (Below wr.heap.size wr w4) := h1.out.trans (hb.mono h1.out.size); clear hb; obtain ⟨e0, e1, e2⟩ := hC'.out _ h4.out) | (go_at_call 7; refine (KR'.out _ h4.out).mono ?_; rintro e w5 ⟨rfl, hb⟩; have h5 : Hid (Below wr.heap.size wr w5) := h4.out.trans (hb.mono h4.out.size); clear hb))
            exact ⟨⟨c + 1, by omega, by go_num, hSn.out _ h5.out⟩, by simp [intOf]; omega⟩
        | false =>
          rw [hck] at KD KT
          have KT' : Hid (∀ V o1 c1, Below wr.heap.size wr V → RowN V (.slice o1 N.length c1) N → Calls Tryd.prog 5 #[.agg #[.int .i64 kd, .int .i64 kk, .slice os q cs], .slice o1 N.length c1] V fun e w' => e = .returned (.tuple #[.string ⟨#[]⟩, .int .i64 1]) ∧ Below V.heap.size V w') := KT
          clear KT KR hck
          go_wp2_with fail
          go_region_held3 (fun V => V.cell? ⟨g, o + c * 3, none⟩ = some (.int .i64 kd) ∧ V.cell? ⟨g, o + c * 3 + 1, none⟩ = some (.int .i64 kk) ∧ V.cell? ⟨g, o + c * 3 + 2, none⟩ = some (.slice os q cs)) (first | (exact hC'.out _ hd.out) | (exact hC'.out _ (hda.out _)) | (exact hC'.out _ h0.out) | (exact hC'.out _ h1.out)) (first | (rw [if_pos (by rfl)]; refine app_str (.tmp 29) (.tmp 30) wr.drew on cn N rfl rfl rfl hnr.out (by omega) ?_; intro o1 c1 w2 hrN hb; have h0 : Hid (Below wr.heap.size wr w2) := hd.out.trans hb; have hrN' := hide' hrN; clear hb hrN) | (go_at_call 5; refine (KT'.out _ _ _ h0.out hrN'.out).mono ?_; rintro e w3 ⟨rfl, hb⟩; have h1 : Hid (Below wr.heap.size wr w3) := h0.out.trans (hb.mono h0.out.size); clear hb))
          all_goals
            obtain ⟨p0, p1, p2⟩ := hC'.out _ h1.out
            go_wp2_with (first | (go_at_call 6; refine (KD.out _ h1.out).mono ?_; rintro e w4 ⟨rfl, hb⟩; have h4 : Hid (Below wr.heap.size wr w4) := h1.out.trans (hb.mono h1.out.size); clear hb; obtain ⟨e0, e1, e2⟩ := hC'.out _ h4.out))
            exact ⟨⟨c + 1, by omega, by go_num, hSn.out _ h4.out⟩, by simp [intOf]; omega⟩
      · obtain rfl : c = L.length := by omega
        have K9' := hide' (K9.out wr)
        have hB9 := hS.out.bl
        clear K9 hS
        go_wp2_with (first | (go_at_call 8; refine K9'.out.mono ?_; rintro e w9 ⟨rfl, hb9⟩))
        go_ret
        exact ⟨rfl, hB9.trans (hb9.mono hB9.size)⟩
end Go.Proofs.YtkfopeeegbdhlaaDoor

/- audit.Replay. -/
import Derived.Test.YtahfobbiaimoiaaGreatDoorJ29
import Derived.Test.YtahfobbiaimoiaaGreatDoorJ36
import Derived.Test.YtahfobbiaimoiaaGreatDoorJ42
import Derived.Deep.CutRange
import Derived.Deep.RegionHeld3
namespace Go.Proofs.YtahfobbiaimoiaaGreatDoor
open Go.RowKit
/-- The cells of a log's events, at all worlds behind. -/
theorem evCells {w : World} {v : Value} {L : List Ev} (h : EvQ w v L) : ∃ ol cl, v = .slice ol L.length cl ∧ L.length ≤ cl ∧ Hid (∀ V, Below w.heap.size w V → ∀ i e, L[i]? = some e → ∃ g f, ol = some ⟨g, f, none⟩ ∧ V.cell? ⟨g, f + i * 4, none⟩ = some (.int .i64 e.tick) ∧ V.cell? ⟨g, f + i * 4 + 1, none⟩ = some (.int .i64 e.kind) ∧ V.cell? ⟨g, f + i * 4 + 2, none⟩ = some (.int .i64 e.step) ∧ V.cell? ⟨g, f + i * 4 + 3, none⟩ = some (.int .i64 e.user)) := by
  have h0 := h
  obtain ⟨ol, cl, rfl, hcl, _⟩ := h
  refine ⟨ol, cl, rfl, hcl.1, fun V hV i e he => ?_⟩
  obtain ⟨_, _, e1, _, h1⟩ := h0.over hV
  injection e1 with e1 _ _
  subst e1
  exact h1 i e he
set_option maxRecDepth 100000 in
set_option maxHeartbeats 2000000 in
theorem orderP (L : List Ev) (v : Value) (w : World) (h : EvQ w v L) (hn : L.length ≤ 1000) :
    Calls Tryz.prog 31 #[v] w fun e w' => ∃ v', e = .returned v' ∧ w'.ownsRow w.heap.size 3 1 v' (odN L L.length).length (cellsI (odN L L.length)) ∧ Below w.heap.size w w' := by
  obtain ⟨ol, cl, rfl, hcl, hC⟩ := evCells h
  clear h
  go_enter Tryz.func31, Tryz.ntmps31
  go_wp2
  go_loopw [3, 5, 8] (fun lv _ k wr => ∃ (c n : Nat) (o : Option Addr) (cp : Nat), c ≤ L.length ∧ n ≤ c ∧ k = .int .i64 c ∧ lv = .slice o n cp ∧ Hid (n = (odN L c).length) ∧ Hid (wr.ownsRow w.heap.size 3 1 (.slice o n cp) n (cellsI (odN L c))) ∧ Hid (Below w.heap.size w wr)) (fun _ _ k _ => ((L.length : Int) - intOf k).toNat)
  case atStart => exact ⟨0, 0, none, 0, Nat.zero_le _, Nat.le_refl _, rfl, rfl, rfl, World.ownsRow_nil _ _ _ _, Below.refl _ _⟩
  case round =>
    obtain ⟨c, n, o, cp, hc, hnc, rfl, rfl, hln, hO, hB⟩ := hrel
    by_cases hlt : c < L.length
    · as_aux_lemma =>
      obtain ⟨e, hx⟩ : ∃ x, L[c]? = some x := ⟨_, List.getElem?_eq_getElem hlt⟩
      obtain ⟨g1, f1, rfl, a0, a1, a2, a3⟩ := hC.out wr hB.out c e hx
      obtain ⟨x0, x1, x2, x3⟩ := bx4 (heap_alloc_new wr (.cells #[.int .i64 e.tick, .int .i64 e.kind, .int .i64 e.step, .int .i64 e.user] 76))
      have hB1 := hide' (hB.out.alloc hB.out.size (.cells #[.int .i64 e.tick, .int .i64 e.kind, .int .i64 e.step, .int .i64 e.user] 76))
      have hO1 := hide' (hO.out.alloc (.cells #[.int .i64 e.tick, .int .i64 e.kind, .int .i64 e.step, .int .i64 e.user] 76))
      have hN := hide' (odN_next hx)
      clear hC hx hB hO
      by_cases hk : e.kind = 3
      · have hq : Hid (cellsI (odN L c) ++ [.int .i64 e.step] = cellsI (odN L (c + 1)) ∧ n + 1 = (odN L (c + 1)).length) := by
          have h1 := hN.out
          rw [if_pos hk] at h1
          show _ ∧ _
          rw [h1, cellsI_app1, List.length_append, ← hln.out]
          exact ⟨rfl, rfl⟩
        rw [hk] at a1 x1 hB1 hO1
        clear hN
        generalize e.tick = s0 at *
        generalize e.step = s2 at *
        generalize e.user = s3 at *
        go_wp2_with (at_builtin; refine app1L elI rfl (.tmp 15) (.tmp 18) rfl w.heap.size _ (.slice o n cp) n (cellsI (odN L c)) [.int .i64 s2] rfl (congrArg (fun n => Value.slice (some ⟨n, 0, none⟩) 1 1) (World.size_alloc _ _).symm) hO1.out rfl (by simp [Value.oneCell']) hB1.out.size (by omega) ?_; intro g cap w2 hown hgr hnw; have hO2 := hide' hown; have hG := hide' hgr; clear hown hgr hnw)
        rw [hq.out.1] at hO2
        have hl2 := hide' hq.out.2
        have hB2 := hide' (hB1.out.grown hG.out hB1.out.size (fun _ e => own_ge' hO1.out e))
        exact ⟨⟨c + 1, n + 1, _, _, by omega, by omega, by go_num, rfl, hl2, hO2, hB2⟩, by simp [intOf]; omega⟩
      · have hk' : (e.kind == 3) = false := by rw [beq_eq_false_iff_ne]; exact hk
        have hq : Hid (odN L (c + 1) = odN L c) := by
          show _ = _
          rw [hN.out, if_neg hk]
        rw [← hq.out] at hO1 hln
        clear hN
        generalize e.tick = s0 at *
        generalize e.kind = s1 at *
        generalize e.step = s2 at *
        generalize e.user = s3 at *
        go_wp2
        exact ⟨⟨c + 1, n, _, _, by omega, by omega, by go_num, rfl, hln, hO1, hB1⟩, by simp [intOf]; omega⟩
    · obtain rfl : c = L.length := by omega
      have hF : Hid (wr.ownsRow w.heap.size 3 1 (.slice o n cp) (odN L L.length).length (cellsI (odN L L.length))) := by
        have := hO.out
        rwa [hln.out] at this ⊢
      clear hC hO
      go_wp2
      go_ret
      exact ⟨_, rfl, hF.out, hB.out⟩
set_option maxRecDepth 100000 in
set_option maxHeartbeats 2000000 in
theorem orderQ (L : List Ev) (v : Value) (w : World) (h : EvQ w v L) (hn : L.length ≤ 1000) :
    Calls Tryz.prog 32 #[v] w fun e w' => ∃ v', e = .returned v' ∧ w'.ownsRow w.heap.size 3 1 v' (odN L L.length).length (cellsI (odN L L.length)) ∧ Below w.heap.size w w' := by
  obtain ⟨ol, cl, rfl, hcl, hC⟩ := evCells h
  clear h
  go_enter Tryz.func32, Tryz.ntmps32
  go_wp2
  go_loopw [3, 4] (fun lv k wr => ∃ (c n : Nat) (o : Option Addr) (cp : Nat), c ≤ L.length ∧ n ≤ c ∧ k = .int .i64 c ∧ lv = .slice o n cp ∧ Hid (n = (odN L c).length) ∧ Hid (wr.ownsRow w.heap.size 3 1 (.slice o n cp) n (cellsI (odN L c))) ∧ Hid (Below w.heap.size w wr)) (fun _ k _ => ((L.length : Int) - intOf k).toNat)
  case atStart => exact ⟨0, 0, none, 0, Nat.zero_le _, Nat.le_refl _, rfl, rfl, rfl, World.ownsRow_nil _ _ _ _, Below.refl _ _⟩
  case round =>
    obtain ⟨c, n, o, cp, hc, hnc, rfl, rfl, hln, hO, hB⟩ := hrel
    by_cases hlt : c < L.length
    · as_aux_lemma =>
      obtain ⟨e, hx⟩ : ∃ x, L[c]? = some x := ⟨_, List.getElem?_eq_getElem hlt⟩
      obtain ⟨g1, f1, rfl, a0, a1, a2, a3⟩ := hC.out wr hB.out c e hx
      have hN := hide' (odN_next hx)
      clear hC hx
      by_cases hk : e.kind = 3
      · have hq : Hid (cellsI (odN L c) ++ [.int .i64 e.step] = cellsI (odN L (c + 1)) ∧ n + 1 = (odN L (c + 1)).length) := by
          have h1 := hN.out
          rw [if_pos hk] at h1
          show _ ∧ _
          rw [h1, cellsI_app1, List.length_append, ← hln.out]
          exact ⟨rfl, rfl⟩
        rw [hk] at a1
        clear hN
        generalize e.tick = s0 at *
        generalize e.step = s2 at *
        generalize e.user = s3 at *
        go_wp2_with (at_builtin; refine app1L elI rfl (.tmp 17) (.tmp 23) rfl w.heap.size wr (.slice o n cp) n (cellsI (odN L c)) [.int .i64 s2] rfl rfl hO.out rfl (by simp [Value.oneCell']) hB.out.size (by omega) ?_; intro g cap w2 hown hgr hnw; have hO2 := hide' hown; have hG := hide' hgr; clear hown hgr hnw)
        rw [hq.out.1] at hO2
        have hl2 := hide' hq.out.2
        have hB2 := hide' (hB.out.grown hG.out hB.out.size (fun _ e => own_ge' hO.out e))
        exact ⟨⟨c + 1, n + 1, _, _, by omega, by omega, by go_num, rfl, hl2, hO2, hB2⟩, by simp [intOf]; omega⟩
      · have hk' : (e.kind == 3) = false := by rw [beq_eq_false_iff_ne]; exact hk
        have hq : Hid (odN L (c + 1) = odN L c) := by
          show _ = _
          rw [hN.out, if_neg hk]
        rw [← hq.out] at hO hln
        clear hN
        generalize e.tick = s0 at *
        generalize e.kind = s1 at *
        generalize e.step = s2 at *
        generalize e.user = s3 at *
        go_wp2
        exact ⟨⟨c + 1, n, _, _, by omega, by omega, by go_num, rfl, hln, hO, hB⟩, by simp [intOf]; omega⟩
    · obtain rfl : c = L.length := by omega
      have hF : Hid (wr.ownsRow w.heap.size 3 1 (.slice o n cp) (odN L L.length).length (cellsI (odN L L.length))) := by
        have := hO.out
        rwa [hln.out] at this ⊢
      clear hC hO
      go_wp2
      go_ret
      exact ⟨_, rfl, hF.out, hB.out⟩
def TkP (L : List Ev) (w : World) (e : Ending) (w' : World) : Prop := ∃ b : Bool, e = .returned (.bool b) ∧ (b = true ↔ tkOk L) ∧ Below w.heap.size w w'
set_option maxRecDepth 100000 in
set_option maxHeartbeats 2000000 in
theorem tickingP (L : List Ev) (v : Value) (w : World) (h : EvQ w v L) (hn : L.length ≤ 1000) :
    Calls Tryz.prog 63 #[v] w (TkP L w) := by
  obtain ⟨ol, cl, rfl, hcl, hC⟩ := evCells h
  clear h
  have hQ : Hid (∀ b w', (b = true ↔ tkOk L) → Below w.heap.size w w' → TkP L w (.returned (.bool b)) w') := fun b w' h1 h2 => ⟨b, rfl, h1, h2⟩
  generalize TkP L w = QQ at *
  go_enter Tryz.func63, Tryz.ntmps63
  go_wp2
  go_loopw [3, 5, 8] (fun lv _ k wr => ∃ (c : Nat), c ≤ L.length ∧ k = .int .i64 c ∧ lv = .int .i64 (lstT L c) ∧ Hid (∀ i e, i < c → L[i]? = some e → lstT L i ≤ e.tick ∧ e.tick ≤ 999999999) ∧ Hid (Below w.heap.size w wr)) (fun _ _ k _ => ((L.length : Int) - intOf k).toNat)
  case atStart => exact ⟨0, Nat.zero_le _, rfl, rfl, fun i e h => absurd h (Nat.not_lt_zero _), Below.refl _ _⟩
  case round =>
    obtain ⟨c, hc, rfl, rfl, hT, hB⟩ := hrel
    by_cases hlt : c < L.length
    · as_aux_lemma =>
      obtain ⟨e, hx⟩ : ∃ x, L[c]? = some x := ⟨_, List.getElem?_eq_getElem hlt⟩
      obtain ⟨g1, f1, rfl, a0, a1, a2, a3⟩ := hC.out wr hB.out c e hx
      obtain ⟨x0, x1, x2, x3⟩ := bx4 (heap_alloc_new wr (.cells #[.int .i64 e.tick, .int .i64 e.kind, .int .i64 e.step, .int .i64 e.user] 76))
      have hB1 := hide' (hB.out.alloc hB.out.size (.cells #[.int .i64 e.tick, .int .i64 e.kind, .int .i64 e.step, .int .i64 e.user] 76))
      have hN := hide' (lstT_next hx)
      have hNo : Hid (¬ (lstT L c ≤ e.tick ∧ e.tick ≤ 999999999) → ¬ tkOk L) := fun h k => h (k c e hx)
      have hYes : Hid (lstT L c ≤ e.tick → e.tick ≤ 999999999 → ∀ i e, i < c + 1 → L[i]? = some e → lstT L i ≤ e.tick ∧ e.tick ≤ 999999999) := fun h1 h2 i e' hi he => by
        by_cases hic : i < c
        · exact hT.out i e' hic he
        · obtain rfl : i = c := by omega
          rw [hx] at he; cases he
          exact ⟨h1, h2⟩
      clear hC hx hB hT
      generalize lstT L c = lt at *
      generalize e.tick = s0 at *
      generalize e.kind = s1 at *
      generalize e.step = s2 at *
      generalize e.user = s3 at *
      by_cases h1 : s0 < lt
      · have hF : Hid (¬ tkOk L) := hNo.out fun h => by omega
        have hE := hide' (hQ.out false _ ⟨fun h => (by cases h), fun h => absurd h hF.out⟩ hB1.out)
        clear hNo hYes hN
        go_wp2
        exact hE.out
      · by_cases h2 : 999999999 < s0
        · have hF : Hid (¬ tkOk L) := hNo.out fun h => by omega
          have hE := hide' (hQ.out false _ ⟨fun h => (by cases h), fun h => absurd h hF.out⟩ hB1.out)
          clear hNo hYes hN
          go_wp2
          exact hE.out
        · have hT := hide' (hYes.out (by omega) (by omega))
          clear hNo hYes
          go_wp2
          exact ⟨⟨c + 1, by omega, by go_num, by rw [hN.out], hT, hB1⟩, by simp [intOf]; omega⟩
    · obtain rfl : c = L.length := by omega
      have hF : Hid (tkOk L) := fun i e he => hT.out i e (List.getElem?_eq_some_iff.1 he).1 he
      have hE := hide' (hQ.out true _ ⟨fun _ => hF.out, fun _ => rfl⟩ hB.out)
      clear hC hT
      go_wp2
      exact hE.out
end Go.Proofs.YtahfobbiaimoiaaGreatDoor
namespace Go.Proofs.YtahfobbiaimoiaaGreatDoor
open Go.RowKit
def ofN (P : List Int) (c : Nat) : Nat := ((P.take c).map fun x => P.count x).foldl max 0
theorem ofN_next {P : List Int} {c : Nat} {x : Int} (h : P[c]? = some x) : ofN P (c + 1) = max (ofN P c) (P.count x) := by
  unfold ofN
  rw [List.take_add_one, h]
  simp
theorem ofN_all (P : List Int) : ofN P P.length = mst P := by unfold ofN mst; rw [List.take_length]
theorem ofN_le (P : List Int) (c : Nat) : ofN P c ≤ P.length := by
  unfold ofN
  rw [foldl_max]
  refine ⟨Nat.zero_le _, fun x hx => ?_⟩
  obtain ⟨y, _, rfl⟩ := List.mem_map.1 hx
  exact List.count_le_length
theorem cnt_next {P : List Int} {d : Nat} {y : Int} (h : P[d]? = some y) (x : Int) : (P.take (d + 1)).count x = (P.take d).count x + if y = x then 1 else 0 := by
  rw [List.take_add_one, h, List.count_append]
  by_cases e : y = x
  · subst e; simp
  · simp [e]
theorem unl_next {P : List Int} {c : Nat} {x : Int} (h : P[c]? = some x) : unl (P.take (c + 1)) = unl (P.take c) + if x ∈ P.take c then 0 else 1 := by
  rw [List.take_add_one, h]
  exact unl_snoc _ _
theorem mem_next {P : List Int} {d c : Nat} {y : Int} (h : P[d]? = some y) (x : Int) : (x ∈ P.take (min (d + 1) c)) ↔ (x ∈ P.take (min d c) ∨ (d < c ∧ y = x)) := by
  by_cases hd : d < c
  · rw [Nat.min_eq_left (by omega), Nat.min_eq_left (by omega), List.take_add_one, h]
    simp [hd, eq_comm]
  · rw [Nat.min_eq_right (by omega), Nat.min_eq_right (by omega)]
    simp [hd]
def GnP (b : Bool) (w : World) (e : Ending) (w' : World) : Prop := e = .returned (.bool b) ∧ Below w.heap.size w w'
set_option maxRecDepth 100000 in
set_option maxHeartbeats 4000000 in
theorem goneD (r : Rl) (sv cv : Value) (P : List Int) (o : Nat) (w : World) (hP : RowI w cv P) (hl : P.length ≤ 1000) (ho : o ≤ 1000) :
    Calls Tryz.prog 62 #[.agg #[.int .i64 r.kind, .int .i64 r.k, sv], cv, .int .i64 (o : Int)] w (GnP (!means r.kind r.k P o) w) := by
  have hP0 := hide' (fun V (hV : Below w.heap.size w V) => hP.below hV (Nat.le_refl _))
  obtain ⟨oc, cc, rfl, hcc, _⟩ := hP
  have hC : Hid (∀ V, Below w.heap.size w V → ∀ i z, P[i]? = some z → ∃ g f, oc = some ⟨g, f, none⟩ ∧ V.cell? ⟨g, f + i, none⟩ = some (.int .i64 z)) := fun V hV i z hz => by
    obtain ⟨_, _, e, _, h⟩ := hP0.out V hV
    injection e with e _ _
    subst e
    exact h i z hz
  have hQ : Hid (∀ b : Bool, b = (if r.kind = 1 then decide ((unl P : Int) < (P.length : Int)) else if r.kind = 2 then decide ((1 : Int) < (unl P : Int)) else if r.kind = 3 then decide (r.k < (mst P : Int)) else if r.kind = 4 then decide (r.k < (unl P : Int)) else decide ((unl P : Int) + (o : Int) < r.k)) → ∀ w', Below w.heap.size w w' → GnP (!means r.kind r.k P o) w (.returned (.bool b)) w') := fun b hb w' h => ⟨by rw [hb, gone_eq], h⟩
  generalize GnP (!means r.kind r.k P o) w = QQ at *
  have hB0 : Hid (Below w.heap.size w (w.alloc (.cells #[.int .i64 r.kind, .int .i64 r.k, sv] 82))) := (Below.refl _ w).alloc (Nat.le_refl _) _
  have hbx : Hid (∀ V, Below (w.alloc (.cells #[.int .i64 r.kind, .int .i64 r.k, sv] 82)).heap.size (w.alloc (.cells #[.int .i64 r.kind, .int .i64 r.k, sv] 82)) V → V.cell? ⟨w.heap.size, 0, none⟩ = some (.int .i64 r.kind) ∧ V.cell? ⟨w.heap.size, 1, none⟩ = some (.int .i64 r.k)) := fun V hV => by
    have h := bx3 ((hV.block w.heap.size (by simp)).trans (heap_alloc_new w (.cells #[.int .i64 r.kind, .int .i64 r.k, sv] 82)))
    exact ⟨h.1, h.2.1⟩
  have hcc1 := hcc.1
  clear hP0 hcc
  go_enter Tryz.func62, Tryz.ntmps62
  go_wp2
  generalize w.alloc (.cells #[.int .i64 r.kind, .int .i64 r.k, sv] 82) = W1 at *
  generalize r.kind = kd at *
  generalize r.k = kk at *
  go_loopw [7, 8, 9, 10, 11, 12] (fun u f i _ _ _ wr => ∃ c : Nat, c ≤ P.length ∧ i = .int .i64 c ∧ u = .int .i64 ((unl (P.take c) : Nat) : Int) ∧ f = .int .i64 ((ofN P c : Nat) : Int) ∧ Hid (Below W1.heap.size W1 wr)) (fun _ _ i _ _ _ _ => ((P.length : Int) - intOf i).toNat)
  case atStart => exact ⟨0, Nat.zero_le _, rfl, rfl, rfl, Below.refl _ _⟩
  case round =>
    obtain ⟨c, hc, rfl, rfl, rfl, hB⟩ := hrel
    have hun : unl (P.take c) ≤ 1000 := Nat.le_trans (unl_le _) (by rw [List.length_take]; omega)
    have hof : ofN P c ≤ 1000 := Nat.le_trans (ofN_le P c) hl
    by_cases hlt : c < P.length
    · as_aux_lemma =>
      obtain ⟨x, hx⟩ : ∃ x, P[c]? = some x := ⟨_, List.getElem?_eq_getElem hlt⟩
      have hU := hide' (unl_next hx)
      have hO := hide' (ofN_next hx)
      have hcx : P.count x ≤ 1000 := Nat.le_trans List.count_le_length hl
      generalize unl (P.take c) = u0 at *
      generalize ofN P c = f0 at *
      go_wp2
      go_loopw [10, 11, 12] (fun ff t k wr2 => ∃ d : Nat, d ≤ P.length ∧ k = .int .i64 d ∧ ff = .int .i64 (if x ∈ P.take (min d c) then 0 else 1) ∧ t = .int .i64 (((P.take d).count x : Nat) : Int) ∧ Hid (Below W1.heap.size W1 wr2)) (fun _ _ k _ => ((P.length : Int) - intOf k).toNat)
      case atStart => exact ⟨0, Nat.zero_le _, rfl, by simp, by simp, hB⟩
      case round =>
        clear hB
        obtain ⟨d, hd, rfl, rfl, rfl, hB⟩ := hrel
        have hct : (P.take d).count x ≤ 1000 := Nat.le_trans List.count_le_length (by rw [List.length_take]; omega)
        by_cases hlt2 : d < P.length
        · as_aux_lemma =>
          obtain ⟨y, hy⟩ : ∃ x, P[d]? = some x := ⟨_, List.getElem?_eq_getElem hlt2⟩
          obtain ⟨g1, q1, rfl, a0⟩ := hC.out wr (hB0.out.trans (hB.out.mono hB0.out.size)) c x hx
          obtain ⟨_, _, e1, b0⟩ := hC.out wr (hB0.out.trans (hB.out.mono hB0.out.size)) d y hy
          cases e1
          have hCn := hide' (cnt_next hy x)
          have hMn := hide' (mem_next (c := c) hy x)
          have hz : Hid ((y = x ∧ d < c → (if x ∈ P.take (min (d + 1) c) then (0 : Int) else 1) = 0) ∧ (¬ (d < c ∧ y = x) → (if x ∈ P.take (min (d + 1) c) then (0 : Int) else 1) = if x ∈ P.take (min d c) then (0 : Int) else 1)) := by
            refine ⟨fun h => if_pos (hMn.out.2 (.inr ⟨h.2, h.1⟩)), fun h => ?_⟩
            by_cases hm : x ∈ P.take (min d c)
            · rw [if_pos hm, if_pos (hMn.out.2 (.inl hm))]
            · rw [if_neg hm, if_neg (fun e => by rcases hMn.out.1 e with e | e; exact hm e; exact h e)]
          clear hC hbx hQ hU hO hx hy hMn
          generalize (P.take d).count x = t0 at *
          generalize (if x ∈ P.take (min d c) then (0 : Int) else 1) = zf at *
          by_cases hyx : y = x
          · subst hyx
            have ht1 : Hid ((P.take (d + 1)).count y = t0 + 1) := by have := hCn.out; rw [if_pos rfl] at this; exact this
            by_cases hdc : d < c
            · have hdc' : (d : Int) < (c : Int) := by omega
              have hg := hide' (hz.out.1 ⟨rfl, hdc⟩)
              clear hCn hz
              go_wp2
              go_quiet (fail)
              go_wp2
              exact ⟨⟨d + 1, by omega, by go_num, by rw [hg.out], by rw [ht1.out]; go_num, below_drewR hB.out _⟩, by simp [intOf]; omega⟩
            · have hdc' : ¬ (d : Int) < (c : Int) := by omega
              have hg := hide' (hz.out.2 (fun h => hdc h.1))
              clear hCn hz
              go_wp2
              go_quiet (fail)
              go_wp2
              exact ⟨⟨d + 1, by omega, by go_num, by rw [hg.out], by rw [ht1.out]; go_num, below_drewR hB.out _⟩, by simp [intOf]; omega⟩
          · have hyx' : (y == x) = false := by rw [beq_eq_false_iff_ne]; exact hyx
            have ht1 : Hid ((P.take (d + 1)).count x = t0) := by have := hCn.out; rw [if_neg hyx] at this; exact this
            have hg := hide' (hz.out.2 (fun h => hyx h.2))
            clear hCn hz
            go_wp2
            go_quiet (fail)
            go_wp2
            exact ⟨⟨d + 1, by omega, by go_num, by rw [hg.out], by rw [ht1.out], below_drewR hB.out _⟩, by simp [intOf]; omega⟩
        · obtain rfl : d = P.length := by omega
          rw [Nat.min_eq_right (by omega), List.take_length]
          rw [List.take_length] at hct
          clear hC hbx hQ hct
          have hzu : Hid (((unl (P.take (c + 1)) : Nat) : Int) = (u0 : Int) + (if x ∈ P.take c then (0 : Int) else 1)) := by
            have h := hU.out
            show _ = _
            rw [h]
            split <;> simp
          clear hU hx
          have hz2 : ∃ zf : Nat, zf ≤ 1 ∧ (if x ∈ P.take c then (0 : Int) else 1) = zf := by
            by_cases h : x ∈ P.take c
            · exact ⟨0, by omega, by rw [if_pos h]; rfl⟩
            · exact ⟨1, by omega, by rw [if_neg h]; rfl⟩
          obtain ⟨zf, hz1, hz2⟩ := hz2
          rw [hz2] at hzu ⊢
          clear hz2
          generalize P.count x = nx at *
          by_cases hgt : f0 < nx
          · have hgt' : (f0 : Int) < (nx : Int) := by omega
            have ho1 : Hid (ofN P (c + 1) = nx) := by have := hO.out; show _ = _; omega
            clear hO
            go_wp2
            exact ⟨⟨c + 1, by omega, by go_num, by rw [hzu.out], by rw [ho1.out], hB⟩, by simp [intOf]; omega⟩
          · have hgt' : ¬ (f0 : Int) < (nx : Int) := by omega
            have ho1 : Hid (ofN P (c + 1) = f0) := by have := hO.out; show _ = _; omega
            clear hO
            go_wp2
            exact ⟨⟨c + 1, by omega, by go_num, by rw [hzu.out], by rw [ho1.out], hB⟩, by simp [intOf]; omega⟩
    · obtain rfl : c = P.length := by omega
      rw [List.take_length] at hun
      rw [ofN_all] at hof
      have hE := hide' (fun (b : Bool) h => hQ.out b h wr (hB0.out.trans (hB.out.mono hB0.out.size)))
      obtain ⟨y0, y1⟩ := hbx.out wr hB.out
      rw [List.take_length, ofN_all]
      clear hQ hC hbx hB
      generalize unl P = u0 at *
      generalize mst P = f0 at *
      generalize P.length = n at *
      by_cases k1 : kd = 1
      · subst k1
        go_wp2
        exact hE.out _ (by simp)
      have n1 : (kd == 1) = false := by rw [beq_eq_false_iff_ne]; exact k1
      by_cases k2 : kd = 2
      · subst k2
        go_wp2
        exact hE.out _ (by simp)
      have n2 : (kd == 2) = false := by rw [beq_eq_false_iff_ne]; exact k2
      by_cases k3 : kd = 3
      · subst k3
        go_wp2
        exact hE.out _ (by simp)
      have n3 : (kd == 3) = false := by rw [beq_eq_false_iff_ne]; exact k3
      by_cases k4 : kd = 4
      · subst k4
        go_wp2
        exact hE.out _ (by simp)
      have n4 : (kd == 4) = false := by rw [beq_eq_false_iff_ne]; exact k4
      rw [if_neg k1, if_neg k2, if_neg k3, if_neg k4] at hE
      clear k1 k2 k3 k4
      go_wp2
      exact hE.out _ rfl
end Go.Proofs.YtahfobbiaimoiaaGreatDoor
namespace Go.Proofs.YtahfobbiaimoiaaGreatDoor
open Go.RowKit
/-- What a run reads lies behind a world. -/
def OgX (w V0 : World) (go gp gs : Nat) (sv rv : Value) (P1 : List (Sp × Value)) (P2 : List (Rl × Value)) : Prop := Below w.heap.size w V0 ∧ (w.heap.size ≤ go ∧ w.heap.size ≤ gp ∧ w.heap.size ≤ gs ∧ TwP w.heap.size V0 sv P1 ∧ TwS w.heap.size V0 rv P2)
/-- What New answers, in one form. -/
def NwX (F : Fw) (tick : Int) (w : World) (pa : Option Addr) (W : World) : Prop :=
  (pa = none ∧ chkF F ≠ 0) ∨ (FlOk F ∧ chkF F = 0 ∧ ∃ V0 gr gt sv rv go gp gs ct Pf Sf P1 P2 lv, pa = some ⟨gr, 0, none⟩ ∧ OgX w V0 go gp gs sv rv P1 P2 ∧ RnX V0 F gr gt sv rv go gp gs ct Pf Sf P1 P2 lv (newR F.steps.length tick) W)
theorem NewP.oneX {F : Fw} {tick : Int} {w w' : World} {e : Ending} (h : NewP F tick w e w') : ∃ pa, e = .returned (.tuple #[.pointer pa, .int .i64 (chkF F)]) ∧ Below w.heap.size w w' ∧ NwX F tick w pa w' := by
  rcases h with ⟨h0, rfl, hb⟩ | ⟨ok, V0, gr, gt, sv, rv, go, gp, gs, ct, Pf, Sf, P1, P2, lv, rfl, hbV, hog, hX⟩
  · exact ⟨none, rfl, hb, .inl ⟨rfl, h0⟩⟩
  · exact ⟨_, by rw [chkF_ok ok], hbV.trans (hX.bl.mono hbV.size), .inr ⟨ok, chkF_ok ok, V0, gr, gt, sv, rv, go, gp, gs, ct, Pf, Sf, P1, P2, lv, rfl, ⟨hbV, hog⟩, hX⟩⟩
/-- What Replay answers. -/
def RpP (F : Fw) (L : List Ev) (w : World) (e : Ending) (w' : World) : Prop :=
  ∃ pa z, e = .returned (.tuple #[.pointer pa, .int .i64 z]) ∧ Below w.heap.size w w' ∧
    ((chkF F ≠ 0 ∧ pa = none ∧ z = chkF F) ∨ (FlOk F ∧ ∃ V0 gr gt sv rv go gp gs ct Pf Sf P1 P2 lv wN, (Below w.heap.size w wN ∧ OgX wN V0 go gp gs sv rv P1 P2) ∧ RnX V0 F gr gt sv rv go gp gs ct Pf Sf P1 P2 lv (rpR Pf (newR F.steps.length (ftk L)) L) w' ∧
      (((rpR Pf (newR F.steps.length (ftk L)) L).log = L ∧ pa = some ⟨gr, 0, none⟩ ∧ z = 0) ∨ ((rpR Pf (newR F.steps.length (ftk L)) L).log ≠ L ∧ pa = none ∧ z = 3))))
theorem rpR_ne (Pf : Nat → Nat) (n : Nat) (t : Int) (l : List Ev) : (rpR Pf (newR n t) l).log ≠ [] := fun e => by
  have := rpR_pre Pf l (newR n t) (i := 0) (x := ⟨t, 1, -1, -1⟩) rfl
  rw [e] at this
  cases this
set_option maxRecDepth 100000 in
set_option maxHeartbeats 4000000 in
theorem replayF (F : Fw) (L : List Ev) (v vl : Value) (w : World) (hv : flV w v F) (hB : FlB F) (hl : EvQ w vl L) (hn : L.length ≤ 1000) (ht : O.Tab w) : Calls Tryz.prog 11 #[v, vl] w (RpP F L w) := by
  have hv0 := hide' hv
  have hl0 : Hid (∀ V, Below w.heap.size w V → EvQ V vl L) := fun V hV => hl.over hV
  obtain ⟨sv0, rv0, rfl, hs, hr⟩ := hv
  obtain ⟨oa, cap, rfl⟩ := hs.shape
  obtain ⟨ob, cb, rfl⟩ := hr.shape
  obtain ⟨ol, cl, rfl, hcl, _⟩ := hl
  have KN : Hid (∀ V, Below w.heap.size w V → Calls Tryz.prog 46 #[.agg #[.string F.name, .slice oa F.steps.length cap, .slice ob F.rules.length cb], .int .i64 (ftk L)] V (NewP F (ftk L) V)) := fun V hV => newRF F _ (ftk L) V (hv0.out.below hV (Nat.le_refl _)) hB (ht.over hV)
  have KF : Hid (∀ V, Below w.heap.size w V → Calls Tryz.prog 47 #[.slice ol L.length cl] V fun e w' => e = .returned (.int .i64 (ftk L)) ∧ Below V.heap.size V w') := fun V hV => firstF L _ V (hl0.out V hV)
  have hR1 : Hid (∀ w', chkF F ≠ 0 → Below w.heap.size w w' → RpP F L w (.returned (.tuple #[.pointer none, .int .i64 (chkF F)])) w') := fun w' h1 h2 => ⟨_, _, rfl, h2, .inl ⟨h1, rfl, rfl⟩⟩
  have hR2 : Hid (∀ V0 gr gt sv rv go gp gs ct Pf Sf P1 P2 wN lv w', (Below w.heap.size w wN ∧ OgX wN V0 go gp gs sv rv P1 P2) → FlOk F → Below w.heap.size w w' → RnX V0 F gr gt sv rv go gp gs ct Pf Sf P1 P2 lv (rpR Pf (newR F.steps.length (ftk L)) L) w' → ((rpR Pf (newR F.steps.length (ftk L)) L).log = L → RpP F L w (.returned (.tuple #[.pointer (some ⟨gr, 0, none⟩), .int .i64 0])) w') ∧ ((rpR Pf (newR F.steps.length (ftk L)) L).log ≠ L → RpP F L w (.returned (.tuple #[.pointer none, .int .i64 3])) w')) := fun V0 gr gt sv rv go gp gs ct Pf Sf P1 P2 wN lv w' hN ok h2 hX => ⟨fun h => ⟨_, _, rfl, h2, .inr ⟨ok, V0, gr, gt, sv, rv, go, gp, gs, ct, Pf, Sf, P1, P2, lv, wN, hN, hX, .inl ⟨h, rfl, rfl⟩⟩⟩, fun h => ⟨_, _, rfl, h2, .inr ⟨ok, V0, gr, gt, sv, rv, go, gp, gs, ct, Pf, Sf, P1, P2, lv, wN, hN, hX, .inr ⟨h, rfl, rfl⟩⟩⟩⟩
  clear hs hr hv0 hB ht
  generalize RpP F L w = QQ at *
  have D1 := hide' (heap_alloc_new w (.cells #[.string F.name, .slice oa F.steps.length cap, .slice ob F.rules.length cb] 25))
  have B0 : Hid (Below w.heap.size w (w.alloc (.cells #[.string F.name, .slice oa F.steps.length cap, .slice ob F.rules.length cb] 25))) := (Below.refl _ w).alloc (Nat.le_refl _) _
  go_enter Tryz.func11, Tryz.ntmps11
  go_wp2_with fail
  generalize w.alloc (.cells #[.string F.name, .slice oa F.steps.length cap, .slice ob F.rules.length cb] 25) = W1 at *
  have hK : Hid (∀ V, Below W1.heap.size W1 V → Below w.heap.size w V ∧ V.cell? ⟨w.heap.size, 0, none⟩ = some (.string F.name) ∧ V.cell? ⟨w.heap.size, 1, none⟩ = some (.slice oa F.steps.length cap) ∧ V.cell? ⟨w.heap.size, 2, none⟩ = some (.slice ob F.rules.length cb)) := fun V hW => by
    have e1 := (hW.block _ (Array.getElem?_eq_some_iff.1 D1.out).1).trans D1.out
    exact ⟨B0.out.trans (hW.mono B0.out.size), by simp [World.cell?, e1], by simp [World.cell?, e1], by simp [World.cell?, e1]⟩
  have hd : Hid (Below W1.heap.size W1 W1.drew) := (Below.refl _ W1).drew
  clear D1 B0
  go_region_held3 (fun V => V.cell? ⟨w.heap.size, 0, none⟩ = some (.string F.name) ∧ V.cell? ⟨w.heap.size, 1, none⟩ = some (.slice oa F.steps.length cap) ∧ V.cell? ⟨w.heap.size, 2, none⟩ = some (.slice ob F.rules.length cb)) (first | (exact (hK.out _ B3.out).2) | (exact (hK.out _ B2.out).2) | (exact (hK.out _ hd.out).2)) (first | (go_at_call 46; refine (KN.out _ (hK.out _ B2.out).1).mono ?_; intro e w3 hN; obtain ⟨pa, rfl, hb3, hX⟩ := hN.oneX; have B3 := hide' (B2.out.trans (hb3.mono B2.out.size)); have B2w := hide' (hK.out _ B2.out).1; have hX3 := hide' hX; clear hN hX; (try dsimp only)) | (go_at_call 47; refine (KF.out _ (hK.out _ hd.out).1).mono ?_; rintro e w2 ⟨rfl, hb2⟩; have B2 := hide' (hd.out.trans (hb2.mono hd.out.size)); clear hb2; (try dsimp only)))
  have hB3 := hide' (hK.out _ B3.out).1
  clear KN KF B2 B3 hd hK
  rcases hX3.out with ⟨rfl, h0⟩ | ⟨ok, h0, V0, gr, gt, sv, rv, go, gp, gs, ct, Pf, Sf, P1, P2, lv, rfl, hbV, hX⟩
  · have hF := hide' (hR1.out _ h0 hB3.out)
    have h0' : (chkF F == 0) = false := by rw [beq_eq_false_iff_ne]; exact h0
    clear hR1 hR2 hX3
    generalize chkF F = z at *
    go_wp2
    exact hF.out
  rw [h0]
  have hX' := hide' hX
  have HF : Hid (∀ lv' w', Below w.heap.size w w' → RnX V0 F gr gt sv rv go gp gs ct Pf Sf P1 P2 lv' (rpR Pf (newR F.steps.length (ftk L)) L) w' → ((rpR Pf (newR F.steps.length (ftk L)) L).log = L → QQ (.returned (.tuple #[.pointer (some ⟨gr, 0, none⟩), .int .i64 0])) w') ∧ ((rpR Pf (newR F.steps.length (ftk L)) L).log ≠ L → QQ (.returned (.tuple #[.pointer none, .int .i64 3])) w')) := fun lv' w' h1 h2 => hR2.out _ _ _ _ _ _ _ _ _ _ _ _ _ w2 lv' w' ⟨B2w.out, hbV⟩ ok h1 h2
  have hBV : Hid (∀ V, Below V0.heap.size V0 V → Below w.heap.size w V) := fun V hV => by
    have h1 := B2w.out.trans (hbV.1.mono B2w.out.size)
    exact h1.trans (hV.mono h1.size)
  clear hR1 hR2 hX3 hX h0 ok hbV hB3 B2w
  generalize F.steps.length = nf at *
  generalize ftk L = t0 at *
  have hlen : Hid (∀ l : List Ev, l.length ≤ 1000 → (rpR Pf (newR nf t0) l).log.length ≤ 100000) := fun l h => by
    have := rpR_len Pf l (newR nf t0)
    rw [show (newR nf t0).log.length = 1 from rfl] at this
    omega
  go_wp2
  go_loopw [9, 22] (fun _ k wr => ∃ (c : Nat) (lv : Value), c ≤ L.length ∧ k = .int .i64 c ∧ Hid (RnX V0 F gr gt sv rv go gp gs ct Pf Sf P1 P2 lv (rpR Pf (newR nf t0) (L.take c)) wr)) (fun _ k _ => ((L.length : Int) - intOf k).toNat)
  case atStart => exact ⟨0, lv, Nat.zero_le _, rfl, hX'⟩
  case round =>
    as_aux_lemma =>
    clear hX'
    obtain ⟨c, lv, hc, rfl, hX⟩ := hrel
    by_cases hlt : c < L.length
    · obtain ⟨e, hx⟩ : ∃ x, L[c]? = some x := ⟨_, List.getElem?_eq_getElem hlt⟩
      obtain ⟨_, _, e1, _, h1⟩ := hl0.out wr (hBV.out _ hX.out.bl)
      injection e1 with e1 _ e1c
      subst e1 e1c
      obtain ⟨g1, f1, rfl, a0, a1, a2, a3⟩ := h1 c e hx
      have KA : Hid (∀ V, Below wr.heap.size wr V → Calls Tryz.prog 48 #[.pointer (some ⟨gr, 0, none⟩), .agg #[.int .i64 e.tick, .int .i64 e.kind, .int .i64 e.step, .int .i64 e.user]] V fun x w' => x = .returned (.tuple #[]) ∧ ∃ lv', RnX V0 F gr gt sv rv go gp gs ct Pf Sf P1 P2 lv' (rpR Pf (newR nf t0) (L.take (c + 1))) w') := fun V hV => by
        rw [rpR_take Pf _ hx]
        exact againF (hX.out.over hV) (hlen.out _ (by rw [List.length_take]; omega)) e
      have hbA := hide' ((Below.refl _ wr).alloc (Nat.le_refl _) (.cells #[.int .i64 e.tick, .int .i64 e.kind, .int .i64 e.step, .int .i64 e.user] 76))
      have K1 := hide' (KA.out _ hbA.out)
      obtain ⟨x0, x1, x2, x3⟩ := bx4 (heap_alloc_new wr (.cells #[.int .i64 e.tick, .int .i64 e.kind, .int .i64 e.step, .int .i64 e.user] 76))
      clear hl0 hBV hX h1 hx HF hlen KA hbA
      generalize e.tick = s0 at *
      generalize e.kind = s1 at *
      generalize e.step = s2 at *
      generalize e.user = s3 at *
      go_wp2_with fail
      refine K1.out.mono ?_
      rintro e w2 ⟨rfl, lv', hX2⟩
      have hX' := hide' hX2
      clear K1 hX2 x0 x1 x2 x3 a0 a1 a2 a3
      go_wp2
      exact ⟨⟨c + 1, lv', by omega, by go_num, hX'⟩, by simp [intOf]; omega⟩
    · obtain rfl : c = L.length := by omega
      rw [List.take_length] at hX
      have KL := hide' (logF hX.out.run (rpR_ne Pf nf t0 L) (hlen.out L hn))
      have hB5 := hide' (hBV.out _ hX.out.bl)
      have HF2 : Hid (∀ w', Below wr.heap.size wr w' → ((rpR Pf (newR nf t0) L).log = L → QQ (.returned (.tuple #[.pointer (some ⟨gr, 0, none⟩), .int .i64 0])) w') ∧ ((rpR Pf (newR nf t0) L).log ≠ L → QQ (.returned (.tuple #[.pointer none, .int .i64 3])) w')) := fun w' h => HF.out lv w' (hB5.out.trans (h.mono hB5.out.size)) (hX.out.over h)
      clear HF hlen hX
      generalize rpR Pf (newR nf t0) L = R at *
      clear hBV
      go_wp2_with fail
      refine KL.out.mono ?_
      rintro e w5 ⟨v5, rfl, ho, hb5⟩
      have hE5 : EvQ w5 v5 R.log := .of_owns ho
      have KE := hide' (equalEv R.log L v5 _ w5 hE5 (hl0.out _ (hB5.out.trans (hb5.mono hB5.out.size))) (by omega))
      obtain ⟨o5, c5, rfl⟩ := own_shp ho
      have HF5 := hide' (fun w' (h : Below w5.heap.size w5 w') => HF2.out w' (hb5.trans (h.mono hb5.size)))
      clear KL ho hE5 hl0 hB5 HF2 hb5
      go_wp2_with fail
      refine KE.out.mono ?_
      rintro e w6 ⟨rfl, hb6⟩
      obtain ⟨hQ1, hQ2⟩ := HF5.out _ hb6
      clear KE HF5 hb6
      by_cases hd : R.log = L
      · have hF := hide' (hQ1 hd)
        rw [decide_eq_true hd]
        clear hQ1 hQ2 hd
        go_wp2
        exact hF.out
      · have hF := hide' (hQ2 hd)
        rw [decide_eq_false hd]
        clear hQ1 hQ2 hd
        go_wp2
        exact hF.out
end Go.Proofs.YtahfobbiaimoiaaGreatDoor

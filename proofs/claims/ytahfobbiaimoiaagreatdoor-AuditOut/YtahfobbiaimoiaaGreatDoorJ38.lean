/- audit.Loads, walked. -/
import Derived.Test.YtahfobbiaimoiaaGreatDoorJ32
import Derived.Test.YtahfobbiaimoiaaGreatDoorJ37
import Derived.Maps.OwnOps
import Derived.Maps.OwnSet
import Derived.Deep.CutRange
namespace Go.Proofs.YtahfobbiaimoiaaGreatDoor
open Go.RowKit
open Go.Maps (IsMap has)
/-- A map of counts. -/
def CntD (l : List Ev) (D : DataW Unit) : Prop := IsMap D ∧ ∀ x : Int, has D (.int .i64 x) = decide (0 < cntE x l) ∧ D.atKey (.int .i64 x) (.lit (.int .i64 0)) = .lit (.int .i64 ((cntE x l : Nat) : Int))
def EvW (l : List Ev) : Prop := ∀ e ∈ l, (Lit.int .i64 e.user).wf = true
theorem CntD.nil : CntD [] (.map []) := ⟨Go.Maps.isMap_empty, fun _ => ⟨rfl, rfl⟩⟩
theorem CntD.step {L : List Ev} {c : Nat} {e : Ev} {D : DataW Unit} (h : CntD (L.take c) D) (he : L[c]? = some e) (hk : e.kind = 2) :
    CntD (L.take (c + 1)) (D.put (.int .i64 e.user) (.lit (.int .i64 ((cntE e.user (L.take c) : Nat) + 1)))) := by
  refine ⟨h.1.put _ _, fun x => ?_⟩
  rw [cntE_take he]
  by_cases hx : x = e.user
  · subst hx
    rw [if_pos ⟨hk, rfl⟩, Go.Maps.has_put_same h.1 (by simp [WideAt.IsKeyLit]), Go.Maps.atKey_put_same h.1 (by simp [WideAt.IsKeyLit])]
    exact ⟨(decide_eq_true (by omega)).symm, by rw [Int.natCast_add]; rfl⟩
  · have hne : (Lit.int .i64 x) ≠ .int .i64 e.user := fun k => hx (by injection k)
    rw [if_neg (fun k => hx k.2.symm), Go.Maps.has_put_other hne, Go.Maps.atKey_put_other hne]
    exact h.2 x
theorem CntD.skip {L : List Ev} {c : Nat} {e : Ev} {D : DataW Unit} (h : CntD (L.take c) D) (he : L[c]? = some e) (hk : e.kind ≠ 2) : CntD (L.take (c + 1)) D := by
  refine ⟨h.1, fun x => ?_⟩
  rw [cntE_take he, if_neg (fun k => hk k.1)]
  exact h.2 x
theorem ownsMap_below {W W' : World} {k : TypeId} {R : Value → Option (DataW Unit × List MemPlace)} {b n : Nat} {D : DataW Unit} (h : W.ownsMap Tryz.prog k R b n D) (hb : Below W.heap.size W W') : W'.ownsMap Tryz.prog k R b n D := by
  have hl := h.lt
  obtain ⟨es, clock, h1, h2, h3, h4⟩ := h
  exact ⟨es, clock, (hb.block b hl).trans h1, h2, h3, h4⟩
theorem CntD.keys {L : List Ev} {D : DataW Unit} {W : World} {R : Value → Option (DataW Unit × List MemPlace)} {b n : Nat} (h : CntD L D) (hown : W.ownsMap Tryz.prog 3 R b n D) {ss : List Int} (hp : ss.Perm (intKeys D)) : ss.length = (usE L).length ∧ ss.mergeSort (fun x y => decide (x ≤ y)) = usE L := by
  have h1 : CollectedI D (fun _ => false) (usE L) := ⟨usE_nodup L, fun x => by rw [usE_mem, (h.2 x).1]; simp⟩
  have h2 := h1.perm hown (Go.Maps.int_keyed Tryz.underlying3) Tryz.underlying3 (fun _ => rfl)
  have h3 := hp.trans h2.symm
  refine ⟨h3.length_eq, (mergeSort_of_perm_i h3).trans ?_⟩
  have tr : ∀ a b c : Int, leI a b = true → leI b c = true → leI a c = true := fun a b c h1 h2 => by simp only [leI, decide_eq_true_eq] at *; exact Int.le_trans h1 h2
  have tot : ∀ a b : Int, (leI a b || leI b a) = true := fun a b => by simp only [leI, Bool.or_eq_true, decide_eq_true_eq]; exact Int.le_total a b
  refine List.Perm.eq_of_pairwise (le := fun a b => leI a b = true) (fun a b _ _ h1 h2 => ?_) (List.pairwise_mergeSort tr tot _) ((usE_srt L).imp fun k => by simp only [leI, decide_eq_true_eq]; exact Int.le_of_lt k) (List.mergeSort_perm _ _)
  simp only [leI, decide_eq_true_eq] at h1 h2
  exact Int.le_antisymm h1 h2
theorem cell0 {V : World} {b : Nat} {x : Value} {t : TypeId} (h : V.heap[b]? = some (.cells #[x] t (0, 0))) : V.cell? ⟨b, 0, none⟩ = some x := by simp [World.cell?, h]
theorem ldL_at {L : List Ev} {j : Nat} {u : Int} (h : (usE L)[j]? = some u) : (ldL L)[j]? = some (u, ((cntE u L : Nat) : Int)) := by
  rw [ldL_eq, List.getElem?_map, h]; rfl
theorem cellsP_next {L : List (Int × Int)} {j : Nat} {p : Int × Int} (h : L[j]? = some p) : O.cellsP (L.take (j + 1)) = O.cellsP (L.take j) ++ [.int .i64 p.1, .int .i64 p.2] := by
  rw [List.take_add_one, h]
  simp [O.cellsP]
theorem wf_small (n : Nat) (h : n ≤ 1000000) : (Lit.int .i64 (n : Int)).wf = true := by
  have hm : IntKind.i64.min = -9223372036854775808 := by decide
  simp [Lit.wf]
  omega
set_option maxRecDepth 100000 in
set_option maxHeartbeats 4000000 in
theorem loadsF (L : List Ev) (v : Value) (w : World) (h : EvQ w v L) (hW : EvW L) (hn : L.length ≤ 1000) :
    Calls Tryz.prog 29 #[v] w fun e w' => ∃ v', e = .returned v' ∧ w'.ownsRow w.heap.size 93 2 v' (ldL L).length (O.cellsP (ldL L)) ∧ Below w.heap.size w w' := by
  have hl0 : Hid (∀ V, Below w.heap.size w V → EvQ V v L) := fun V hV => h.over hV
  obtain ⟨ol, cl, rfl, hcl, _⟩ := h
  have hmm := @run_makeMap Tryz.prog
  have hM0 : Hid ((w.alloc (.map #[] 0)).ownsMap Tryz.prog 3 (plainElem (H := Unit) Tryz.prog 3) w.heap.size 0 (.map [])) := World.ownsMap_made _ _ _ _
  have hB0 : Hid (Below w.heap.size w (w.alloc (.map #[] 0))) := (Below.refl _ w).alloc (Nat.le_refl _) _
  have hC0 : Hid (CntD (L.take 0) (.map [])) := CntD.nil
  have hW' := hide' hW
  clear hW
  go_enter Tryz.func29, Tryz.ntmps29
  go_wp2
  go_loopw [5, 12] (fun _ k wr => ∃ (c : Nat) (D : DataW Unit), c ≤ L.length ∧ k = .int .i64 c ∧ Hid (wr.ownsMap Tryz.prog 3 (plainElem Tryz.prog 3) w.heap.size c D) ∧ Hid (CntD (L.take c) D) ∧ Hid (Below w.heap.size w wr)) (fun _ k _ => ((L.length : Int) - intOf k).toNat)
  case atStart => exact ⟨0, .map [], Nat.zero_le _, rfl, hM0, hC0, hB0⟩
  case round =>
    clear hM0 hB0 hC0 hmm
    obtain ⟨c, D, hc, rfl, hM, hC, hB⟩ := hrel
    by_cases hlt : c < L.length
    · as_aux_lemma =>
      obtain ⟨e, hx⟩ : ∃ x, L[c]? = some x := ⟨_, List.getElem?_eq_getElem hlt⟩
      obtain ⟨_, _, e1, _, h1⟩ := hl0.out wr hB.out
      injection e1 with e1 _ e1c
      subst e1 e1c
      obtain ⟨g1, f1, rfl, a0, a1, a2, a3⟩ := h1 c e hx
      obtain ⟨x0, x1, x2, x3⟩ := bx4 (heap_alloc_new wr (.cells #[.int .i64 e.tick, .int .i64 e.kind, .int .i64 e.step, .int .i64 e.user] 76))
      have hM1 := hide' (hM.out.alloc (.cells #[.int .i64 e.tick, .int .i64 e.kind, .int .i64 e.step, .int .i64 e.user] 76))
      have hB1 := hide' (hB.out.alloc hB.out.size (.cells #[.int .i64 e.tick, .int .i64 e.kind, .int .i64 e.step, .int .i64 e.user] 76))
      have hwf := hide' (hW'.out e (List.mem_of_getElem? hx))
      have hnn : cntE e.user (L.take c) ≤ 1000 := Nat.le_trans (cntE_le _ _) (by rw [List.length_take]; omega)
      have hat0 := hide' (hC.out.2 e.user).2
      have hYes : Hid (e.kind = 2 → CntD (L.take (c + 1)) (D.put (.int .i64 e.user) (.lit (.int .i64 ((cntE e.user (L.take c) : Nat) + 1))))) := fun k => hC.out.step hx k
      have hNo : Hid (e.kind ≠ 2 → CntD (L.take (c + 1)) D) := fun k => hC.out.skip hx k
      clear hl0 hW' hM hB hC h1 hx
      generalize cntE e.user (L.take c) = nn at *
      generalize e.tick = s0 at *
      generalize e.kind = s1 at *
      generalize e.step = s2 at *
      generalize e.user = s3 at *
      by_cases hk : s1 = 2
      · subst hk
        have hD1 := hide' (hYes.out rfl)
        have hwf2 : Hid ((Lit.int .i64 ((nn : Nat) + 1)).wf = true) := wf_small (nn + 1) (by omega)
        clear hYes hNo
        go_wp2_with (first | (at_lookup; refine wpList_lookup_own_int _ rfl _ _ 114 rfl 3 3 .i64 (Go.Maps.int_keyed Tryz.underlying3) Tryz.underlying114 Tryz.underlying3 (Tryz.zeroValue3 _) w.heap.size c D rfl hM1.out _ _ rfl (Go.Maps.keyOf_int_mk Tryz.underlying3 hwf.out) ?_; intro cc hat hwc; rw [hat0.out] at hat; injection hat with hat; injection hat with _ hat; subst hat; clear hwc) | (at_mapUpdate; refine wpList_mapUpdate_own _ rfl _ _ _ 114 rfl 3 3 (Go.Maps.int_keyed Tryz.underlying3) Tryz.underlying114 (plainElem Tryz.prog 3) w.heap.size c D rfl hM1.out (by unfold maxLen; omega) _ _ _ rfl rfl (Go.Maps.keyOf_int_mk Tryz.underlying3 hwf.out) _ [] (plainElem_int Tryz.underlying3 hwf2.out) ?_; intro w1 hown1 hgrow1; have hM2 := hide' hown1; have hB2 := hide' (hB1.out.grown hgrow1 hB1.out.size (fun k e => by cases e; exact Nat.le_refl _)); clear hown1 hgrow1))
        exact ⟨⟨c + 1, _, by omega, by go_num, hM2, hD1, hB2⟩, by simp [intOf]; omega⟩
      · have hk' : (s1 == 2) = false := by rw [beq_eq_false_iff_ne]; exact hk
        have hD1 := hide' (hNo.out hk)
        have hM2 := hide' (hM1.out.mono (Nat.le_succ c))
        clear hYes hNo hM1
        go_wp2
        exact ⟨⟨c + 1, D, by omega, by go_num, hM2, hD1, hB1⟩, by simp [intOf]; omega⟩
    · obtain rfl : c = L.length := by omega
      rw [List.take_length] at hC
      have hmc : Hid ((wr.alloc (.cells #[.map (some w.heap.size)] 114)).cell? ⟨wr.heap.size, 0, none⟩ = some (.map (some w.heap.size))) := cell0 (heap_alloc_new wr (.cells #[.map (some w.heap.size)] 114))
      have hM1 := hide' (hM.out.alloc (.cells #[.map (some w.heap.size)] 114))
      have KK := hide' (keysF (some w.heap.size) wr)
      have KS := hide' (sortedF w.heap.size L.length wr.heap.size D _ _ hmc.out hM1.out (Nat.le_trans hM.out.size_le (by omega)))
      have hB1 := hide' (hB.out.alloc hB.out.size (.cells #[.map (some w.heap.size)] 114))
      have hCk : Hid (∀ ss : List Int, ss.Perm (intKeys D) → ss.length = (usE L).length ∧ ss.mergeSort (fun x y => decide (x ≤ y)) = usE L) := fun ss hp => hC.out.keys hM.out hp
      have hat : Hid (∀ u, u ∈ usE L → D.atKey (.int .i64 u) (.lit (.int .i64 0)) = .lit (.int .i64 ((cntE u L : Nat) : Int)) ∧ (Lit.int .i64 u).wf = true ∧ cntE u L ≤ 1000) := fun u hu => by
        refine ⟨(hC.out.2 u).2, ?_, Nat.le_trans (cntE_le u L) hn⟩
        obtain ⟨e, he, rfl⟩ := cntE_mem ((usE_mem L u).1 hu)
        exact hW'.out e he
      clear hM hB hC hl0 hW' hmc
      go_wp2_with (first | (go_at_call 65; refine KK.out.mono ?_; rintro e w1 ⟨rfl, rfl⟩) | (go_at_call 64; refine KS.out.mono ?_; rintro e w2 ⟨vk, ss, rfl, hp, hrow, hnil, hb2⟩; obtain ⟨hl1, hm1⟩ := hCk.out ss hp; rw [hm1, hl1] at hrow; have hM2 := hide' (ownsMap_below hM1.out hb2); have hB2 := hide' (hB1.out.trans (hb2.mono hB1.out.size)); have hR2 : RowI w2 vk (usE L) := RowI.of_owns hrow; obtain ⟨ok, ck, rfl, hck, hRk⟩ := hR2; have hRk' := hide' hRk; clear hp hrow hnil hb2 hl1 hm1 hRk KS))
      clear hM1 hB1 hCk KK
      go_loopw [6, 8, 29] (fun ld _ k wx => ∃ (j : Nat) (o : Option Addr) (cp : Nat), j ≤ (usE L).length ∧ k = .int .i64 j ∧ ld = .slice o j cp ∧ Hid (wx.ownsRow w2.heap.size 93 2 (.slice o j cp) j (O.cellsP ((ldL L).take j))) ∧ Hid (Below w2.heap.size w2 wx)) (fun _ _ k _ => (((usE L).length : Int) - intOf k).toNat)
      case atStart => exact ⟨0, none, 0, Nat.zero_le _, rfl, rfl, World.ownsRow_nil _ _ _ _, Below.refl _ _⟩
      case round =>
        obtain ⟨j, o, cp, hj, rfl, rfl, hO, hB⟩ := hrel
        have hln : (usE L).length ≤ 1000 := by rw [usE_len]; exact Nat.le_trans (ldL_len L) hn
        by_cases hlt2 : j < (usE L).length
        · as_aux_lemma =>
          obtain ⟨u, hu⟩ : ∃ x, (usE L)[j]? = some x := ⟨_, List.getElem?_eq_getElem hlt2⟩
          obtain ⟨gk, fk, rfl, a0⟩ := hRk'.out j u hu
          have b0 := (hB.out.cell (p := ⟨gk, fk + j, none⟩) (cell_lt a0)).trans a0
          obtain ⟨hat0, hwf, hnn⟩ := hat.out u (List.mem_of_getElem? hu)
          have hat1 := hide' hat0
          have hwf1 := hide' hwf
          have hM3 := hide' (ownsMap_below hM2.out hB.out)
          have hq := hide' (cellsP_next (ldL_at hu))
          clear hat0 hwf hat hRk' a0 hu hM2
          generalize cntE u L = nn at *
          go_wp2_with (first | (at_lookup; refine wpList_lookup_own_int _ rfl _ _ 114 rfl 3 3 .i64 (Go.Maps.int_keyed Tryz.underlying3) Tryz.underlying114 Tryz.underlying3 (Tryz.zeroValue3 _) w.heap.size L.length D rfl hM3.out _ _ rfl (Go.Maps.keyOf_int_mk Tryz.underlying3 hwf1.out) ?_; intro cc hat hwc; rw [hat1.out] at hat; injection hat with hat; injection hat with _ hat; subst hat; clear hwc) | (at_builtin; refine app1L elP rfl (.tmp 33) (.tmp 39) rfl w2.heap.size wr (.slice o j cp) j (O.cellsP ((ldL L).take j)) [.int .i64 u, .int .i64 nn] rfl rfl hO.out rfl (by simp [Value.oneCell']) hB.out.size (by omega) ?_; intro g cap w4 hown hgr hnw; have hO2 := hide' hown; have hG := hide' hgr; clear hown hgr hnw))
          rw [← hq.out] at hO2
          exact ⟨⟨j + 1, _, _, by omega, by go_num, rfl, hO2, hB.out.grown hG.out hB.out.size (fun _ e => own_ge' hO.out e)⟩, by simp [intOf]; omega⟩
        · obtain rfl : j = (usE L).length := by omega
          have hlq := usE_len L
          rw [hlq, List.take_length] at hO
          have hF := hide' (own_down hO.out hB2.out.size)
          have hFB := hide' (hB2.out.trans (hB.out.mono hB2.out.size))
          clear hat hRk' hM2 hO hB2 hB
          rw [← hlq] at hF
          go_wp2
          go_ret
          exact ⟨_, rfl, by rw [← usE_len]; exact hF.out, hFB.out⟩
end Go.Proofs.YtahfobbiaimoiaaGreatDoor

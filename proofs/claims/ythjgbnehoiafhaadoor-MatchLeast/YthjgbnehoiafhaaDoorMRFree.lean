/- The document's Free. -/
import Derived.Test.YthjgbnehoiafhaaDoorMRLeast
namespace Go.Proofs.YthjgbnehoiafhaaDoor.M
open Go.RowKit Go.Shelf
/-- One row ahead of the others. -/
def frontL (L : List Nat) (i x : Nat) : List Nat := x :: (L.take i ++ L.drop (i + 1))
theorem frontL_len {L : List Nat} {i : Nat} (hi : i < L.length) (x : Nat) : (frontL L i x).length = L.length := by simp [frontL]; omega
theorem fn_front {L : List Nat} {i : Nat} (hi : i < L.length) (x r : Nat) : fn (frontL L i x) r = if r = 0 then x else if r ≤ i then fn L (r - 1) else fn L r := by
  cases r with
  | zero => rfl
  | succ r =>
    rw [if_neg (by omega)]
    unfold fn frontL
    simp only [List.getD_eq_getElem?_getD, List.getElem?_cons_succ]
    by_cases h : r < i
    · rw [if_pos (by omega), List.getElem?_append_left (by simp; omega), List.getElem?_take_of_lt h]; rfl
    · rw [if_neg (by omega), List.getElem?_append_right (by simp; omega), List.getElem?_drop, List.length_take, show i + 1 + (r - min i L.length) = r + 1 by omega]
theorem front_has {L : List Nat} {i u : Nat} (hi : i < L.length) (hb : (fn L i).testBit u = true) : Has (frontL L i (2 ^ u)) ↔ ∃ g, FullM L.length (fn L) g ∧ g i = u := by
  unfold Has
  rw [frontL_len hi]
  constructor
  · rintro ⟨h, hf⟩
    have h0 : h 0 = u := by
      have := hf.bit 0 (by omega)
      rw [fn_front hi, if_pos rfl, Nat.testBit_two_pow] at this
      exact (of_decide_eq_true this).symm
    refine ⟨fun r => if r = i then u else if r < i then h (r + 1) else h r, ⟨fun r hr => ?_, fun r s hr hs e => ?_⟩, if_pos rfl⟩
    · show (fn L r).testBit (if r = i then u else if r < i then h (r + 1) else h r) = true
      by_cases e : r = i
      · rw [if_pos e, e]; exact hb
      · rw [if_neg e]
        by_cases e2 : r < i
        · rw [if_pos e2]
          have := hf.bit (r + 1) (by omega)
          rwa [fn_front hi, if_neg (by omega), if_pos (by omega), Nat.add_sub_cancel] at this
        · rw [if_neg e2]
          have := hf.bit r hr
          rwa [fn_front hi, if_neg (by omega), if_neg (by omega)] at this
    · have e' : (if r = i then h 0 else if r < i then h (r + 1) else h r) = (if s = i then h 0 else if s < i then h (s + 1) else h s) := by rw [h0]; exact e
      have key : ∀ q, q < L.length → ∃ q', q' < L.length ∧ (if q = i then h 0 else if q < i then h (q + 1) else h q) = h q' ∧ ((q = i ∧ q' = 0) ∨ (q < i ∧ q' = q + 1) ∨ (i < q ∧ q' = q)) := fun q hq => by
        by_cases e : q = i
        · exact ⟨0, by omega, if_pos e, .inl ⟨e, rfl⟩⟩
        · by_cases e2 : q < i
          · exact ⟨q + 1, by omega, by rw [if_neg e, if_pos e2], .inr (.inl ⟨e2, rfl⟩)⟩
          · exact ⟨q, hq, by rw [if_neg e, if_neg e2], .inr (.inr ⟨by omega, rfl⟩)⟩
      obtain ⟨r', hr', er, hrr⟩ := key r hr
      obtain ⟨s', hs', es, hss⟩ := key s hs
      rw [er, es] at e'
      have := hf.inj r' s' hr' hs' e'
      omega
  · rintro ⟨g, hf, rfl⟩
    refine ⟨fun r => if r = 0 then g i else if r ≤ i then g (r - 1) else g r, fun r hr => ?_, fun r s hr hs e => ?_⟩
    · show (fn (frontL L i (2 ^ g i)) r).testBit (if r = 0 then g i else if r ≤ i then g (r - 1) else g r) = true
      rw [fn_front hi]
      by_cases e : r = 0
      · rw [if_pos e, if_pos e]; exact Nat.testBit_two_pow_self
      · rw [if_neg e, if_neg e]
        by_cases e2 : r ≤ i
        · rw [if_pos e2, if_pos e2]; exact hf.bit _ (by omega)
        · rw [if_neg e2, if_neg e2]; exact hf.bit _ hr
    · have key : ∀ q, q < L.length → ∃ q', q' < L.length ∧ (if q = 0 then g i else if q ≤ i then g (q - 1) else g q) = g q' ∧ ((q = 0 ∧ q' = i) ∨ (0 < q ∧ q ≤ i ∧ q' = q - 1) ∨ (i < q ∧ q' = q)) := fun q hq => by
        by_cases e : q = 0
        · exact ⟨i, hi, if_pos e, .inl ⟨e, rfl⟩⟩
        · by_cases e2 : q ≤ i
          · exact ⟨q - 1, by omega, by rw [if_neg e, if_pos e2], .inr (.inl ⟨by omega, e2, rfl⟩)⟩
          · exact ⟨q, hq, by rw [if_neg e, if_neg e2], .inr (.inr ⟨by omega, rfl⟩)⟩
      obtain ⟨r', hr', er, hrr⟩ := key r hr
      obtain ⟨s', hs', es, hss⟩ := key s hs
      have e' : (if r = 0 then g i else if r ≤ i then g (r - 1) else g r) = (if s = 0 then g i else if s ≤ i then g (s - 1) else g s) := e
      rw [er, es] at e'
      have := hf.inj r' s' hr' hs' e'
      omega
/-- Where l[k+1:] begins. -/
def adrU (g o cap k : Nat) : Addr := if cap = k + 1 then ⟨g, o, none⟩ else ⟨g, o + (k + 1), none⟩
theorem sliceHU (g o k l cap : Nat) (h1 : k < l) (h2 : l ≤ cap) (W : World) : (Instr.sliceAt 22 (.slice (some ⟨g, o, none⟩) l cap) none (some (.int .i64 (k : Int))) none).run Tryd.prog W = .ok (.slice (some ⟨g, o, none⟩) k cap) W := by
  have e1 : ¬ cap = 0 := by omega
  rw [run_sliceAt_slice _ _ _ _ _ _ (by kernel_rfl), run_slice_h _ _ _ _ _ (by kernel_rfl) _ _ (by omega) (by omega)]
  simp [go_sem, sliced, e1, Addr.add]
theorem sliceLU (g o k l cap : Nat) (h1 : k < l) (W : World) : (Instr.sliceAt 22 (.slice (some ⟨g, o, none⟩) l cap) (some (.int .i64 ((k : Int) + 1))) none none).run Tryd.prog W = .ok (.slice (some (adrU g o cap k)) (l - (k + 1)) (cap - (k + 1))) W := by
  rw [run_sliceAt_slice _ _ _ _ _ _ (by kernel_rfl), run_slice_l _ _ _ _ _ (by kernel_rfl) _ _ (by omega) (by omega)]
  have e2 : ((k : Int) + 1).toNat = k + 1 := by omega
  unfold adrU
  by_cases h : cap = k + 1
  · simp [go_sem, sliced, h, e2]
  · simp [go_sem, sliced, h, e2, Addr.add]
theorem row_take {W : World} {L : List Nat} {g o cap k : Nat} (h : RowU W (.slice (some ⟨g, o, none⟩) L.length cap) L) : ∀ j u, (cellsU (L.take k))[j]? = some u → W.cell? (Addr.add ⟨g, o, none⟩ j) = some u := fun j u hu => by
  obtain ⟨_, _, e, _, hc⟩ := h
  cases e
  obtain ⟨z, hz, rfl⟩ := cellsU_at hu
  have hj := (List.getElem?_eq_some_iff.1 hz).1
  rw [List.length_take] at hj
  rw [List.getElem?_take_of_lt (by omega)] at hz
  obtain ⟨g', o', e, hcell⟩ := hc j z hz
  cases e
  rw [Addr.add_lit]; exact hcell
theorem row_drop {W : World} {L : List Nat} {g o cap k : Nat} (h : RowU W (.slice (some ⟨g, o, none⟩) L.length cap) L) : ∀ j u, (cellsU (L.drop (k + 1)))[j]? = some u → W.cell? ((adrU g o cap k).add j) = some u := fun j u hu => by
  obtain ⟨_, _, e, hcap, hc⟩ := h
  cases e
  obtain ⟨z, hz, rfl⟩ := cellsU_at hu
  rw [List.getElem?_drop] at hz
  have hj := (List.getElem?_eq_some_iff.1 hz).1
  obtain ⟨g', o', e, hcell⟩ := hc _ z hz
  cases e
  have := hcap.1
  unfold adrU
  rw [if_neg (by omega), Addr.add_lit, show o + (k + 1) + j = o + (k + 1 + j) by omega]; exact hcell
theorem cellsU_app (L M : List Nat) : cellsU L ++ cellsU M = cellsU (L ++ M) := by simp [cellsU]
theorem owns_lit1 (w : World) (z : Nat) : (w.alloc (.cells #[.int .u64 (z : Int)] 29)).ownsRow w.heap.size 29 1 (.slice (some ⟨w.heap.size, 0, none⟩) 1 1) 1 (cellsU [z]) :=
  ⟨rfl, .inr ⟨_, 1, #[.int .u64 (z : Int)], rfl, Nat.le_refl _, World.alloc_heap_new w _, Nat.le_refl _, by unfold maxLen; omega, rfl, rfl⟩⟩
section
variable {w : World} {L : List Nat} {v : Value}
set_option maxRecDepth 100000 in
set_option maxHeartbeats 2000000 in
theorem rFreeF (hr : RowU w v L) (hw : ∀ z ∈ L, z < 18446744073709551616) (ht : Tab w) (i : Int) : Calls Tryd.prog 16 #[v, .int .i64 i] w fun e w' => ∃ F : Nat, e = .returned (.int .u64 (F : Int)) ∧ Hid (F < 18446744073709551616 ∧ FreS L.length (fn L) i F) ∧ Hid (Below w.heap.size w w') := by
  obtain ⟨oa, cap, rfl⟩ := hr.shape
  obtain ⟨i0, hi0, hz0, hz1, hz2⟩ := info_parts infoU
  by_cases hn : L.length ≤ 12
  · by_cases hneg : i < 0
    · have hn' : ¬ (12 : Int) < (L.length : Int) := by omega
      have hend : FreS L.length (fn L) i 0 := FreS.zero fun h => by omega
      go_enter Tryd.func16, Tryd.ntmps16
      go_wp2
      go_ret
      exact ⟨0, rfl, ⟨by decide, hend⟩, Below.refl _ _⟩
    · by_cases hge : (L.length : Int) ≤ i
      · have hn' : ¬ (12 : Int) < (L.length : Int) := by omega
        have hend : FreS L.length (fn L) i 0 := FreS.zero fun h => by omega
        go_enter Tryd.func16, Tryd.ntmps16
        go_wp2
        go_ret
        exact ⟨0, rfl, ⟨by decide, hend⟩, Below.refl _ _⟩
      · have hn' : ¬ (12 : Int) < (L.length : Int) := by omega
        obtain ⟨iN, rfl⟩ : ∃ k : Nat, i = (k : Int) := ⟨i.toNat, by omega⟩
        have hi : iN < L.length := by omega
        have hi' : (iN : Int) < (L.length : Int) := by omega
        obtain ⟨_, _, e9, hcap, hcel⟩ := id hr
        cases e9
        obtain ⟨g, o, rfl, hcr⟩ := hcel iN _ (fn_get hi)
        have hcap1 := hcap.1
        have hx := fn_lt hw iN
        have hr' := hide' hr
        have hw' := hide' hw
        have ht' := hide' ht
        have hcr' := hide' hcr
        have hsH := fun W => sliceHU g o iN L.length cap hi hcap1 W
        have hsL := fun W => sliceLU g o iN L.length cap hi W
        have hwr : IntKind.i64.wrap ((iN : Int) + 1) = (iN : Int) + 1 := by rw [IntKind.wrap_i64]; omega
        clear hr hw ht hcel hcap hcr
        go_enter Tryd.func16, Tryd.ntmps16
        go_wp2
        go_loopw [5, 6, 7] (fun s p _ wr => ∃ (u F : Nat), u ≤ 64 ∧ p = .int .i64 (u : Int) ∧ s = .int .u64 (F : Int) ∧ F < 18446744073709551616 ∧ Hid (∀ b, F.testBit b = true ↔ b < u ∧ ∃ g, FullM L.length (fn L) g ∧ g iN = b) ∧ Hid (Below w.heap.size w wr)) (fun _ p _ _ => (64 - intOf p).toNat)
        case atStart => exact ⟨0, 0, by omega, rfl, rfl, by decide, fun b => ⟨fun h => by simp at h, fun h => absurd h.1 (Nat.not_lt_zero _)⟩, Below.refl _ _⟩
        case round =>
          obtain ⟨u, F, hu, rfl, rfl, hF, hFs, hB⟩ := hrel
          by_cases hu64 : u < 64
          · have hu64' : (u : Int) < 64 := by omega
            have cx := cell_over hcr'.out hB.out
            by_cases hbit : (fn L iN).testBit u = true
            · have hs1 := shr_bitT hx hbit
              have hsh := shlc u hu64
              have hp64 : 2 ^ u < 18446744073709551616 := Nat.pow_lt_pow_right (a := 2) (m := u) (n := 64) (by decide) hu64
              have hfh : Hid (Has (frontL L iN (2 ^ u)) ↔ ∃ g, FullM L.length (fn L) g ∧ g iN = u) := front_has hi hbit
              have hor := u64_or_nat F (2 ^ u) hF hp64
              have horl := Nat.or_lt_two_pow (n := 64) hF hp64
              have horb : Hid (∀ b, (F ||| 2 ^ u).testBit b = true ↔ F.testBit b = true ∨ b = u) := fun b => by
                rw [Nat.testBit_or, Bool.or_eq_true, Nat.testBit_two_pow]
                constructor
                · rintro (h | h)
                  · exact .inl h
                  · exact .inr (of_decide_eq_true h).symm
                · rintro (h | h)
                  · exact .inl h
                  · exact .inr (decide_eq_true h.symm)
              have hO1 := owns_lit1 wr (2 ^ u)
              have hrow := hr'.out.below hB.out (Nat.le_refl _)
              generalize F ||| 2 ^ u = F2 at *
              generalize 2 ^ u = pu at *
              have hb1 : Below wr.heap.size wr (wr.alloc (.cells #[.int .u64 (pu : Int)] 29)) := (Below.refl _ _).alloc (Nat.le_refl _) _
              go_upto_region 10 with (at_builtin; refine wpList_append_own _ rfl _ _ 22 rfl wr.heap.size 29 i0 (.int .u64 0) 1 8 Tryd.underlying22 hi0 hz0 hz1 hz2 rfl (by decide) _ 1 (cellsU [pu]) rfl hO1 ⟨g, o, none⟩ iN cap (cellsU (L.take iN)) rfl (by simp [cellsU]; omega) (row_take (hrow.below hb1 (Nat.le_refl _))) (one_cellsU _) (by unfold maxLen; omega) (by omega) (by simp) ?_; intro v2 w2 hown2 hgrow2 hnil2)
              have hb2 : Below wr.heap.size wr w2 := hb1.grown hgrow2 (by simp) (fun j ej => by cases ej; exact Nat.le_refl _)
              rw [cellsU_app] at hown2
              clear hO1 hnil2 hgrow2 hb1 hs1 hsH cx
              go_wp2_with (at_builtin; refine wpList_append_own _ rfl _ _ 22 rfl wr.heap.size 29 i0 (.int .u64 0) 1 8 Tryd.underlying22 hi0 hz0 hz1 hz2 rfl (by decide) _ (1 + iN) (cellsU ([pu] ++ L.take iN)) rfl hown2 (adrU g o cap iN) (L.length - (iN + 1)) (cap - (iN + 1)) (cellsU (L.drop (iN + 1))) rfl (by simp [cellsU]) (row_drop (hrow.below hb2 (Nat.le_refl _))) (one_cellsU _) (by unfold maxLen; omega) (by omega) hb2.size ?_; intro v3 w3 hown3 hgrow3 hnil3)
              have hb3 : Below wr.heap.size wr w3 := hb2.grown hgrow3 hb2.size (fun j ej => own_geM hown2 j ej)
              have hfl := frontL_len hi pu
              have hown3' : w3.ownsRow wr.heap.size 29 1 v3 (frontL L iN pu).length (cellsU (frontL L iN pu)) := by
                rw [cellsU_app] at hown3
                rw [hfl]
                have e1 : 1 + iN + (L.length - (iN + 1)) = L.length := by omega
                rw [e1] at hown3
                exact hown3
              have hrow3 := RowU.of_owns hown3'
              obtain ⟨oa3, cap3, rfl⟩ := hrow3.shape
              have hword3 : ∀ z ∈ frontL L iN pu, z < 18446744073709551616 := fun z hz => by
                rcases List.mem_cons.1 hz with h | h
                · rw [h]; exact hp64
                · rcases List.mem_append.1 h with h | h
                  · exact hw'.out z (List.mem_of_mem_take h)
                  · exact hw'.out z (List.mem_of_mem_drop h)
              have KF := hide' (rFullF (hrow3.rwa ((ht'.out.over hB.out).over hb3) hword3))
              have hB3 : Hid (Below w.heap.size w w3) := hB.out.trans (hb3.mono hB.out.size)
              have hiff : Hid (fulB (frontL L iN pu).length (fn (frontL L iN pu)) = true ↔ ∃ g, FullM L.length (fn L) g ∧ g iN = u) := by
                show _ ↔ _
                rw [← hfh.out, fulB_iff]
                exact ⟨fun h => h.2, fun h => ⟨by omega, h⟩⟩
              clear hown3 hgrow3 hnil3 hown2 hb2 hrow hrow3 hown3' hb3 hfl hsL
              generalize fulB (frontL L iN pu).length (fn (frontL L iN pu)) = fb at *
              generalize (frontL L iN pu).length = fl at *
              refine KF.out.mono ?_
              rintro e w4 ⟨rfl, hb4⟩
              have hB4 : Hid (Below w.heap.size w w4) := hB3.out.trans (hb4.mono hB3.out.size)
              clear KF hb4 hB3
              as_aux_lemma =>
              cases fb with
              | true =>
                have hyes := hiff.out.1 rfl
                have hFs2 : Hid (∀ b, F2.testBit b = true ↔ b < u + 1 ∧ ∃ g, FullM L.length (fn L) g ∧ g iN = b) := fun b => by
                  rw [horb.out b, hFs.out b]
                  constructor
                  · rintro (⟨h1, h2⟩ | rfl)
                    · exact ⟨by omega, h2⟩
                    · exact ⟨by omega, hyes⟩
                  · rintro ⟨h1, h2⟩
                    rcases Nat.lt_or_ge b u with h | h
                    · exact .inl ⟨h, h2⟩
                    · exact .inr (by omega)
                go_wp2
                exact ⟨⟨u + 1, F2, by omega, by go_num, rfl, horl, hFs2, hB4⟩, by simp [intOf]; omega⟩
              | false =>
                have hFs2 : Hid (∀ b, F.testBit b = true ↔ b < u + 1 ∧ ∃ g, FullM L.length (fn L) g ∧ g iN = b) := fun b => by
                  rw [hFs.out b]
                  constructor
                  · rintro ⟨h1, h2⟩; exact ⟨by omega, h2⟩
                  · rintro ⟨h1, h2⟩
                    refine ⟨?_, h2⟩
                    rcases Nat.lt_or_ge b u with h | h
                    · exact h
                    · obtain rfl : b = u := by omega
                      have := hiff.out.2 h2
                      cases this
                go_wp2
                exact ⟨⟨u + 1, F, by omega, by go_num, rfl, hF, hFs2, hB4⟩, by simp [intOf]; omega⟩
            · have hbit0 : (fn L iN).testBit u = false := by simpa using hbit
              have hs1 := shr_bitF hx hbit0
              have hFs2 : Hid (∀ b, F.testBit b = true ↔ b < u + 1 ∧ ∃ g, FullM L.length (fn L) g ∧ g iN = b) := fun b => by
                rw [hFs.out b]
                constructor
                · rintro ⟨h1, h2⟩; exact ⟨by omega, h2⟩
                · rintro ⟨h1, g', h2, h3⟩
                  refine ⟨?_, g', h2, h3⟩
                  rcases Nat.lt_or_ge b u with h | h
                  · exact h
                  · obtain rfl : b = u := by omega
                    have := h2.bit iN hi
                    rw [h3] at this
                    exact absurd this hbit
              go_wp2
              exact ⟨⟨u + 1, F, by omega, by go_num, rfl, hF, hFs2, hB⟩, by simp [intOf]; omega⟩
          · obtain rfl : u = 64 := by omega
            have hend : Hid (FreS L.length (fn L) (iN : Int) F) := fun b => by
              rw [hFs.out b]
              constructor
              · rintro ⟨_, g', h1, h2⟩
                exact ⟨hn, by omega, by omega, g', h1, h2⟩
              · rintro ⟨_, _, _, g', h1, h2⟩
                have h2' : g' iN = b := h2
                refine ⟨?_, g', h1, h2'⟩
                have hb := h1.bit iN hi
                rw [h2'] at hb
                rcases Nat.lt_or_ge b 64 with q | q
                · exact q
                · rw [Nat.testBit_lt_two_pow (Nat.lt_of_lt_of_le hx (Nat.pow_le_pow_right (n := 2) (by decide) q))] at hb; cases hb
            go_wp2
            go_ret
            exact ⟨F, rfl, ⟨hF, hend.out⟩, hB⟩
  · have hn' : (12 : Int) < (L.length : Int) := by omega
    have hend : FreS L.length (fn L) i 0 := FreS.zero fun h => by omega
    go_enter Tryd.func16, Tryd.ntmps16
    go_wp2
    go_ret
    exact ⟨0, rfl, ⟨by decide, hend⟩, Below.refl _ _⟩
end
end Go.Proofs.YthjgbnehoiafhaaDoor.M

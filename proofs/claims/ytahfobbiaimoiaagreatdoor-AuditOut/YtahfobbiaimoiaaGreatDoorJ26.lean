/- The document's Pairs. -/
import Derived.Test.YtahfobbiaimoiaaGreatDoorJ13
import Derived.Test.YtahfobbiaimoiaaGreatDoorJ14
import Derived.Test.YtahfobbiaimoiaaGreatDoorJ25
namespace Go.Proofs.YtahfobbiaimoiaaGreatDoor
open Go.RowKit
theorem newC_down {w W w' : World} {n : Int} {L : List (Int × Int)} {po : Option Addr} {z : Int} (h : O.NewC W n L po z w') (hs : w.heap.size ≤ W.heap.size) : O.NewC w n L po z w' := by
  rcases h with h | h | ⟨h1, h2, h3, go, gp, gs, Pf, Sf, h4, h5, h6⟩
  · exact .inl h
  · exact .inr (.inl h)
  · exact .inr (.inr ⟨h1, h2, h3, go, gp, gs, Pf, Sf, h4, ⟨by omega, by omega, by omega⟩, h6⟩)
theorem cellsP_snoc (L : List (Int × Int)) (p : Int × Int) : O.cellsP (L ++ [p]) = O.cellsP L ++ [.int .i64 p.1, .int .i64 p.2] := by simp [O.cellsP]
set_option maxRecDepth 100000 in
set_option maxHeartbeats 4000000 in
theorem orderOfF (L : List Sp) (sv : Value) (w : World) (hr : RowS w sv L) (hl : L.length ≤ 1000) (hb : ∀ s ∈ L, s.after.length ≤ 30) (ht : O.Tab w) :
    Calls Tryz.prog 117 #[sv] w fun e w' => ∃ po z, e = .returned (.tuple #[.pointer po, .int .i64 z]) ∧ Hid (O.NewC w (L.length : Nat) (prs L) po z w') ∧ Below w.heap.size w w' := by
  obtain ⟨oa, cap, rfl, hcap, hc⟩ := hr
  have hc' := hide' hc
  have hP : Hid (∀ c, c ≤ L.length → (prT L c).length ≤ 30000) := fun c h => by have := prT_len hb c; omega
  clear hc hcap
  go_enter Tryz.func117, Tryz.ntmps117
  go_wp2
  go_loopw [4, 11] (fun v k wr => ∃ (c : Nat), c ≤ L.length ∧ k = .int .i64 c ∧ Hid (wr.ownsRow w.heap.size 93 2 v (prT L c).length (O.cellsP (prT L c))) ∧ Hid (Below w.heap.size w wr)) (fun _ k _ => ((L.length : Int) - intOf k).toNat)
  case atStart => exact ⟨0, Nat.zero_le _, rfl, World.ownsRow_nil w _ _ _, Below.refl _ _⟩
  case round =>
    obtain ⟨c, hcl, rfl, hO, hB⟩ := hrel
    by_cases hlt : c < L.length
    · obtain ⟨s, hx⟩ : ∃ x, L[c]? = some x := ⟨_, List.getElem?_eq_getElem hlt⟩
      obtain ⟨g, o, av, rfl, c1', c2', c3', hs⟩ := hc'.out c s hx
      have c1 := (hB.out.cell (p := ⟨g, o + c * 3, none⟩) (cell_lt c1')).trans c1'
      have c2 := (hB.out.cell (p := ⟨g, o + c * 3 + 1, none⟩) (cell_lt c2')).trans c2'
      have c3 := (hB.out.cell (p := ⟨g, o + c * 3 + 2, none⟩) (cell_lt c3')).trans c3'
      obtain ⟨os, cs, rfl, _, hsc⟩ := hs
      have hsc' := hide' hsc
      have hN := hide' (prT_at hx)
      have hs30 := hb s (List.mem_of_getElem? hx)
      have hP1 := hP.out c (by omega)
      clear hc' c1' c2' c3' hx hb hP hsc
      generalize hPe : prT L c = P at *
      have hO1 : Hid ((wr.alloc (.cells #[.string s.name, .string s.duty, .slice os s.after.length cs] 95)).ownsRow w.heap.size 93 2 u4 P.length (O.cellsP P)) := hO.out.alloc _
      have hB1 : Hid (Below w.heap.size w (wr.alloc (.cells #[.string s.name, .string s.duty, .slice os s.after.length cs] 95))) := hB.out.alloc hB.out.size _
      clear hO hB hPe
      generalize s.after = D at *
      go_wp2
      go_loopw [4, 19] (fun v k wr => ∃ (j : Nat), j ≤ D.length ∧ k = .int .i64 j ∧ Hid (∃ M, M = P ++ (D.take j).map (fun a => (a, (c : Int))) ∧ M.length = P.length + j ∧ wr.ownsRow w.heap.size 93 2 v M.length (O.cellsP M)) ∧ Hid (Below w.heap.size w wr)) (fun _ k _ => ((D.length : Int) - intOf k).toNat)
      case atStart => exact ⟨0, Nat.zero_le _, rfl, ⟨P, by simp, by simp, hO1.out⟩, hB1.out⟩
      case round =>
        obtain ⟨j, hjl, rfl, hM, hB⟩ := hrel
        obtain ⟨M, hM1, hM3, hM2⟩ := hM.out
        have hMl := hide' hM3
        have hMe := hide' hM1
        have hMo := hide' hM2
        have hMn : M.length ≤ 1000000 := by omega
        clear hM hM1 hM2 hM3
        by_cases hj : j < D.length
        · obtain ⟨x, hx⟩ : ∃ x, D[j]? = some x := ⟨_, List.getElem?_eq_getElem hj⟩
          obtain ⟨gs, oo, rfl, cx'⟩ := hsc'.out j x hx
          have cx := (hB.out.cell (p := ⟨gs, oo + j, none⟩) (cell_lt cx')).trans cx'
          have hE : Hid (M ++ [(x, (c : Int))] = P ++ (D.take (j + 1)).map (fun a => (a, (c : Int)))) := by
            show _ = _
            rw [hMe.out, List.take_add_one, hx]
            simp
          have hBs := hB.out.size
          clear hx hsc' hMe cx'
          go_wp2_with (at_builtin; refine app1 elP rfl _ _ rfl w.heap.size _ u4 M.length (O.cellsP M) [.int .i64 x, .int .i64 (c : Int)] rfl rfl hMo.out rfl (by intro u hu; simp at hu; rcases hu with rfl | rfl <;> rfl) hBs hMn ?_; intro oa' cap' w2 hown hgr)
          exact ⟨⟨j + 1, by omega, by go_num, ⟨M ++ [(x, (c : Int))], hE.out, by simp; have := hMl.out; omega, by rw [cellsP_snoc, List.length_append]; exact hown⟩, hB.out.trans (below_of_grown hgr hBs (own_le hMo.out (Nat.le_refl _)))⟩, by simp [intOf]; omega⟩
        · obtain rfl : j = D.length := by omega
          rw [List.take_length] at hMe
          have hE : Hid (M = prT L (c + 1)) := hMe.out.trans hN.out.symm
          clear hsc' hMe hN
          go_wp2
          exact ⟨⟨c + 1, by omega, by go_num, by rw [← hE.out]; exact hMo, hB.out⟩, by simp [intOf]; omega⟩
    · obtain rfl : c = L.length := by omega
      have hpa : Hid (O.PairsAt wr u4 (prs L)) := O.PairsAt.of_owns (n₀ := w.heap.size) hO.out
      have hpl := hP.out L.length (Nat.le_refl _)
      have KN := hide' (O.newT (L.length : Nat) u4 (prs L) wr hpa.out (by unfold prs; omega) (ht.over hB.out))
      clear hc' hP hpa hO
      go_wp2_with fail
      refine KN.out.mono ?_
      rintro e w2 ⟨po, z, rfl, hC, hb2⟩
      go_wp2
      exact bodyPost_ret (v := .tuple #[.pointer po, .int .i64 z]) (by simp [results, Tryz.results117, go_sem]) rfl ⟨po, z, rfl, newC_down hC.out hB.out.size, hB.out.trans (hb2.mono hB.out.size)⟩
end Go.Proofs.YtahfobbiaimoiaaGreatDoor
namespace Go.Proofs.YtahfobbiaimoiaaGreatDoor
open Go.RowKit
set_option maxRecDepth 100000 in
set_option maxHeartbeats 4000000 in
theorem pairsD (L : List Sp) (sv : Value) (nm : ByteArray) (orr : Option Addr) (lr cr : Nat) (w : World) (hr : RowS w sv L) (hl : L.length ≤ 1000) (hb : ∀ s ∈ L, s.after.length ≤ 30) :
    Calls Tryz.prog 83 #[.agg #[.string nm, sv, .slice orr lr cr]] w fun e w' => ∃ v', e = .returned v' ∧ O.PairsAt w' v' (prs L) ∧ Below w.heap.size w w' := by
  obtain ⟨oa, cap, rfl, hcap, hc⟩ := hr
  have hc' := hide' hc
  have hP : Hid (∀ c, c ≤ L.length → (prT L c).length ≤ 30000) := fun c h => by have := prT_len hb c; omega
  have D1 := hide' (heap_alloc_new w (.cells #[.string nm, .slice oa L.length cap, .slice orr lr cr] 25))
  have B0 : Hid (Below w.heap.size w (w.alloc (.cells #[.string nm, .slice oa L.length cap, .slice orr lr cr] 25))) := (Below.refl _ w).alloc (Nat.le_refl _) _
  clear hc hcap
  go_enter Tryz.func83, Tryz.ntmps83
  go_wp2
  generalize w.alloc (.cells #[.string nm, .slice oa L.length cap, .slice orr lr cr] 25) = W1 at *
  have hs1 := B0.out.size
  have hK : Hid (∀ W, Below W1.heap.size W1 W → Below w.heap.size w W ∧ W.cell? ⟨w.heap.size, 1, none⟩ = some (.slice oa L.length cap)) := fun W hW => by
    have e1 := (hW.block _ (Array.getElem?_eq_some_iff.1 D1.out).1).trans D1.out
    exact ⟨B0.out.trans (hW.mono B0.out.size), by simp [World.cell?, e1]⟩
  clear D1
  go_loopw [3, 4] (fun v k wr => ∃ (c : Nat), c ≤ L.length ∧ k = .int .i64 c ∧ Hid (wr.ownsRow W1.heap.size 93 2 v (prT L c).length (O.cellsP (prT L c))) ∧ Hid (Below W1.heap.size W1 wr)) (fun _ k _ => ((L.length : Int) - intOf k).toNat)
  case atStart => exact ⟨0, Nat.zero_le _, rfl, World.ownsRow_nil W1 _ _ _, Below.refl _ _⟩
  case round =>
    obtain ⟨c, hcl, rfl, hO, hB⟩ := hrel
    have k1 := (hK.out wr hB.out).2
    by_cases hlt : c < L.length
    · obtain ⟨s, hx⟩ : ∃ x, L[c]? = some x := ⟨_, List.getElem?_eq_getElem hlt⟩
      obtain ⟨g, o, av, rfl, c1', c2', c3', hs⟩ := hc'.out c s hx
      have C3 := hide' c3'
      obtain ⟨os, cs, rfl, _, hsc⟩ := hs
      have hsc' := hide' hsc
      have hN := hide' (prT_at hx)
      have hs30 := hb s (List.mem_of_getElem? hx)
      have hP1 := hP.out c (by omega)
      clear hc' c1' c2' c3' hx hb hP hsc
      generalize prT L c = P at *
      generalize s.after = D at *
      go_wp2
      go_loopw [3, 5] (fun v k wr => ∃ (j : Nat), j ≤ D.length ∧ k = .int .i64 j ∧ Hid (∃ M, M = P ++ (D.take j).map (fun a => (a, (c : Int))) ∧ M.length = P.length + j ∧ wr.ownsRow W1.heap.size 93 2 v M.length (O.cellsP M)) ∧ Hid (Below W1.heap.size W1 wr)) (fun _ k _ => ((D.length : Int) - intOf k).toNat)
      case atStart => exact ⟨0, Nat.zero_le _, rfl, ⟨P, by simp, by simp, hO.out⟩, hB.out⟩
      case round =>
        obtain ⟨j, hjl, rfl, hM, hB⟩ := hrel
        obtain ⟨hBw, k1⟩ := hK.out wr hB.out
        have c3 := (hBw.cell (p := ⟨g, o + c * 3 + 2, none⟩) (cell_lt C3.out)).trans C3.out
        obtain ⟨M, hM1, hM3, hM2⟩ := hM.out
        have hMl := hide' hM3
        have hMe := hide' hM1
        have hMo := hide' hM2
        have hMn : M.length ≤ 1000000 := by omega
        clear hM hM1 hM2 hM3
        by_cases hj : j < D.length
        · obtain ⟨x, hx⟩ : ∃ x, D[j]? = some x := ⟨_, List.getElem?_eq_getElem hj⟩
          obtain ⟨gs, oo, rfl, cx'⟩ := hsc'.out j x hx
          have cx := (hBw.cell (p := ⟨gs, oo + j, none⟩) (cell_lt cx')).trans cx'
          have hE : Hid (M ++ [(x, (c : Int))] = P ++ (D.take (j + 1)).map (fun a => (a, (c : Int)))) := by
            show _ = _
            rw [hMe.out, List.take_add_one, hx]
            simp
          have hBs := hB.out.size
          clear hx hsc' hMe cx' hBw
          go_wp2_with (at_builtin; refine app1 elP rfl _ _ rfl W1.heap.size _ u3 M.length (O.cellsP M) [.int .i64 x, .int .i64 (c : Int)] rfl rfl hMo.out rfl (by intro u hu; simp at hu; rcases hu with rfl | rfl <;> rfl) hBs hMn ?_; intro oa' cap' w2 hown hgr)
          exact ⟨⟨j + 1, by omega, by go_num, ⟨M ++ [(x, (c : Int))], hE.out, by simp; have := hMl.out; omega, by rw [cellsP_snoc, List.length_append]; exact hown⟩, hB.out.trans (below_of_grown hgr hBs (own_le hMo.out (Nat.le_refl _)))⟩, by simp [intOf]; omega⟩
        · obtain rfl : j = D.length := by omega
          rw [List.take_length] at hMe
          have hE : Hid (M = prT L (c + 1)) := hMe.out.trans hN.out.symm
          clear hsc' hMe hN hBw
          go_wp2
          exact ⟨⟨c + 1, by omega, by go_num, by rw [← hE.out]; exact hMo, hB.out⟩, by simp [intOf]; omega⟩
    · obtain rfl : c = L.length := by omega
      have hpa : Hid (O.PairsAt wr u3 (prs L)) := O.PairsAt.of_owns (n₀ := W1.heap.size) hO.out
      have hBw := hide' (hK.out wr hB.out).1
      clear hc' hP hO hK
      go_wp2
      go_ret
      exact ⟨_, rfl, hpa.out, hBw.out⟩
end Go.Proofs.YtahfobbiaimoiaaGreatDoor

/- The law RankExact: walked. -/
import Derived.Test.YtegpgjiccpglbaaDoorYTwo
import Derived.Deep.CutBlock
import Derived.Deep.CutRange
namespace Go.Proofs.YtegpgjiccpglbaaDoor
open Go.RowKit
def zcS : Array Value := #[.pointer none, .pointer none, .pointer none, .pointer none]
theorem zeroS (w : World) : (zeroValue 27).run Tryd.prog w = .ok (.agg zcS) w := by kernel_rfl
theorem two_start {w : World} (ht : Tab w) : Two w (w.alloc (.cells #[.pointer none, .pointer none, .pointer none, .pointer none] 27)) w.heap.size 0 (fun _ => 0) (fun _ => 0) (fun _ => .pointer none) (fun _ => noJ) (fun _ => []) := by
  have hb := (Below.refl _ w).alloc (Nat.le_refl _) (.cells #[.pointer none, .pointer none, .pointer none, .pointer none] 27)
  refine ⟨hb, ht.over hb, ht.2, ⟨fun _ => .pointer none, World.rowIs_alloc w #[.pointer none, .pointer none, .pointer none, .pointer none] _ _ (fun i hi => ?_), fun k hk => by omega⟩, fun k hk => by omega, fun k hk => by omega, fun j k hj => by omega⟩
  match i, hi with
  | 0, _ => rfl
  | 1, _ => rfl
  | 2, _ => rfl
  | 3, _ => rfl
/-- A new pair of hierarchies. -/
theorem sd_new {W w1 : World} (h1 : RkAt w1 W.heap.size noJ) : SdAt (w1.alloc (.cells #[.slice none 0 0] 31)) W.heap.size w1.heap.size (.slice none 0 0) noJ [] := by
  have hb := (Below.refl _ w1).alloc (Nat.le_refl _) (.cells #[.slice none 0 0] 31)
  exact ⟨h1.over hb, ⟨Deep.blk_alloc_new _ _, World.ownsRow_nil _ _ _ _⟩, sm_no⟩
set_option maxRecDepth 100000 in
set_option maxHeartbeats 20000000 in
theorem rankExact_walk (L : List OpT) (v : Value) (w : World) (hr : RowOp w v L) (ht : Tab w) : Calls Tryd.prog 3 #[v] w fun e w' => e = .returned (.bool true) ∧ Below w.heap.size w w' := by
  have z0 := zeroS
  obtain ⟨oa, cap, rfl, hcap, hrow⟩ := hr
  have hrow' := hide' hrow
  clear hrow
  have hT0 := hide' (two_start ht)
  have hrw : Hid (∀ V, Below w.heap.size w V → ∀ (i : Nat) (p : OpT), L[i]? = some p → (∃ g o, oa = some ⟨g, o, none⟩ ∧ g < w.heap.size ∧ V.cell? ⟨g, o + i * 5, none⟩ = some (.int .i64 p.on) ∧ V.cell? ⟨g, o + i * 5 + 1, none⟩ = some (.int .i64 p.op) ∧ V.cell? ⟨g, o + i * 5 + 2, none⟩ = some (.int .i64 p.a) ∧ V.cell? ⟨g, o + i * 5 + 3, none⟩ = some (.int .i64 p.b) ∧ V.cell? ⟨g, o + i * 5 + 4, none⟩ = some (.int .u64 (p.s : Int))) ∧ p.s < 18446744073709551616) := fun V hV i p hp => by
    obtain ⟨⟨g, o, e, c0, c1, c2, c3, c4⟩, hs⟩ := hrow'.out i p hp
    exact ⟨⟨g, o, e, cell_lt c0, cell_over c0 hV, cell_over c1 hV, cell_over c2 hV, cell_over c3 hV, cell_over c4 hV⟩, hs⟩
  clear hrow'
  generalize hla : w.heap.size = la at *
  go_enter Tryd.func3, Tryd.ntmps3
  go_upto_block 0 with fail
  try rw [hla]
  go_cut [4] from 8 to 26 (fun s wx => ∃ bs rs vs Js Ds, Hid (Two w wx la 2 bs rs vs Js Ds))
  case first =>
    as_aux_lemma =>
    go_wp2_with fail
    try rw [hla]
    go_loopw [4] (fun k wr => ∃ (n : Nat) (bs rs : Nat → Nat) (vs : Nat → Value) (Js : Nat → Nat → Nat) (Ds : Nat → List (Int × Int)), n ≤ 2 ∧ k = .int .i64 n ∧ Hid (Two w wr la n bs rs vs Js Ds)) (fun k _ => (2 - intOf k).toNat)
    case atStart => exact ⟨0, _, _, _, _, _, by omega, rfl, hT0⟩
    case round =>
      clear hT0 z0
      obtain ⟨n, bs, rs, vs, Js, Ds, hn, rfl, hT⟩ := hrel
      by_cases hlt : n < 2
      · have KN := hide' (newR wr hT.out.tab)
        have hll := hT.out.lt
        obtain ⟨f, hf, _⟩ := hT.out.arr
        have hf' := hide' hf
        clear hf
        go_wp2_with fail
        refine KN.out.mono ?_
        rintro e w1 ⟨rfl, hr1, hb1⟩
        have hS1 := hide' (sd_new hr1)
        have hB2 : Hid (Below wr.heap.size wr (w1.alloc (.cells #[.slice none 0 0] 31))) := hb1.alloc hb1.size _
        have hT2 := hide' (hT.out.add hlt hB2.out (Nat.le_refl _) hb1.size hS1.out)
        have hrow2 := hf'.out.of_block (hB2.out.block la hll)
        have f1 := hrow2.frozen (n * 2)
        have f2 := hrow2.frozen (n * 2 + 1)
        have hln : n * 2 < 4 := by omega
        have hln1 : n * 2 + 1 < 4 := by omega
        have c1 := hrow2.cell hln
        have c2 := hrow2.cell hln1
        have hz1 := hb1.size
        clear hr1 hb1 hrow2 KN
        have KW := hide' (wakes _ hT2.out.tab)
        go_wp2_with fail
        refine KW.out.mono ?_
        rintro e w3 ⟨rfl, hb3⟩
        have hT3 := hide' (hT2.out.over hb3)
        clear hb3 KW hT2 hS1 hB2 hf'
        go_wp2
        exact ⟨⟨n + 1, _, _, _, _, _, by omega, by go_num, hT3⟩, by simp [intOf]; omega⟩
      · obtain rfl : n = 2 := by omega
        go_wp2
        go_meet
        exact ⟨bs, rs, vs, Js, Ds, hT⟩
  case rest =>
  as_aux_lemma =>
  clear hT0 z0
  obtain ⟨bs, rs, vs, Js, Ds, hT⟩ := hcut
  have hT1 : Hid (∃ vs Js Ds, Two w wc la 2 bs rs vs Js Ds) := ⟨vs, Js, Ds, hT.out⟩
  clear hT vs Js Ds
  go_upto_block 2 with fail
  go_cut [5] from 27 to 50 (fun s wx => Hid (∃ vs Js Ds, Two w wx la 2 bs rs vs Js Ds))
  case first =>
    as_aux_lemma =>
    go_wp2_with fail
    go_loopw [5] (fun k wr => ∃ c : Nat, k = .int .i64 c ∧ c ≤ L.length ∧ Hid (∃ vs Js Ds, Two w wr la 2 bs rs vs Js Ds)) (fun k _ => ((L.length : Int) - intOf k).toNat)
    case atStart => exact ⟨0, rfl, Nat.zero_le _, hT1⟩
    case round =>
      clear hT1
      obtain ⟨c, rfl, hc, hT⟩ := hrel
      by_cases h1 : c < L.length
      · by_cases h2 : c < 120
        · obtain ⟨p, hp⟩ : ∃ p, L[c]? = some p := ⟨_, List.getElem?_eq_getElem h1⟩
          obtain ⟨vs, Js, Ds, hT2⟩ := hT.out
          obtain ⟨⟨g, o, rfl, hgb, c0, c1, c2, c3, c4⟩, hsl⟩ := hrw.out wr hT2.bel c p hp
          obtain ⟨k, hk2, hk⟩ := and_one p.on
          obtain ⟨f, hf, hfe⟩ := hT2.arr
          have hlk : k * 2 < 4 := by omega
          have hlk1 : k * 2 + 1 < 4 := by omega
          have a0 := hf.cell hlk
          have a1 := hf.cell hlk1
          rw [(hfe k hk2).1] at a0
          rw [(hfe k hk2).2] at a1
          obtain ⟨q1, q2, q3⟩ := hT2.far k hk2
          have hdr : Below wr.heap.size wr wr.drew := (Below.refl _ _).drew
          have KP := hide' (playsR ((hT2.sd k hk2).over hdr) (by have := hT2.gla; omega) (FarV.of hT2.gla q3) p.on p.op p.a p.b p.s hsl)
          have hnx : Hid (∀ V v' J' D', SdAt V (bs k) (rs k) v' J' D' → Ny (bs k) (rs k) (vs k) v' wr.drew V → ∃ vs Js Ds, Two w V la 2 bs rs vs Js Ds) := fun V v' J' D' hS hN => ⟨_, _, _, (hT2.over hdr).step hk2 hS hN⟩
          have hnl : ¬ (la = bs k ∨ la = rs k ∨ (vs k).ownBlock = some la) := by
            rintro (e | e | e)
            · omega
            · omega
            · have := q3 _ e; omega
          have hng : ¬ (g = bs k ∨ g = rs k ∨ (vs k).ownBlock = some g) := by
            rintro (e | e | e)
            · omega
            · omega
            · have := q3 _ e; omega
          have hkp : Hid (∀ V v', Ny (bs k) (rs k) (vs k) v' wr.drew V → V.cell? ⟨g, o + c * 5, none⟩ = some (.int .i64 p.on) ∧ V.cell? ⟨g, o + c * 5 + 1, none⟩ = some (.int .i64 p.op) ∧ V.cell? ⟨g, o + c * 5 + 2, none⟩ = some (.int .i64 p.a) ∧ V.cell? ⟨g, o + c * 5 + 3, none⟩ = some (.int .i64 p.b) ∧ V.cell? ⟨g, o + c * 5 + 4, none⟩ = some (.int .u64 (p.s : Int)) ∧ V.cell? ⟨la, k * 2, none⟩ = some (.pointer (some ⟨bs k, 0, none⟩)) ∧ V.cell? ⟨la, k * 2 + 1, none⟩ = some (.pointer (some ⟨rs k, 0, none⟩))) := fun V v' hN => ⟨hN.1.cell c0 hng, hN.1.cell c1 hng, hN.1.cell c2 hng, hN.1.cell c3 hng, hN.1.cell c4 hng, hN.1.cell a0 hnl, hN.1.cell a1 hnl⟩
          have g1 : (k : Int) < 2 := by omega
          have g2 : (0 : Int) ≤ (k : Int) := by omega
          clear hp hcap hrw hT hT2 hf hfe q1 q2 q3 hnl hng
          generalize p.on = on at *
          generalize p.op = d at *
          generalize p.a = pa at *
          generalize p.b = pb at *
          generalize p.s = ps at *
          generalize bs k = b at *
          generalize rs k = r at *
          generalize vs k = vk at *
          have hi0 : Hid (wr.drew.cell? ⟨g, o + c * 5, none⟩ = some (.int .i64 on) ∧ wr.drew.cell? ⟨g, o + c * 5 + 1, none⟩ = some (.int .i64 d) ∧ wr.drew.cell? ⟨g, o + c * 5 + 2, none⟩ = some (.int .i64 pa) ∧ wr.drew.cell? ⟨g, o + c * 5 + 3, none⟩ = some (.int .i64 pb) ∧ wr.drew.cell? ⟨g, o + c * 5 + 4, none⟩ = some (.int .u64 (ps : Int)) ∧ wr.drew.cell? ⟨la, k * 2, none⟩ = some (.pointer (some ⟨b, 0, none⟩)) ∧ wr.drew.cell? ⟨la, k * 2 + 1, none⟩ = some (.pointer (some ⟨r, 0, none⟩))) := ⟨c0, c1, c2, c3, c4, a0, a1⟩
          go_wp2
          go_region_held3 (fun V => V.cell? ⟨g, o + c * 5, none⟩ = some (.int .i64 on) ∧ V.cell? ⟨g, o + c * 5 + 1, none⟩ = some (.int .i64 d) ∧ V.cell? ⟨g, o + c * 5 + 2, none⟩ = some (.int .i64 pa) ∧ V.cell? ⟨g, o + c * 5 + 3, none⟩ = some (.int .i64 pb) ∧ V.cell? ⟨g, o + c * 5 + 4, none⟩ = some (.int .u64 (ps : Int)) ∧ V.cell? ⟨la, k * 2, none⟩ = some (.pointer (some ⟨b, 0, none⟩)) ∧ V.cell? ⟨la, k * 2 + 1, none⟩ = some (.pointer (some ⟨r, 0, none⟩))) (first | assumption | (exact hi0.out) | (exact hkp.out _ _ hN3'.out)) (first | (go_at_call 9; refine KP.out.mono ?_; rintro e w3 ⟨rfl, v3, J3, D3, hS3, hN3⟩; have hN3' := hide' hN3; have hT3 := hide' (hnx.out _ _ _ _ hS3 hN3); clear hS3 hN3))
          go_wp2
          exact ⟨⟨c + 1, by go_num, by omega, hT3⟩, by simp [intOf]; omega⟩
        · go_wp2
          go_meet
          exact hT
      · go_wp2
        go_meet
        exact hT
  case rest =>
  as_aux_lemma =>
  clear hT1 hrw hcap
  have hT1 := hcut
  clear hcut
  go_upto_block 4 with fail
  go_cut [6, 7] from 51 to 71 (fun s6 s7 wx => Hid (∃ vs Js Ds, Two w wx la 2 bs rs vs Js Ds))
  case first =>
    as_aux_lemma =>
    have hside : Hid (∀ V k, k < 2 → (∃ vs Js Ds, Two w V la 2 bs rs vs Js Ds) → V.cell? ⟨la, k * 2, none⟩ = some (.pointer (some ⟨bs k, 0, none⟩)) ∧ V.cell? ⟨la, k * 2 + 1, none⟩ = some (.pointer (some ⟨rs k, 0, none⟩)) ∧ ∀ d x : Int, Calls Tryd.prog 9 #[.agg #[.pointer (some ⟨bs k, 0, none⟩), .pointer (some ⟨rs k, 0, none⟩)], .agg #[.int .i64 0, .int .i64 d, .int .i64 x, .int .i64 0, .int .u64 0]] V fun e w' => e = .returned (.bool true) ∧ ∃ vs Js Ds, Two w w' la 2 bs rs vs Js Ds) := fun V k hk ⟨vs, Js, Ds, hT2⟩ => by
      obtain ⟨f, hf, hfe⟩ := hT2.arr
      have a0 := hf.cell (i := k * 2) (by omega)
      have a1 := hf.cell (i := k * 2 + 1) (by omega)
      rw [(hfe k hk).1] at a0
      rw [(hfe k hk).2] at a1
      obtain ⟨q1, q2, q3⟩ := hT2.far k hk
      refine ⟨a0, a1, fun d x => ?_⟩
      exact (playsR (hT2.sd k hk) (by have := hT2.gla; omega) (FarV.of hT2.gla q3) 0 d x 0 0 (by decide)).mono fun e w' ⟨h1, v', J', D', hS, hN⟩ => ⟨h1, _, _, _, hT2.step hk hS hN⟩
    go_wp2_with fail
    go_loopw [6, 7] (fun k s7 wr => ∃ n : Nat, k = .int .i64 n ∧ n ≤ 2 ∧ Hid (∃ vs Js Ds, Two w wr la 2 bs rs vs Js Ds)) (fun k _ _ => (2 - intOf k).toNat)
    case atStart => exact ⟨0, rfl, by omega, hT1⟩
    case round =>
      clear hT1
      obtain ⟨n, rfl, hn, hT⟩ := hrel
      by_cases hlt : n < 2
      · have hdn : decide ((n : Int) < 2) = true := by simp; omega
        have g1 : (n : Int) < 2 := by omega
        have g2 : (0 : Int) ≤ (n : Int) := by omega
        go_upto_block 6 with fail
        go_cut [7] from 55 to 65 (fun s7 wx => Hid (∃ vs Js Ds, Two w wx la 2 bs rs vs Js Ds))
        case first =>
          as_aux_lemma =>
          go_wp2_with fail
          go_loopw [7] (fun k wv => ∃ a : Nat, k = .int .i64 a ∧ a ≤ 64 ∧ Hid (∃ vs Js Ds, Two w wv la 2 bs rs vs Js Ds)) (fun k _ => (64 - intOf k).toNat)
          case atStart => exact ⟨0, rfl, by omega, hT⟩
          case round =>
            clear hT
            obtain ⟨a, rfl, ha, hT⟩ := hrel
            by_cases hla2 : a < 64
            · obtain ⟨a0, a1, KP⟩ := hside.out wr n hlt hT.out
              have KP' := hide' (KP 4 (a : Int))
              clear KP hT hside
              generalize bs n = b at *
              generalize rs n = r at *
              go_wp2_with fail
              refine KP'.out.mono ?_
              rintro e w3 ⟨rfl, hT3⟩
              have hT3' := hide' hT3
              clear hT3
              go_wp2
              exact ⟨⟨a + 1, by go_num, by omega, hT3'⟩, by simp [intOf]; omega⟩
            · go_wp2
              go_meet
              exact hT
        case rest =>
        as_aux_lemma =>
        have hT4 := hcut
        clear hcut hT
        obtain ⟨a0, a1, KP⟩ := hside.out _ n hlt hT4.out
        have KP' := hide' (KP 9 0)
        clear KP hT4 hside
        generalize bs n = b at *
        generalize rs n = r at *
        go_wp2_with fail
        refine KP'.out.mono ?_
        rintro e w3 ⟨rfl, hT3⟩
        have hT3' := hide' hT3
        clear hT3
        go_wp2
        exact ⟨⟨n + 1, by go_num, by omega, hT3'⟩, by simp [intOf]; omega⟩
      · go_wp2
        go_meet
        exact hT
  case rest =>
  as_aux_lemma =>
  obtain ⟨vs, Js, Ds, hT2⟩ := hcut.out
  have hB := hide' hT2.bel
  clear hT2 hcut hT1
  go_wp2
  go_ret
  exact ⟨rfl, hB.out⟩
end Go.Proofs.YtegpgjiccpglbaaDoor

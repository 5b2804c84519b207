/- The law RankDepth: walked. -/
import Derived.Test.YtegpgjiccpglbaaDoorYReachM
import Derived.Test.YtegpgjiccpglbaaDoorYOps
import Derived.Test.YtegpgjiccpglbaaDoorYLinks
import Derived.Test.YtegpgjiccpglbaaDoorYDrop
import Derived.Test.YtegpgjiccpglbaaDoorYWake
import Derived.Deep.CutBlock
import Derived.Deep.CutRange
import Derived.Deep.QuietTactic
import Derived.BigQuiet
namespace Go.Proofs.YtegpgjiccpglbaaDoor
open Go.RowKit
theorem keepC' {W W' : World} {g b x y : Nat} {u v : Value} (h : W.cell? ⟨g, x, none⟩ = some u ∧ W.cell? ⟨g, y, none⟩ = some v) (hg : W.grownBy W' (some b)) (hne : g ≠ b) : W'.cell? ⟨g, x, none⟩ = some u ∧ W'.cell? ⟨g, y, none⟩ = some v :=
  ⟨hg.cell h.1 (by simpa using hne), hg.cell h.2 (by simpa using hne)⟩
/-- The best so far, one link on. -/
def bst (J : Nat → Nat) (a : Nat) (b : Nat) (p : Int × Int) : Nat := if p.1 = (a : Int) ∧ b < 1 + dep J p.2.toNat then 1 + dep J p.2.toNat else b
theorem bst_le {J : Nat → Nat} {a : Nat} : ∀ (l : List (Int × Int)) (b : Nat), (∀ p ∈ l, p.1 = (a : Int) → 1 + dep J p.2.toNat ≤ dep J a) → b ≤ dep J a → l.foldl (bst J a) b ≤ dep J a
  | [], _, _, h => h
  | p :: l, b, hl, h => by
    rw [List.foldl_cons]
    refine bst_le l _ (fun q hq => hl q (by simp [hq])) ?_
    unfold bst; split
    · rename_i hh; exact hl p (by simp) hh.1
    · exact h
theorem bst_ge {J : Nat → Nat} {a : Nat} : ∀ (l : List (Int × Int)) (b : Nat), b ≤ l.foldl (bst J a) b ∧ ∀ p ∈ l, p.1 = (a : Int) → 1 + dep J p.2.toNat ≤ l.foldl (bst J a) b
  | [], b => ⟨Nat.le_refl _, fun p hp => by cases hp⟩
  | p :: l, b => by
    rw [List.foldl_cons]
    obtain ⟨h1, h2⟩ := bst_ge l (bst J a b p)
    have h3 : b ≤ bst J a b p ∧ (p.1 = (a : Int) → 1 + dep J p.2.toNat ≤ bst J a b p) := by
      unfold bst; split
      · rename_i hh; exact ⟨by omega, fun _ => Nat.le_refl _⟩
      · rename_i hh; exact ⟨Nat.le_refl _, fun e => by omega⟩
    refine ⟨Nat.le_trans h3.1 h1, fun q hq e => ?_⟩
    rcases List.mem_cons.1 hq with rfl | hq
    · exact Nat.le_trans (h3.2 e) h1
    · exact h2 q hq e
theorem bst_all {J : Nat → Nat} (hw : Wf J) (hy : Acy J) {a : Nat} (ha : a < 64) : (lks J).foldl (bst J a) 0 = dep J a := by
  apply Nat.le_antisymm
  · refine bst_le _ _ (fun p hp e => ?_) (Nat.zero_le _)
    obtain ⟨x, y, hE, rfl⟩ := (mem_lks hw).1 hp
    simp only [Int.toNat_natCast] at e ⊢
    have : x = a := by omega
    subst this
    have := dep_link hw hy hE
    omega
  · by_cases h : dep J a = 0
    · omega
    · obtain ⟨b, hE, e⟩ := dep_some hw hy ha h
      have := (bst_ge (J := J) (a := a) (lks J) 0).2 _ ((mem_lks hw).2 ⟨a, b, hE, rfl⟩) rfl
      simp only [Int.toNat_natCast] at this
      omega
theorem bst_take {J : Nat → Nat} {a : Nat} {l : List (Int × Int)} {c : Nat} {p : Int × Int} (h : l[c]? = some p) : (l.take (c + 1)).foldl (bst J a) 0 = bst J a ((l.take c).foldl (bst J a) 0) p := by
  rw [List.take_add_one, h, List.foldl_append]; rfl
theorem bst_small {J : Nat → Nat} (hw : Wf J) (hy : Acy J) {a : Nat} : ∀ (l : List (Int × Int)), (∀ p ∈ l, okP p) → ∀ b, b ≤ 64 → l.foldl (bst J a) b ≤ 64
  | [], _, _, h => h
  | p :: l, hl, b, h => by
    rw [List.foldl_cons]
    refine bst_small hw hy l (fun q hq => hl q (by simp [hq])) _ ?_
    unfold bst; split
    · have := hl p (by simp)
      unfold okP at this
      have := dep_le hw hy (a := p.2.toNat) (by omega)
      omega
    · exact h
set_option maxRecDepth 100000 in
set_option maxHeartbeats 20000000 in
theorem rankDepth_walk (L : List OpT) (v : Value) (w : World) (hr : RowOp w v L) (ht : Tab w) : Calls Tryd.prog 5 #[v] w fun e w' => e = .returned (.bool true) ∧ Below w.heap.size w w' := by
  have KN := hide' (newR w ht)
  obtain ⟨oa, cap, rfl, hcap, hrow⟩ := hr
  have hrow' := hide' hrow
  clear hrow
  go_enter Tryd.func5, Tryd.ntmps5
  go_wp2_with fail
  refine KN.out.mono ?_
  rintro e w1 ⟨rfl, hr1, hb1⟩
  have KW := hide' (wakes w1 hr1.tab)
  have hR1 := hide' hr1
  have hB1 := hide' hb1
  clear hr1 hb1 KN
  go_wp2_with fail
  refine KW.out.mono ?_
  rintro e w2 ⟨rfl, hb2⟩
  have hR2 := hide' (hR1.out.over hb2)
  have hB2 := hide' (hB1.out.trans (hb2.mono hB1.out.size))
  clear hR1 hB1 hb2 KW
  have hrw : Hid (∀ V, Below w.heap.size w V → ∀ (i : Nat) (p : OpT), L[i]? = some p → ∃ g o, oa = some ⟨g, o, none⟩ ∧ g < w.heap.size ∧ V.cell? ⟨g, o + i * 5 + 1, none⟩ = some (.int .i64 p.op) ∧ V.cell? ⟨g, o + i * 5 + 2, none⟩ = some (.int .i64 p.a) ∧ V.cell? ⟨g, o + i * 5 + 3, none⟩ = some (.int .i64 p.b)) := fun V hV i p hp => by
    obtain ⟨⟨g, o, e, c0, c1, c2, c3, c4⟩, _⟩ := hrow'.out i p hp
    exact ⟨g, o, e, cell_lt c0, cell_over c1 hV, cell_over c2 hV, cell_over c3 hV⟩
  clear hrow'
  generalize hbb : w.heap.size = b at *
  go_upto_block 0 with fail
  go_cut [4] from 16 to 55 (fun s wx => ∃ J, Hid (RkAt wx b J) ∧ Hid (Below b w wx))
  case first =>
    as_aux_lemma =>
    go_wp2_with fail
    go_loopw [4] (fun k wr => ∃ (c : Nat) (J : Nat → Nat), k = .int .i64 c ∧ c ≤ L.length ∧ Hid (RkAt wr b J) ∧ Hid (Below b w wr)) (fun k _ => ((L.length : Int) - intOf k).toNat)
    case atStart => exact ⟨0, noJ, rfl, Nat.zero_le _, hR2, hB2⟩
    case round =>
      clear hR2 hB2 ht
      obtain ⟨c, J, rfl, hc, hR, hB⟩ := hrel
      by_cases h1 : c < L.length
      · by_cases h2 : c < 120
        · obtain ⟨p, hp⟩ : ∃ p, L[c]? = some p := ⟨_, List.getElem?_eq_getElem h1⟩
          obtain ⟨g, o, rfl, hgb, c1, c2, c3⟩ := hrw.out wr hB.out c p hp
          have hne : Hid (g ≠ b) := by show _ ≠ _; omega
          have hnx : Hid (∀ V, wr.grownBy V (some b) → Below b w V) := fun V hV => hB.out.grown hV (Nat.le_of_lt hR.out.lt) (by intro k e; cases e; exact Nat.le_refl _)
          have KO' : Hid (Calls Tryd.prog 10 #[.pointer (some ⟨b, 0, none⟩), .int .i64 p.a, .int .i64 p.b] wr.drew fun e w' => e = .returned (.int .i64 (ovC J p.a p.b)) ∧ RkAt w' b (ovJ J p.a p.b) ∧ wr.grownBy w' (some b)) := (over hR.out.drew p.a p.b).mono fun _ _ ⟨h1, h2, h3⟩ => ⟨h1, h2, grown_trans (grown_below _ (Below.refl _ _).drew) h3⟩
          have KC' : Hid (Calls Tryd.prog 11 #[.pointer (some ⟨b, 0, none⟩), .int .i64 p.a, .int .i64 p.b] wr.drew fun e w' => e = .returned (.int .i64 (cuC J p.a p.b)) ∧ RkAt w' b (cuJ J p.a p.b) ∧ wr.grownBy w' (some b)) := (cutR hR.out.drew p.a p.b).mono fun _ _ ⟨h1, h2, h3⟩ => ⟨h1, h2, grown_trans (grown_below _ (Below.refl _ _).drew) h3⟩
          have hS : Hid (wr.drew.cell? ⟨g, o + c * 5 + 2, none⟩ = some (.int .i64 p.a) ∧ wr.drew.cell? ⟨g, o + c * 5 + 3, none⟩ = some (.int .i64 p.b)) := ⟨c2, c3⟩
          clear hp hcap hrw
          generalize p.a = pa at *
          generalize p.b = pb at *
          generalize p.op = d at *
          by_cases d2 : d = 2
          · subst d2
            clear KO'
            go_wp2
            go_region_held3 (fun V => V.cell? ⟨g, o + c * 5 + 2, none⟩ = some (.int .i64 pa) ∧ V.cell? ⟨g, o + c * 5 + 3, none⟩ = some (.int .i64 pb)) (first | assumption | (exact hS.out) | (exact keepC' (W := wr) hS.out (by assumption) hne.out)) (first | (go_at_call 11; refine KC'.out.mono ?_; rintro e w3 ⟨rfl, hr3, hg3⟩; have hR3 := hide' hr3; have hB3 := hide' (hnx.out _ hg3)))
            go_wp2
            exact ⟨⟨c + 1, _, by go_num, by omega, hR3, hB3⟩, by simp [intOf]; omega⟩
          · have e2 : (d == 2) = false := by simpa using d2
            clear KC' d2
            go_wp2
            go_region_held3 (fun V => V.cell? ⟨g, o + c * 5 + 2, none⟩ = some (.int .i64 pa) ∧ V.cell? ⟨g, o + c * 5 + 3, none⟩ = some (.int .i64 pb)) (first | assumption | (exact hS.out) | (exact keepC' (W := wr) hS.out (by assumption) hne.out)) (first | (go_at_call 10; refine KO'.out.mono ?_; rintro e w3 ⟨rfl, hr3, hg3⟩; have hR3 := hide' hr3; have hB3 := hide' (hnx.out _ hg3)))
            go_wp2
            exact ⟨⟨c + 1, _, by go_num, by omega, hR3, hB3⟩, by simp [intOf]; omega⟩
        · go_wp2
          go_meet
          exact ⟨J, hR, hB⟩
      · go_wp2
        go_meet
        exact ⟨J, hR, hB⟩
  case rest =>
  as_aux_lemma =>
  clear hR2 hB2 hrw hcap
  obtain ⟨J, hR, hB⟩ := hcut
  have KL := hide' (linksR hR.out)
  go_wp2_with fail
  refine KL.out.mono ?_
  rintro e w3 ⟨v3, rfl, hown3, hb3⟩
  obtain ⟨o3, cap3, rfl⟩ := owns_shape hown3
  have hb3' : Hid (Below b w w3) := hB.out.trans (hb3.mono (Nat.le_of_lt hR.out.lt))
  have hR3 := hide' (hR.out.over hb3)
  have hP3 := hide' (PairsAt.of_owns hown3)
  have hpc : Hid (∀ V, Qt w3 V → ∀ (i : Nat) (p : Int × Int), (lks J)[i]? = some p → ∃ g o, o3 = some ⟨g, o, none⟩ ∧ V.cell? ⟨g, o + i * 2, none⟩ = some (.int .i64 p.1) ∧ V.cell? ⟨g, o + i * 2 + 1, none⟩ = some (.int .i64 p.2)) := fun V hV i p hp => by
    obtain ⟨oa', cap', e, _, h⟩ := hP3.out.over hV.below
    cases e
    exact h i p hp
  have hmem := hide' (fun p (hp : p ∈ lks J) => (mem_lks hR.out.wf).1 hp)
  have hRQ : Hid (∀ V, Qt w3 V → RkAt V b J) := fun V hV => hR3.out.over hV.below
  have KD : Hid (∀ V (c : Nat), Qt w3 V → c < 64 → Calls Tryd.prog 18 #[.pointer (some ⟨b, 0, none⟩), .int .i64 (c : Int)] V fun e w' => e = .returned (.int .i64 (dep J c : Int)) ∧ Qt V w') := fun V c hV hc => by
    have := depth (hRQ.out V hV) (c : Int)
    rwa [show depI J (c : Int) = dep J c by simp [depI, okA_of hc]] at this
  have hlen := lks_len J
  have hall := hide' (fun a (ha : a < 64) => bst_all hR.out.wf hR.out.acy (a := a) ha)
  have hsml : Hid (∀ a c, ((lks J).take c).foldl (bst J a) 0 ≤ 64) := fun a c => bst_small hR.out.wf hR.out.acy _ (fun p hp => lks_ok hR.out.wf p (List.mem_of_mem_take hp)) 0 (by omega)
  have hdl := hide' (fun a (ha : a < 64) => dep_le hR.out.wf hR.out.acy (a := a) ha)
  have hwf := hide' hR.out.wf
  clear hown3 hb3 hR hB hR3 hP3 KL
  generalize hM : lks J = M at *
  have hM' := hide' hM
  clear hM
  generalize hm : M.length = m at *
  have hm' := hide' hm
  clear hm
  go_upto_block 2 with fail
  go_cut [6, 7, 8] from 58 to 99 (fun s6 s7 s8 wx => Hid (Qt w3 wx))
  case first =>
    as_aux_lemma =>
    go_wp2_with fail
    go_loopw [6, 7, 8] (fun k s7 s8 wr => ∃ a : Nat, k = .int .i64 a ∧ a ≤ 64 ∧ Hid (Qt w3 wr)) (fun k _ _ _ => (64 - intOf k).toNat)
    case atStart => exact ⟨0, rfl, by omega, Qt.refl _⟩
    case round =>
      obtain ⟨a, rfl, ha, hQ⟩ := hrel
      by_cases hlt : a < 64
      · have hd : decide ((a : Int) < 64) = true := by simp; omega
        go_upto_block 4 with fail
        go_cut [7, 8] from 62 to 94 (fun s7 s8 wx => s7 = .int .i64 ((M.foldl (bst J a) 0 : Nat) : Int) ∧ Hid (Qt w3 wx))
        case first =>
          as_aux_lemma =>
          go_wp2_with fail
          go_loopw [7, 8] (fun s k wv => ∃ c : Nat, k = .int .i64 c ∧ c ≤ m ∧ s = .int .i64 (((M.take c).foldl (bst J a) 0 : Nat) : Int) ∧ Hid (Qt w3 wv)) (fun _ k _ => ((m : Int) - intOf k).toNat)
          case atStart => exact ⟨0, rfl, by omega, rfl, hQ⟩
          case round =>
            clear hQ
            obtain ⟨c, rfl, hc, rfl, hQ⟩ := hrel
            by_cases hlc : c < m
            · obtain ⟨p, hp⟩ : ∃ p, M[c]? = some p := ⟨_, List.getElem?_eq_getElem (by have := hm'.out; omega)⟩
              have htk := hide' (bst_take (J := J) (a := a) hp)
              obtain ⟨x, y, hE, rfl⟩ := hmem.out p (List.mem_of_getElem? hp)
              obtain ⟨g, o, rfl, c1, c2⟩ := hpc.out wr hQ.out c _ hp
              have hyl := hE.lt hwf.out
              have hzl := hsml.out a c
              have hdy := hdl.out y hyl
              have KD1 := hide' (KD.out wr y hQ.out hyl)
              have KD2 := hide' (fun V (hV : Qt wr V) => KD.out V y (hQ.out.trans hV) hyl)
              simp only [] at c1 c2
              have hc2 : Hid (∀ V, Qt wr V → V.cell? ⟨g, o + c * 2 + 1, none⟩ = some (.int .i64 (y : Int))) := fun V hV => cell_over c2 hV.below
              unfold bst at htk
              simp only [Int.toNat_natCast] at htk
              clear hp hE hmem hpc hRQ hall hsml hdl hwf KD
              change Hid ((M.take (c + 1)).foldl (bst J a) 0 = if (x : Int) = (a : Int) ∧ (M.take c).foldl (bst J a) 0 < 1 + dep J y then 1 + dep J y else (M.take c).foldl (bst J a) 0) at htk
              generalize (M.take c).foldl (bst J a) 0 = z at *
              generalize hdd : dep J y = dy at *
              by_cases hxa : x = a
              · have e1 : ((x : Int) == (a : Int)) = true := by simp; omega
                by_cases hgt : z < 1 + dy
                · rw [if_pos ⟨by omega, hgt⟩] at htk
                  have f1 : decide ((z : Int) < 1 + (dy : Int)) = true := by simp; omega
                  clear hdd hxa
                  as_aux_lemma =>
                  go_wp2_with fail
                  refine KD1.out.mono ?_
                  rintro e w5 ⟨rfl, hq5⟩
                  have k2 := hc2.out _ hq5
                  have KD3 := hide' (KD2.out _ hq5)
                  have hQ5 := hide' (hQ.out.trans hq5)
                  clear hq5
                  go_wp2_with fail
                  refine KD3.out.mono ?_
                  rintro e w6 ⟨rfl, hq6⟩
                  have hQ6 := hide' (hQ5.out.trans hq6)
                  clear hq6
                  go_wp2
                  exact ⟨⟨c + 1, by go_num, by omega, by rw [htk.out]; go_num, hQ6⟩, by simp [intOf]; omega⟩
                · rw [if_neg (fun h => hgt h.2)] at htk
                  have f1 : decide ((z : Int) < 1 + (dy : Int)) = false := by simp; omega
                  clear hdd hxa
                  as_aux_lemma =>
                  go_wp2_with fail
                  refine KD1.out.mono ?_
                  rintro e w5 ⟨rfl, hq5⟩
                  have hQ5 := hide' (hQ.out.trans hq5)
                  clear hq5
                  go_wp2
                  exact ⟨⟨c + 1, by go_num, by omega, by rw [htk.out], hQ5⟩, by simp [intOf]; omega⟩
              · have e1 : ((x : Int) == (a : Int)) = false := by simp; omega
                rw [if_neg (fun h => hxa (by omega))] at htk
                clear hdd hxa
                as_aux_lemma =>
                go_wp2
                exact ⟨⟨c + 1, by go_num, by omega, by rw [htk.out], hQ⟩, by simp [intOf]; omega⟩
            · obtain rfl : c = m := by omega
              have hfull : Hid ((M.take c).foldl (bst J a) 0 = M.foldl (bst J a) 0) := by show _ = _; rw [← hm'.out, List.take_length]
              go_wp2
              go_meet
              exact ⟨by rw [hfull.out], hQ⟩
        case rest =>
        as_aux_lemma =>
        obtain ⟨rfl, hQ4⟩ := hcut
        rw [hall.out a hlt]
        have KD1 := hide' (KD.out _ a hQ4.out hlt)
        generalize dep J a = z at *
        go_wp2_with (go_at_call 18; refine KD1.out.mono ?_; rintro e w5 ⟨rfl, hq5⟩; have hQ5 := hide' (hQ4.out.trans hq5); clear hq5)
        exact ⟨⟨a + 1, by go_num, by omega, hQ5⟩, by simp [intOf]; omega⟩
      · go_wp2
        go_meet
        exact hQ
  case rest =>
  as_aux_lemma =>
  have hQ6 := hcut
  clear hcut
  have hR6 := hRQ.out _ hQ6.out
  have K1 : Hid (∀ V (z : Int), Qt w3 V → okA z = false → Calls Tryd.prog 18 #[.pointer (some ⟨b, 0, none⟩), .int .i64 z] V fun e w' => e = .returned (.int .i64 0) ∧ Qt V w') := fun V z hV hz => by
    have := depth (hRQ.out V hV) z
    rwa [show depI J z = 0 by simp [depI, hz]] at this
  clear hR6
  go_wp2_with fail
  refine (K1.out _ _ hQ6.out (by decide)).mono ?_
  rintro e w7 ⟨rfl, hq7⟩
  have hQ7 := hide' (hQ6.out.trans hq7)
  clear hq7
  go_wp2_with fail
  refine (K1.out _ _ hQ7.out (by decide)).mono ?_
  rintro e w8 ⟨rfl, hq8⟩
  have hQ8 := hide' (hQ7.out.trans hq8)
  clear hq8
  go_wp2
  go_ret
  exact ⟨rfl, by rw [hbb]; exact hb3'.out.trans (hQ8.out.below.mono (by have := hb3'.out.size; omega))⟩
end Go.Proofs.YtegpgjiccpglbaaDoor

/- RuleOwn: it returns true. -/
import Derived.Test.YtdiplbkgglgnfaaNOwnS
namespace Go.Proofs.Ytdiplbkgglgnfaa
open Go.RowKit
theorem cell_b {w2 V : World} {b g o : Nat} {x : Value} (hb : b = w2.heap.size) (h : Below b w2 V) (hc : w2.cell? ⟨g, o, none⟩ = some x) : V.cell? ⟨g, o, none⟩ = some x := (h.cell (p := ⟨g, o, none⟩) (by show g < b; have := cell_lt hc; omega)).trans hc
set_option maxRecDepth 100000 in
set_option maxHeartbeats 8000000 in
theorem ruleOwn_walk (n : Int) (L0 : List Rl) (B0 : List Int) (or : Option Addr) (cr : Nat) (oB : Option Addr) (cB : Nat) (on : Option Addr) (ln cn : Nat) (w : World) (hr : RowR w (.slice or L0.length cr) L0) (hl : RowI w (.slice oB B0.length cB) B0) :
    Calls Try.prog 3 #[.agg #[.int .i64 n, .slice or L0.length cr, .slice oB B0.length cB, .slice on ln cn]] w fun e w' => e = .returned (.bool true) ∧ Below w.heap.size w w' := by
  have hB : Hid (Below w.heap.size w (w.alloc (.cells #[.int .i64 n, .slice or L0.length cr, .slice oB B0.length cB, .slice on ln cn] 26))) := (Below.refl _ w).alloc (Nat.le_refl _) _
  have hbox : Hid (∀ V, Below (w.alloc (.cells #[.int .i64 n, .slice or L0.length cr, .slice oB B0.length cB, .slice on ln cn] 26)).heap.size (w.alloc (.cells #[.int .i64 n, .slice or L0.length cr, .slice oB B0.length cB, .slice on ln cn] 26)) V → V.cell? ⟨w.heap.size, 0, none⟩ = some (.int .i64 n) ∧ V.cell? ⟨w.heap.size, 2, none⟩ = some (.slice oB B0.length cB)) := fun V hV => by
    have e : V.heap[w.heap.size]? = some (.cells #[.int .i64 n, .slice or L0.length cr, .slice oB B0.length cB, .slice on ln cn] 26) := by
      rw [hV.block _ (by simp)]
      exact heap_new w _
    simp [World.cell?, e]
  have K1 := hide' (twinW L0 _ _ (hr.below hB.out (Nat.le_refl _)))
  have K2 : Hid (∀ V, Below w.heap.size w V → Calls Try.prog 5 #[.slice oB B0.length cB] V fun e w' => ∃ ob cb, e = .returned (.slice ob (B0.take 40).length cb) ∧ RowI w' (.slice ob (B0.take 40).length cb) (B0.take 40) ∧ Below V.heap.size V w') := fun V hV => rowW B0 _ V (hl.below hV (Nat.le_refl _))
  have K9 := hide' wakesR
  clear hr hl
  go_enter Try.func3, Try.ntmps3
  go_wp2_with fail
  refine K1.out.mono ?_
  rintro e w1 ⟨ol, cl, rfl, hr1, hb1⟩
  obtain ⟨x0, x2⟩ := hbox.out _ hb1
  have hB1 : Hid (Below w.heap.size w w1) := hB.out.trans (hb1.mono hB.out.size)
  have hb1' := hide' hb1
  have hr1' := hide' hr1
  clear K1 hr1 hb1 hB
  go_wp2_with fail
  refine (K2.out _ hB1.out).mono ?_
  rintro e w2 ⟨ob, cb, rfl, hr2, hb2⟩
  have hN2 := hide' (hbox.out _ (hb1'.out.trans (hb2.mono hb1'.out.size))).1
  have hR2 := hide' (hr1'.out.below hb2 (Nat.le_refl _))
  have hI2 := hide' hr2
  have hB2 : Hid (Below w.heap.size w w2) := hB1.out.trans (hb2.mono hB1.out.size)
  have hfew := twin_len L0
  have hlow : Hid (∀ r ∈ twin L0, r.steps.length ≤ 30) := fun r h => twin_steps h
  have hfB : (B0.take 40).length ≤ 40 := by rw [List.length_take]; omega
  clear hr2 hb2 hb1' hr1' hB1 hbox K2 x0 x2
  generalize twin L0 = L at *
  generalize B0.take 40 = B at *
  have hst := hide' (Zs.start w2)
  obtain ⟨b, hbe⟩ : ∃ b, b = w2.heap.size := ⟨_, rfl⟩
  rw [← hbe] at hst
  have hbe' := hide' hbe
  have hsr : Hid (∀ V, Below b w2 V → RowR V (.slice ol L.length cl) L ∧ RowI V (.slice ob B.length cb) B ∧ V.cell? ⟨w.heap.size, 0, none⟩ = some (.int .i64 n)) := fun V hV => ⟨hR2.out.below hV (by omega), hI2.out.below hV (by omega), cell_b hbe hV hN2.out⟩
  go_wp2
  generalize (((w2.alloc (.cells #[.slice none 0 0, .slice none 0 0, .slice none 0 0, .slice none 0 0, .slice none 0 0, .slice none 0 0, .slice none 0 0, .slice none 0 0, .slice none 0 0, .slice none 0 0, .slice none 0 0, .slice none 0 0, .int .i64 0] 34)).alloc (.cells #[.slice none 0 0, .slice none 0 0, .slice none 0 0, .slice none 0 0] 38)).alloc (.cells #[.int .i64 99, .int .i64 0, .slice none 0 0] 40)) = W5 at *
  simp only [← hbe]
  clear hbe
  go_loopw [8, 9, 10, 11, 12, 13, 14, 15, 16, 17] (fun k _ _ _ _ _ _ _ _ _ wr => ∃ c : Nat, c ≤ 3 ∧ k = .int .i64 c ∧ Hid (Zs w2 wr b (c * 200) (.slice none 0 0) [])) (fun k _ _ _ _ _ _ _ _ _ _ => ((3 : Int) - intOf k).toNat)
  case atStart => exact ⟨0, Nat.zero_le _, rfl, hst⟩
  case round =>
    clear hst
    obtain ⟨c, hc3, rfl, hZ0⟩ := hrel
    by_cases hlt3 : c < 3
    · have hd3 : decide ((c : Int) < 3) = true := by simp; omega
      go_wp2
      clear hd3
      rename World => wk
      go_loopw [9, 10] (fun lv k wr => ∃ (i : Nat) (P : List (Rl × Value)) (og : Option Addr) (cg : Nat), i ≤ L.length ∧ k = .int .i64 i ∧ lv = .slice og P.length cg ∧ Hid (P.map Prod.fst = L.take i) ∧ P.length ≤ 60 ∧ Hid (Zs w2 wr b (c * 200 + i) (.slice og P.length cg) P)) (fun _ k _ => ((L.length : Int) - intOf k).toNat)
      case atStart => exact ⟨0, [], none, 0, Nat.zero_le _, rfl, rfl, by show _ = _; simp, by simp, hZ0⟩
      case round =>
        clear hZ0
        obtain ⟨i, P, og, cg, hiL, rfl, rfl, hP, hPl, hZ⟩ := hrel
        rename World => wr
        by_cases hlt : i < L.length
        · as_aux_lemma =>
          obtain ⟨r, hx⟩ : ∃ r, L[i]? = some r := ⟨_, List.getElem?_eq_getElem hlt⟩
          have hN : Hid ((P.map Prod.fst) ++ [r] = L.take (i + 1)) := by
            show _ = _
            rw [List.take_add_one, hx, hP.out]; rfl
          obtain ⟨_, _, e, _, hc⟩ := (hsr.out wr hZ.out.old).1
          cases e
          obtain ⟨g, o, sv, rfl, c0, c1, c2, hrs⟩ := hc i r hx
          obtain ⟨os, cs, rfl⟩ := hrs.shapeO
          have hm := hlow.out r (List.mem_of_getElem? hx)
          have hC : Hid (∀ V, Below b w2 V → V.cell? ⟨g, o + i * 3, none⟩ = some (.int .i64 r.kind) ∧ V.cell? ⟨g, o + i * 3 + 1, none⟩ = some (.int .i64 r.k) ∧ V.cell? ⟨g, o + i * 3 + 2, none⟩ = some (.slice os r.steps.length cs)) := fun V hV => by
            obtain ⟨_, _, e, _, hc'⟩ := (hsr.out V hV).1
            cases e
            obtain ⟨g', o', sv', e', d0, d1, d2, _⟩ := hc' i r hx
            cases e'
            obtain ⟨_, _, e1, _, hcw⟩ := hR2.out
            cases e1
            obtain ⟨g1, o1, sv1, e2, f0, f1, f2, _⟩ := hcw i r hx
            cases e2
            have k2 := cell_b hbe'.out hV f2
            have k3 := cell_b hbe'.out hZ.out.old f2
            rw [c2] at k3
            cases k3
            exact ⟨d0, d1, k2⟩
          have hd : Hid (Below wr.heap.size wr wr.drew) := (Below.refl _ _).drew
          have hod := hide' (hZ.out.below hd.out).old
          have KN := hide' (stepLoan (hZ.out.below hd.out) (by omega) _ r.steps (hrs.below hd.out (Nat.le_refl _)) (by omega))
          have hP' := hide' hP
          clear hc c0 c1 c2 hrs hx hZ hR2 hI2 hN2 hsr hlow hP K9 hB2
          have hP := hP'.out
          generalize r.steps.length = q at *
          go_wp2_with fail
          go_region_held3 (fun V => V.cell? ⟨g, o + i * 3, none⟩ = some (.int .i64 r.kind) ∧ V.cell? ⟨g, o + i * 3 + 1, none⟩ = some (.int .i64 r.k) ∧ V.cell? ⟨g, o + i * 3 + 2, none⟩ = some (.slice os q cs)) (first | (exact hC.out _ hod.out) | (exact hC.out _ h3.out) | (exact hC.out _ h3a.out) | (exact hC.out _ h4.out)) (first | (go_at_call 6; refine KN.out.mono ?_; rintro e w3 ⟨gu, cu, rfl, hZu⟩; have h3 := hide' hZu.out.zs.old; have h3a := hide' (hZu.out.zs.below ((Below.refl _ _).alloc (Nat.le_refl _) (.cells #[.int .i64 r.kind, .int .i64 r.k, .slice (some ⟨gu, 0, none⟩) q cu] 40))).old) | (rw [if_pos (by rfl)]; refine app_lent (.tmp 39) (.tmp 58) r (.slice (some ⟨gu, 0, none⟩) q cu) rfl rfl rfl hZu.out rfl (by omega) ?_; intro g2 c2 w4 hZ4'; have hZ4 := hide' hZ4'; have h4 := hide' hZ4'.old; clear hZ4'))
          all_goals
            go_wp2
            exact ⟨⟨i + 1, (P ++ [(r, Value.slice (some ⟨gu, 0, none⟩) q cu)] : List (Rl × Value)), some ⟨g2, 0, none⟩, c2, by omega, by go_num, by rw [List.length_append, List.length_singleton], by show _ = _; rw [List.map_append]; exact hN.out, by rw [List.length_append, List.length_singleton]; have := congrArg List.length hP; simp at this; omega, by rw [List.length_append, List.length_singleton]; exact hZ4.out⟩, by simp [intOf]; omega⟩
        · obtain rfl : i = L.length := by omega
          have hPL : Hid (P.map Prod.fst = L) := by show _ = _; rw [hP.out, List.take_length]
          have hPn : Hid (P.length = L.length) := by show _ = _; rw [← hPL.out, List.length_map]
          obtain ⟨tB, tL, m, hO, hm, hLt⟩ := hZ.out
          have m0 : wr.cell? ⟨b + 1 + 1, 0, none⟩ = some (.int .i64 99) := by simp [World.cell?, hO.mrk]
          have m1 : wr.cell? ⟨b + 1 + 1, 1, none⟩ = some (.int .i64 0) := by simp [World.cell?, hO.mrk]
          have m2 : wr.cell? ⟨b + 1 + 1, 2, none⟩ = some (.slice none 0 0) := by simp [World.cell?, hO.mrk]
          have hO' := hide' hO
          have hLt' := hide' hLt
          have hA := hide' (hLt.below ((Below.refl wr.heap.size wr).alloc (Nat.le_refl _) (.cells #[.int .i64 99, .int .i64 0, .slice none 0 0, .int .i64 99, .int .i64 0, .slice none 0 0] 40))).row
          have hnb := hide' (World.news_of_block (heap_new wr (.cells #[.int .i64 99, .int .i64 0, .slice none 0 0, .int .i64 99, .int .i64 0, .slice none 0 0] 40)))
          have hlt3' := hO.lt
          obtain ⟨i0, hi, hz0, hz1, hz2⟩ := info_parts infoR
          clear hO hLt hP hZ
          go_wp2_with (first | (at_builtin; refine K.wpList_append_two _ rfl (.tmp 60) (.tmp 63) 22 rfl (b + 3) 40 i0 (.agg #[.int .i64 0, .int .i64 0, .slice none 0 0]) 3 40 Try.underlying22 hi hz0 hz1 hz2 rfl (by decide) (.slice og P.length cg) P.length (cellsR P) rfl hA.out ⟨wr.heap.size, 0, none⟩ 2 2 (cellsR marks) rfl rfl hnb.out (by simp [cellsR, marks, rcells, Value.oneCell']) (by decide) (by unfold maxLen; omega) (by omega) (by simp; omega) ?_; intro gf capf w4 hnew _ hat; have hZ4 := hide' (lent_push (E := marks) hO'.out hm hLt'.out (fun q hq => by simp [marks] at hq; subst hq; exact ⟨⟨none, 0, rfl, ⟨Nat.le_refl _, fun _ => rfl⟩, fun i z h => by cases h⟩, fun g e => by simp [Value.ownBlock] at e⟩) hnew hat); have hcapf : L.length ≤ capf := by have := hnew.capLe; have := hPn.out; omega))
          have hZ4b : Hid (Zs w2 w4 b (c * 200 + L.length) (.slice (some ⟨gf, 0, none⟩) (P.length + 2) capf) (P ++ marks)) := hZ4
          have hF : Hid (∀ V M, Zs w2 V b M (.slice (some ⟨gf, 0, none⟩) (P.length + 2) capf) (P ++ marks) → RowR V (.slice (some ⟨gf, 0, none⟩) L.length capf) L ∧ V.cell? ⟨gf, L.length * 3, none⟩ = some (.int .i64 99) ∧ V.cell? ⟨gf, (L.length + 1) * 3, none⟩ = some (.int .i64 99)) := fun V M hV => by
            obtain ⟨h1, h2, h3, _⟩ := hV.full rfl
            rw [hPL.out] at h1
            rw [hPn.out] at h2 h3
            exact ⟨h1, h2, h3⟩
          have hm30 : Hid (∀ r ∈ L, r.steps.length ≤ 1000) := fun r h => by have := hlow.out r h; omega
          clear hO' hLt' hA hnb hat hnew m0 m1 m2 hZ4 hm
          refine (stepLoan hZ4b.out (by omega) _ B (hsr.out _ hZ4b.out.old).2.1 (by omega)).mono ?_
          rintro e w5 ⟨g5, c5, rfl, hZu5⟩
          clear hZ4b
          go_wp2_with fail
          refine (brokenF L _ _ B w5 (hF.out _ _ hZu5.out.zs).1 hZu5.out.row (by omega) hm30.out).mono ?_
          rintro e w6 ⟨v6, rfl, ho6, hb6⟩
          obtain ⟨o6, c6, rfl⟩ := own_shp ho6
          have hl6 : (ints (broken L B)).length ≤ 1000000 := by rw [ints_len, brk_all]; have := brk_len L B L.length; omega
          have K6 := hide' (stepBook hZu5.out.zs hb6 _ _ _ ho6 hl6)
          clear hZu5 ho6 hb6 hl6
          generalize (broken L B).length = k6 at *
          go_wp2_with fail
          refine K6.out.mono ?_
          rintro e w7 ⟨rfl, hZ7⟩
          have x7 := (hsr.out _ hZ7.out.old).2.2
          clear K6
          go_wp2_with fail
          refine (tiesU n L _ w7 (hF.out _ _ hZ7.out).1 (by omega) hm30.out).mono ?_
          rintro e w8 ⟨o8, k8, c8, z8, rfl, ho8, hb8⟩
          obtain ⟨l8, ho8', hl8⟩ := ho8.out
          have K8 := hide' (stepBook hZ7.out hb8 _ _ l8 ho8' hl8)
          clear ho8 ho8' hb8 hZ7 x7
          go_wp2_with fail
          refine K8.out.mono ?_
          rintro e w9 ⟨rfl, hZ9⟩
          have x9 := (hsr.out _ hZ9.out.old).2.2
          clear K8
          go_wp2_with fail
          refine (foesU n L _ w9 (hF.out _ _ hZ9.out).1 (by omega) hm30.out).mono ?_
          rintro e w10 ⟨o10, k10, c10, z10, rfl, hk10, ho10, hb10⟩
          obtain ⟨xs10, ho10'⟩ := ho10.out
          obtain ⟨tB9, tL9, m9, hO9, hm9, hL9⟩ := hZ9.out
          have hO10 := hide' (hO9.below hb10)
          have hL10 := hide' (hL9.below hb10)
          have ho10b := hide' ho10'
          have hfr : Hid (∀ g, w9.heap.size ≤ g → tB9 g = 0 ∧ tL9 g = 0 ∧ b + 3 ≤ g) := fun g hg => ⟨hO9.bk.fresh g hg, Loan.fresh hO9.ln g hg, by have := hO9.lt; omega⟩
          have hgf : Hid (gf < w9.heap.size) := own_lt' hL9.row rfl
          clear ho10 ho10' hb10 hZ9 x9 hO9 hL9
          go_wp2
          go_loopw [16] (fun k wr => ∃ (i : Nat) (xs : List Value), i ≤ k10 ∧ k = .int .i64 i ∧ Hid (OwR w2 wr b tB9 tL9 m9) ∧ Hid (Lnt wr b tB9 tL9 (.slice (some ⟨gf, 0, none⟩) (P.length + 2) capf) (P ++ marks)) ∧ Hid (wr.ownsRow w9.heap.size 49 1 (.slice o10 k10 c10) k10 xs)) (fun k _ => ((k10 : Int) - intOf k).toNat)
          case atStart => exact ⟨0, xs10, Nat.zero_le _, rfl, hO10, hL10, ho10b⟩
          case round =>
            clear hO10 hL10 ho10b
            obtain ⟨i, xs, hik, rfl, hOi, hLi, hoi⟩ := hrel
            rename World => wi
            by_cases hlt : i < k10
            · as_aux_lemma =>
              obtain ⟨g, cap2, e, hg9, _⟩ := hoi.out.form (by omega)
              obtain ⟨rfl, rfl⟩ : o10 = some ⟨g, 0, none⟩ ∧ c10 = cap2 := by injection e with h1 h2 h3; exact ⟨h1, h3⟩
              have hxl : xs.length = k10 := by have := hoi.out.1; omega
              obtain ⟨x, hx⟩ : ∃ x, xs[i]? = some x := ⟨_, List.getElem?_eq_getElem (by omega)⟩
              have cx : wi.cell? ⟨g, i, none⟩ = some x := by rw [hoi.out.cellAt i (by omega)]; exact hx
              have fx := hoi.out.frozenAt i
              have hgw : Hid (w9.heap.size ≤ g) := hg9
              clear e hx
              go_wp2
              have s1 : K.Sm (· = g) id wi (wi.setCell ⟨g, i, none⟩ (.int .u64 77)) := K.Sm.setCell _ rfl
              exact ⟨⟨i + 1, _, by omega, by go_num, hOi.out.mv s1 (fun q hq _ => by subst hq; exact hfr.out q hgw.out), hLi.out.mv s1 (fun q hq _ => by subst hq; exact ⟨by have := (hfr.out q hgw.out).2.1; omega, fun e => by have := hgf.out; have := hgw.out; simp [Value.ownBlock] at e; omega⟩), (hoi.out.stored i (.int .u64 77)).1⟩, by simp [intOf]; omega⟩
            · obtain rfl : i = k10 := by omega
              have hZi : Hid (Zs w2 wi b (c * 200 + L.length + 1) (.slice (some ⟨gf, 0, none⟩) (P.length + 2) capf) (P ++ marks)) := ⟨tB9, tL9, m9, hOi.out, hm9, hLi.out⟩
              clear hOi hLi hoi hfr hgf
              go_wp2
              go_loopw [17] (fun k wr => ∃ (i : Nat), i ≤ L.length ∧ k = .int .i64 i ∧ Hid (Zs w2 wr b (c * 200 + L.length + 1 + 2 * i) (.slice (some ⟨gf, 0, none⟩) (P.length + 2) capf) (P ++ marks))) (fun k _ => ((L.length : Int) - intOf k).toNat)
              case atStart => exact ⟨0, Nat.zero_le _, rfl, hZi⟩
              case round =>
                clear hZi
                obtain ⟨j, hjL, rfl, hZj⟩ := hrel
                rename World => wj
                by_cases hlt : j < L.length
                · as_aux_lemma =>
                  obtain ⟨q, hq⟩ : ∃ q, P[j]? = some q := ⟨_, List.getElem?_eq_getElem (by rw [hPn.out]; exact hlt)⟩
                  have hqm : q.1 ∈ L := by rw [← hPL.out]; exact List.mem_map_of_mem (List.mem_of_getElem? hq)
                  have h30 := hm30.out q.1 hqm
                  obtain ⟨os, cs, hqv⟩ := (hZj.out.at hq).2.2.2.shapeO
                  have hC : Hid (∀ V M, Zs w2 V b M (.slice (some ⟨gf, 0, none⟩) (P.length + 2) capf) (P ++ marks) → V.cell? ⟨gf, j * 3, none⟩ = some (.int .i64 q.1.kind) ∧ V.cell? ⟨gf, j * 3 + 1, none⟩ = some (.int .i64 q.1.k) ∧ V.cell? ⟨gf, j * 3 + 2, none⟩ = some (.slice os q.1.steps.length cs) ∧ V.cell? ⟨w.heap.size, 0, none⟩ = some (.int .i64 n)) := fun V M hV => by
                    obtain ⟨h1, h2, h3, _⟩ := hV.at hq
                    rw [hqv] at h3
                    exact ⟨h1, h2, h3, (hsr.out V hV.old).2.2⟩
                  have KE : Hid (∀ V M lv, Zs w2 V b M (.slice (some ⟨gf, 0, none⟩) (P.length + 2) capf) (P ++ marks) → RowI V lv B → Calls Try.prog 11 #[.agg #[.int .i64 q.1.kind, .int .i64 q.1.k, .slice os q.1.steps.length cs], .int .i64 n, lv] V fun e w' => e = .returned (.bool (early q.1 n B)) ∧ Below V.heap.size V w') := fun V M lv hV hR => by
                    have hs := (hV.at hq).2.2.2
                    rw [hqv] at hs
                    exact earlyF q.1 n _ lv B V hs hR h30
                  have KH : Hid (∀ V M lv, Zs w2 V b M (.slice (some ⟨gf, 0, none⟩) (P.length + 2) capf) (P ++ marks) → RowI V lv B → Calls Try.prog 12 #[.agg #[.int .i64 q.1.kind, .int .i64 q.1.k, .slice os q.1.steps.length cs], lv] V fun e w' => e = .returned (.bool (holds q.1 B)) ∧ Below V.heap.size V w') := fun V M lv hV hR => by
                    have hs := (hV.at hq).2.2.2
                    rw [hqv] at hs
                    exact holdsF q.1 _ lv B V hs hR h30
                  have KL : Hid (∀ V M, M ≤ 90000 → Zs w2 V b M (.slice (some ⟨gf, 0, none⟩) (P.length + 2) capf) (P ++ marks) → Calls Try.prog 6 #[.pointer (some ⟨b + 1, 0, none⟩), .slice ob B.length cb] V fun e w' => ∃ g cap, e = .returned (.slice (some ⟨g, 0, none⟩) B.length cap) ∧ Hid (Zu w2 w' b (M + 1) (.slice (some ⟨gf, 0, none⟩) (P.length + 2) capf) (P ++ marks) (.slice (some ⟨g, 0, none⟩) B.length cap) B)) := fun V M hM hV => stepLoan hV hM _ B (hsr.out V hV.old).2.1 (by omega)
                  have ZD := hide' (hZj.out.below ((Below.refl wj.heap.size wj).drew))
                  have KN := hide' (KL.out _ _ (by omega) ZD.out)
                  have hPlt : (j : Int) < (L.length : Int) := by omega
                  clear hqv hq hqm h30 hZj hsr hF hlow hm30 hR2 hI2 hN2 hB2 K9 hPL hPn
                  generalize q.1.steps.length = k9 at *
                  generalize early q.1 n B = be at *
                  generalize holds q.1 B = bh at *
                  go_wp2_with fail
                  go_region_held3 (fun V => V.cell? ⟨gf, j * 3, none⟩ = some (.int .i64 q.1.kind) ∧ V.cell? ⟨gf, j * 3 + 1, none⟩ = some (.int .i64 q.1.k) ∧ V.cell? ⟨gf, j * 3 + 2, none⟩ = some (.slice os k9 cs) ∧ V.cell? ⟨w.heap.size, 0, none⟩ = some (.int .i64 n)) (first | (exact hC.out _ _ ZD.out) | (exact hC.out _ _ Z3.out) | (exact hC.out _ _ Z5.out)) (first | (go_at_call 6; refine KN.out.mono ?_; rintro e W3 ⟨gu, cu, rfl, hZu⟩; have Z3 := hide' hZu.out.zs; have R3 := hide' hZu.out.row; clear hZu) | (go_at_call 11; refine (KE.out _ _ _ Z3.out R3.out).mono ?_; rintro e W5 ⟨rfl, hb⟩; have Z5 := hide' (Z3.out.below hb); clear hb))
                  all_goals
                    have ZD6 := hide' (Z5.out.below ((Below.refl W5.heap.size W5).drew))
                    have KN6 := hide' (KL.out _ _ (by omega) ZD6.out)
                    clear KN KE Z3 R3 ZD KL
                    go_wp2_with fail
                    go_region_held3 (fun V => V.cell? ⟨gf, j * 3, none⟩ = some (.int .i64 q.1.kind) ∧ V.cell? ⟨gf, j * 3 + 1, none⟩ = some (.int .i64 q.1.k) ∧ V.cell? ⟨gf, j * 3 + 2, none⟩ = some (.slice os k9 cs) ∧ V.cell? ⟨w.heap.size, 0, none⟩ = some (.int .i64 n)) (first | (exact hC.out _ _ ZD6.out) | (exact hC.out _ _ Z6.out) | (exact hC.out _ _ Z8.out)) (first | (go_at_call 6; refine KN6.out.mono ?_; rintro e W6 ⟨gu, cu, rfl, hZu⟩; have Z6 := hide' hZu.out.zs; have R6 := hide' hZu.out.row; clear hZu) | (go_at_call 12; refine (KH.out _ _ _ Z6.out R6.out).mono ?_; rintro e W8 ⟨rfl, hb⟩; have Z8 := hide' (Z6.out.below hb); clear hb))
                    all_goals
                      go_wp2
                      exact ⟨⟨j + 1, by omega, by go_num, Z8⟩, by simp [intOf]; omega⟩
                · obtain rfl : j = L.length := by omega
                  obtain ⟨f1, f2, f3⟩ := hF.out _ _ hZj.out
                  have KR := hide' (keepRules L _ _ wj f1 (hsr.out _ hZj.out.old).1 (by omega) hm30.out)
                  have hc9 : Hid (∀ V, Below wj.heap.size wj V → V.cell? ⟨gf, L.length * 3, none⟩ = some (.int .i64 99) ∧ V.cell? ⟨gf, (L.length + 1) * 3, none⟩ = some (.int .i64 99)) := fun V hV => (hF.out _ _ (hZj.out.below hV)).2
                  have hi1 : (L.length : Int) < ((P.length + 2 : Nat) : Int) := by have := hPn.out; omega
                  have hi2 : (L.length : Int) + 1 < ((P.length + 2 : Nat) : Int) := by have := hPn.out; omega
                  have hi1n : L.length < P.length + 2 := by omega
                  have hi2n : L.length + 1 < P.length + 2 := by omega
                  have hi1c : (L.length : Int) < (P.length : Int) + 2 := by omega
                  have hi2c : (L.length : Int) + 1 < (P.length : Int) + 2 := by omega
                  clear f1 f2 f3 hF hm30
                  go_wp2_with (first | (go_at_call 13; refine KR.out.mono ?_; rintro e w11 ⟨rfl, hb11⟩; have hZ11 := hide' (hZj.out.below hb11); obtain ⟨e1, e2⟩ := hc9.out _ hb11))
                  exact ⟨⟨c + 1, by omega, by go_num, (hZ11.out.nil).more (by omega)⟩, by simp [intOf]; omega⟩
    · obtain rfl : c = 3 := by omega
      have K3 := hide' (stepBack hZ0.out (by decide))
      have hC3 : Hid (∀ V, K.BookO w2 b V → Calls Try.prog 15 #[.pointer (some ⟨b, 0, none⟩)] V fun e w' => e = .returned (.bool true) ∧ Below b w2 w') := fun V hV => K.ownClose hV
      clear hZ0
      go_wp2_with (first | (go_at_call 14; refine K3.out.mono ?_; rintro e wa ⟨rfl, hBo⟩) | (go_at_call 15; refine (hC3.out _ hBo.out).mono ?_; rintro e wb ⟨rfl, hbb⟩) | (go_at_call 16; refine (K9.out _).mono ?_; rintro e wc ⟨rfl, hbc⟩))
      go_ret
      have hz := hbe'.out
      have h1 := hB2.out.trans (hbb.mono (by have := hB2.out.size; omega))
      exact ⟨rfl, h1.trans (hbc.mono h1.size)⟩
end Go.Proofs.Ytdiplbkgglgnfaa

/- The document's Bytes: a problem and a plan written down. -/
import Derived.Test.YtgopaoecmefnkaaZrN
namespace Go.Proofs.Ytgopaoecmefnkaa.S
open Go.RowKit Go.Shelf
theorem be_one (n : Nat) : be 1 n = [n % 256] := by simp [be]
theorem be_mark : be 2 20547 = [80, 67] := by decide
theorem be_small {n : Nat} (h : n < 256) : be 1 n = [n] := by rw [be_one, Nat.mod_eq_of_lt h]
theorem hdB_eq {P : Pb} (h1 : P.users ≤ 64) (h2 : P.who.length ≤ 12) : hdB P = [80, 67, P.users.toNat, P.who.length] := by unfold hdB; rw [be_mark, be_small (by omega), be_small (by omega)]; rfl
theorem oneB (L : List Nat) : ∀ u ∈ cellsB L, u.oneCell' = true := fun u hu => by
  obtain ⟨z, _, rfl⟩ := List.mem_map.1 hu
  rfl
theorem cellsB_app (L M : List Nat) : cellsB (L ++ M) = cellsB L ++ cellsB M := by simp [cellsB]
theorem cellsB_len (L : List Nat) : (cellsB L).length = L.length := by simp [cellsB]
theorem cellsB_at {L : List Nat} {j : Nat} {u : Value} (h : (cellsB L)[j]? = some u) : ∃ z : Nat, L[j]? = some z ∧ u = .int .u8 (z : Int) := by
  unfold cellsB at h
  rw [List.getElem?_map] at h
  cases e : L[j]? with
  | none => rw [e] at h; cases h
  | some z => rw [e] at h; cases h; exact ⟨z, rfl, rfl⟩
/-- A row of bytes laid behind another. -/
theorem app_rowBL {ops : Array Oper} {rest : List Oper} {o : Oper} {a : Act} {Q : Exit → Act → World → Prop} (hgd : o.guard = none) (s x : Operand) (B : Nat) (W : World) (v : Value) (L : List Nat) (oa : Option Addr) (m cap : Nat) (l : List Nat) (ho : o.op = .call { callee := .builtin .append, args := #[s, x], argTypes := #[38, 38] })
    (es : a.eval s = v) (ex : a.eval x = .slice oa m cap) (hT : W.ownsRow B 5 1 v L.length (cellsB L)) (hX : RowB W (.slice oa m cap) l) (h0 : 0 < m) (hB : B ≤ W.heap.size) (hn : L.length + m ≤ 1000000)
    (h : ∀ v2 w2, w2.ownsRow B 5 1 v2 (L ++ l).length (cellsB (L ++ l)) → Below B W w2 → FzB W w2 → wpList Try.prog ops Q rest (a.put o.dst v2) w2) : wpList Try.prog ops Q (o :: rest) a W := by
  obtain ⟨i0, hi, hz0, hz1, hz2⟩ := info_parts infoU8
  obtain ⟨oa', cap', e, hc⟩ := hX
  injection e with e1 e2 e3
  subst e1
  subst e2
  subst e3
  cases oa with
  | none =>
    obtain ⟨z, hz⟩ : ∃ z, l[0]? = some z := ⟨_, List.getElem?_eq_getElem h0⟩
    obtain ⟨g, o', e, _⟩ := hc 0 z hz
    cases e
  | some ad =>
    have hnews : ∀ j u, (cellsB l)[j]? = some u → W.cell? (ad.add j) = some u := fun j u hu => by
      obtain ⟨z, hz, rfl⟩ := cellsB_at hu
      obtain ⟨g, o, e, hcell⟩ := hc j z hz
      cases e
      rw [Addr.add_lit]; exact hcell
    refine wpList_append_own _ hgd s x 38 ho B 5 i0 (.int .u8 0) 1 1 Try.underlying38 hi hz0 hz1 hz2 rfl (by decide) v L.length (cellsB L) es hT ad l.length cap (cellsB l) ex (by rw [cellsB_len]; omega) hnews (oneB l) (by unfold maxLen; omega) (by omega) hB ?_
    intro v2 w2 hown hgrow _
    refine h v2 w2 ?_ ((Below.refl B W).grown hgrow hB (fun j ej => own_ge' hT ej)) (FzB.grown hT hgrow)
    rw [cellsB_app, List.length_append]
    exact hown
theorem Ce.four (w : World) (P : Pb) (wv fv rv : Value) (W : World) (hp : PbB W w.heap.size P wv fv rv) (hb : Below w.heap.size w W) (h0 : 0 ≤ P.users) (h1 : P.users ≤ 64) (h2 : P.who.length ≤ 12) :
    Ce w P wv fv rv (W.alloc (.cells #[.int .u8 80, .int .u8 67, .int .u8 P.users, .int .u8 (P.who.length : Int)] 5)) (.slice (some ⟨W.heap.size, 0, none⟩) 4 4) (hdB P) := by
  have hl : w.heap.size + 1 ≤ W.heap.size := (Array.getElem?_eq_some_iff.1 hp).1
  have hbA : Below W.heap.size W (W.alloc (.cells #[.int .u8 80, .int .u8 67, .int .u8 P.users, .int .u8 (P.who.length : Int)] 5)) := (Below.refl _ W).alloc (Nat.le_refl _) _
  refine ⟨?_, hb.trans (hbA.mono hb.size), hp.below hbA⟩
  rw [hdB_eq h1 h2]
  refine ⟨rfl, .inr ⟨W.heap.size, 4, _, rfl, hl, heap_new _ _, Nat.le_refl _, by decide, rfl, ?_⟩⟩
  have hu : ((P.users.toNat : Nat) : Int) = P.users := Int.toNat_of_nonneg h0
  simp [cellsB, hu]
/-- A byte that is told as an int. -/
theorem app_byteIL {ops : Array Oper} {rest : List Oper} {o : Oper} {a : Act} {Q : Exit → Act → World → Prop} (hgd : o.guard = none) (s x : Operand) (B : Nat) (W : World) (v : Value) (L : List Nat) (z : Int) (ho : o.op = .call { callee := .builtin .append, args := #[s, x], argTypes := #[38, 38] })
    (es : a.eval s = v) (ex : a.eval x = .slice (some ⟨W.heap.size, 0, none⟩) 1 1) (hT : W.ownsRow B 5 1 v L.length (cellsB L)) (hB : B ≤ W.heap.size) (hn : L.length ≤ 1000000) (h0 : 0 ≤ z) (h1 : z < 256)
    (h : ∀ v2 w2, w2.ownsRow B 5 1 v2 (L ++ be 1 z.toNat).length (cellsB (L ++ be 1 z.toNat)) → Below B W w2 → FzB W w2 → wpList Try.prog ops Q rest (a.put o.dst v2) w2) : wpList Try.prog ops Q (o :: rest) a (W.alloc (.cells #[.int .u8 z] 5)) := by
  obtain ⟨n, rfl⟩ : ∃ n : Nat, z = (n : Int) := ⟨z.toNat, by omega⟩
  rw [Int.toNat_natCast, be_small (by omega)] at h
  exact app_byteL hgd s x B W v L n ho es ex hT hB hn h
/-- Two bytes laid behind a row, in a region whose order is open, as the walk spells them. -/
theorem app_twoW {o : Oper} {a : Act} {K : Act → World → Prop} {Q : Exit → Act → World → Prop} (s x : Operand) (B : Nat) (W : World) (v : Value) (L : List Nat) (y' z' y z : Int) (ho : o.op = .call { callee := .builtin .append, args := #[s, x], argTypes := #[38, 38] })
    (es : a.eval s = v) (ex : a.eval x = .slice (some ⟨W.heap.size, 0, none⟩) 2 2) (hT : W.ownsRow B 5 1 v L.length (cellsB L)) (hB : B ≤ W.heap.size) (hn : L.length ≤ 1000000) (hy : 0 ≤ y ∧ y < 256) (hz : 0 ≤ z ∧ z < 256) (ey : y' = y) (ez : z' = z)
    (hK : ∀ v2 w2, w2.ownsRow B 5 1 v2 (L ++ be 1 y.toNat ++ be 1 z.toNat).length (cellsB (L ++ be 1 y.toNat ++ be 1 z.toNat)) → Below B W w2 → K (a.put o.dst v2) w2) : o.wp Try.prog a (W.alloc (.cells #[.int .u8 y', .int .u8 z'] 5)).drew K Q := by
  subst ey
  subst ez
  obtain ⟨n, rfl⟩ : ∃ n : Nat, y' = (n : Int) := ⟨y'.toNat, by omega⟩
  obtain ⟨m, rfl⟩ : ∃ n : Nat, z' = (n : Int) := ⟨z'.toNat, by omega⟩
  rw [Int.toNat_natCast, Int.toNat_natCast, be_small (by omega), be_small (by omega), List.append_assoc] at hK
  obtain ⟨i0, hi, hz0, hz1, hz2⟩ := info_parts infoU8
  have hT1 : (W.alloc (.cells #[.int .u8 (n : Int), .int .u8 (m : Int)] 5)).drew.ownsRow B 5 1 v L.length (cellsB L) := own_lowB (hT.alloc _) (Below.refl _ _).drew
  have hnb : (W.alloc (.cells #[.int .u8 (n : Int), .int .u8 (m : Int)] 5)).drew.heap[W.heap.size]? = some (.cells #[.int .u8 (n : Int), .int .u8 (m : Int)] 5 (0, 0)) := heap_new W _
  refine wp_append_own _ s x 38 ho B 5 i0 (.int .u8 0) 1 1 Try.underlying38 hi hz0 hz1 hz2 rfl (by decide) v L.length (cellsB L) es hT1 ⟨W.heap.size, 0, none⟩ 2 2 (cellsB [n, m]) ex rfl (World.news_of_block (cs := #[.int .u8 (n : Int), .int .u8 (m : Int)]) hnb) (oneB _) (by unfold maxLen; omega) (by omega) (by simp; omega) ?_
  intro v2 w2 hown hgrow _
  refine hK v2 w2 ?_ (((Below.refl B W).alloc hB _).drew.grown hgrow (by simp; omega) (fun j ej => own_ge' hT ej))
  rw [cellsB_app, List.length_append]
  exact hown
theorem wrap_u8 {x : Int} (h : 0 ≤ x ∧ x < 256) : IntKind.u8.wrap x = x := by
  simp only [IntKind.wrap, IntKind.bits, IntKind.signed]
  simp
  omega
theorem wrap_i64 {x : Int} (h : 0 ≤ x ∧ x < 256) : IntKind.i64.wrap x = x := by
  simp only [IntKind.wrap, IntKind.bits, IntKind.signed]
  simp
  omega
theorem numberI (x : Int) (wd : Nat) (wi : Int) (hwi : wi = (wd : Int)) (w : World) (hw : wd ≤ 8) (h0 : 0 ≤ x) (h1 : x < 18446744073709551616) :
    Calls Try.prog 45 #[.int .u64 x, .int .i64 wi] w fun e w' => ∃ oa cap, e = .returned (.slice oa wd cap) ∧ Hid (RowB w' (.slice oa wd cap) (be wd x.toNat)) ∧ Hid (Below w.heap.size w w') := by
  obtain ⟨n, rfl⟩ : ∃ n : Nat, x = (n : Int) := ⟨x.toNat, by omega⟩
  rw [Int.toNat_natCast]
  exact numberF n wd wi hwi w hw (by omega)
set_option maxRecDepth 100000 in
set_option maxHeartbeats 8000000 in
theorem bytesF (P : Pb) (wv fv rv : Value) (L : List Int) (lv : Value) (w : World) (h : PbV w P wv fv rv) (hL : RowI w lv L) (hk : Pok P) (hh : holP P L = true) :
    Calls Try.prog 29 #[pbV P wv fv rv, lv] w (PuP w w.heap.size (certL P L)) := by
  have hC : chkN P = 0 := by unfold holP at hh; simp only [Bool.and_eq_true, decide_eq_true_eq] at hh; exact hh.1.1.1
  have hl : L.length = P.who.length := by unfold holP at hh; simp only [Bool.and_eq_true, decide_eq_true_eq] at hh; exact hh.1.1.2
  have hok : ∀ (t : Nat) (x : Int), L[t]? = some x → 0 ≤ x ∧ x < 64 := fun t x ht => by
    unfold holP at hh
    simp only [Bool.and_eq_true, decide_eq_true_eq] at hh
    have h3 := hh.1.2
    unfold okA at h3
    rw [List.all_eq_true] at h3
    have h4 := h3 t (List.mem_range.2 (List.getElem?_eq_some_iff.1 ht).1)
    rw [show L.getD t 0 = x by simp [List.getD_eq_getElem?_getD, ht]] at h4
    unfold okU at h4
    rw [Bool.and_eq_true] at h4
    have h5 := (isU_iff P x).1 h4.1
    have h6 := (chkN_zero hC).2.2.1
    omega
  obtain ⟨g12, g0, g64, g32, gF, gW, gR⟩ := chkN_zero hC
  obtain ⟨gl, gx⟩ := fixB_of gF g64
  have hs := h.shape
  have hst := hide' (Ce.start w P wv fv rv)
  have h' := hide' h
  have hgl : Hid (∀ j, j < P.who.length → ∃ (z : Nat) (y x : Int), P.who[j]? = some z ∧ P.fixed[j]? = some y ∧ L[j]? = some x ∧ z < 18446744073709551616 ∧ (0 ≤ y + 1 ∧ y + 1 < 65) ∧ (0 ≤ x ∧ x < 64)) := fun j hj => by
    have e1 := List.getElem?_eq_getElem (show j < P.who.length from hj)
    have e2 := List.getElem?_eq_getElem (show j < P.fixed.length by omega)
    have e3 := List.getElem?_eq_getElem (show j < L.length by omega)
    have e4 := gx _ (List.mem_of_getElem? e2)
    have e5 := hok _ _ e3
    exact ⟨_, _, _, e1, e2, e3, hk.b _ (List.mem_of_getElem? e1), by omega, by omega⟩
  have hrs : Hid (∀ (j : Nat) (r : Rl), P.rules[j]? = some r → 0 ≤ r.kind ∧ r.kind ≤ 5 ∧ 0 ≤ r.k ∧ r.k ≤ 999999999 ∧ (∀ s ∈ r.steps, 0 ≤ s ∧ s < 12) ∧ r.steps.length ≤ 12) := fun j r hr => by
    have := List.all_eq_true.1 gR r (List.mem_of_getElem? hr)
    exact rule_small this
  have hgl2 : Hid (P.fixed.length = P.who.length) := gl
  obtain ⟨ow, cw, of, cf, or, cr, rfl, rfl, rfl⟩ := hs
  obtain ⟨ol, cl, rfl, _, hcl⟩ := hL
  have hcl' := hide' hcl
  have hsh : Hid (L.length = P.who.length) := hl
  unfold PuP
  unfold pbV
  rw [hl]
  have hC3' := hide' (Ce.four w P (.slice ow P.who.length cw) (.slice of P.fixed.length cf) (.slice or P.rules.length cr) _ hst.out.pb hst.out.be g0 g64 g12)
  have q0 := hst.out.pb.c0
  have q1 := hst.out.pb.c1
  clear hcl h hC hl hok gx gF gW gR hh hk gl
  go_enter Try.func29, Try.ntmps29
  go_upto_region 2 with fail
  rw [World.size_alloc] at hC3'
  generalize (w.alloc (.cells #[.int .i64 P.users, .slice ow P.who.length cw, .slice of P.fixed.length cf, .slice or P.rules.length cr] 26)).alloc (.cells #[.int .u8 80, .int .u8 67, .int .u8 P.users, .int .u8 (P.who.length : Int)] 5) = w3 at hC3' ⊢
  have hC3 : Hid (Ce w P (.slice ow P.who.length cw) (.slice of P.fixed.length cf) (.slice or P.rules.length cr) w3 (.slice (some ⟨w.heap.size + 1, 0, none⟩) 4 4) (hdB P ++ stsB P L 0)) := by
    rw [show hdB P ++ stsB P L 0 = hdB P by simp [stsB]]
    exact hC3'
  clear hC3' q0 q1 hst
  go_upto_block 0 with fail
  go_cut [5, 6] from 18 to 48 (fun v _ wx => Hid (Ce w P (.slice ow P.who.length cw) (.slice of P.fixed.length cf) (.slice or P.rules.length cr) wx v (hdB P ++ stsB P L P.who.length)))
  case first =>
    as_aux_lemma =>
    go_wp2_with fail
    go_loopw [5, 6] (fun v p wr => ∃ j : Nat, j ≤ P.who.length ∧ p = .int .i64 (j : Int) ∧ Hid (Ce w P (.slice ow P.who.length cw) (.slice of P.fixed.length cf) (.slice or P.rules.length cr) wr v (hdB P ++ stsB P L j))) (fun _ p _ => ((P.who.length : Int) - intOf p).toNat)
    case atStart => exact ⟨0, Nat.zero_le _, rfl, hC3⟩
    case round =>
      clear hC3
      obtain ⟨j, hj, rfl, hC⟩ := hrel
      obtain ⟨ov, nv, cv, rfl⟩ := hC.out.shp
      have q1 := hC.out.pb.c1
      by_cases hlt : j < P.who.length
      · have hlt' : (j : Int) < (P.who.length : Int) := by omega
        have hltf : (j : Int) < (P.fixed.length : Int) := by have := hgl2.out; omega
        have hj0 : ¬ (j : Int) < 0 := by omega
        obtain ⟨z, y, x, hz, hy, hx, hzb, hyb, hxb⟩ := hgl.out j hlt
        obtain ⟨g1, p1, rfl, a1⟩ := hcl'.out j x hx
        obtain ⟨ow', cw', ew, _, hcw⟩ := h'.out.who
        obtain ⟨of', cf', ef, _, hcf⟩ := h'.out.fixed
        obtain ⟨g2, p2, r2, a2⟩ := hcw j z hz
        obtain ⟨g3, p3, r3, a3⟩ := hcf j y hy
        cases ew
        cases ef
        subst r2
        subst r3
        have a2' := M.cell_over a2 hC.out.be
        have hE := hide' (stB_at hz hy hx)
        have hE2 := hide' (stsB_succ P L j)
        have hlen : (hdB P ++ stsB P L j).length ≤ 1000 := by rw [List.length_append, hdB_len, stsB_len]; omega
        have a3h := hide' a3
        have a1h := hide' a1
        generalize hA : hdB P ++ stsB P L j = A at *
        have hA' := hide' hA
        clear hz hy hx a1 a2 a3 hcw hcf h' hgl hrs hA
        go_wp2_with fail
        refine (numberF z 8 8 rfl _ (by decide) hzb).mono ?_
        rintro e w4 ⟨o4, c4, rfl, hR4, hb4⟩
        have hC4 := hide' (hC.out.over hb4.out)
        have hs4 := hC4.out.sz
        clear hC hb4 q1 a2'
        go_wp2_with (at_builtin; refine app_rowBL rfl (.tmp 25) (.tmp 31) (w.heap.size + 1) w4 (.slice ov nv cv) A o4 8 c4 (be 8 z) rfl rfl rfl hC4.out.own hR4.out (by decide) hs4 (by omega) ?_; intro v5 w5 hO5 hb5 _; have hC5 := hide' (hC4.out.put hO5 hb5); clear hO5 hb5)
        obtain ⟨o5, n5, c5, rfl⟩ := hC5.out.shp
        clear hC4 hR4 hs4
        have hsd := hC5.out.sz
        have hld : (A ++ be 8 z).length ≤ 2000 := by rw [List.length_append, be_len]; omega
        have hK : Hid (∀ V, Below w.heap.size w V → V.cell? ⟨g1, p1 + j, none⟩ = some (.int .i64 x) ∧ V.cell? ⟨g3, p3 + j, none⟩ = some (.int .i64 y)) := fun V hV => ⟨M.cell_over a1h.out hV, M.cell_over a3h.out hV⟩
        have hKd : Hid (∀ V u l, Ce w P (.slice (some ⟨g2, p2, none⟩) P.who.length cw) (.slice (some ⟨g3, p3, none⟩) P.fixed.length cf) (.slice or P.rules.length cr) V u l → V.cell? ⟨g1, p1 + j, none⟩ = some (.int .i64 x) ∧ V.cell? ⟨g3, p3 + j, none⟩ = some (.int .i64 y) ∧ V.cell? ⟨w.heap.size, 2, none⟩ = some (.slice (some ⟨g3, p3, none⟩) P.fixed.length cf)) := fun V u l hV => ⟨(hK.out _ hV.be).1, (hK.out _ hV.be).2, hV.pb.c2⟩
        have hyc : 0 ≤ y + 1 ∧ y + 1 < 256 := by omega
        have hxc : 0 ≤ x ∧ x < 256 := by omega
        have hyw : Hid (IntKind.u8.wrap (IntKind.i64.wrap (y + 1)) = y + 1) := by unfold Hid; rw [wrap_i64 hyc, wrap_u8 hyc]
        have hxw := hide' (wrap_u8 hxc)
        clear a1h a3h
        go_wp2
        go_region_held3 (fun V => V.cell? ⟨g1, p1 + j, none⟩ = some (.int .i64 x) ∧ V.cell? ⟨g3, p3 + j, none⟩ = some (.int .i64 y) ∧ V.cell? ⟨w.heap.size, 2, none⟩ = some (.slice (some ⟨g3, p3, none⟩) P.fixed.length cf)) (first | (exact hKd.out _ _ _ hC6.out) | (exact hKd.out _ _ _ hC5.out) | (exact hKd.out _ _ _ (hC5.out.over (Below.refl _ w5).drew)) | (exact hKd.out _ _ _ (hC5.out.over ((Below.refl _ w5).alloc (Nat.le_refl _) _))) | (exact hKd.out _ _ _ (hC5.out.over ((Below.refl _ w5).alloc (Nat.le_refl _) _).drew))) (first | (rw [if_pos (by rfl)]; refine app_twoW (.tmp 33) (.tmp 46) (w.heap.size + 1) w5 (.slice o5 n5 c5) (A ++ be 8 z) _ _ (y + 1) x rfl rfl rfl hC5.out.own hsd (by omega) hyc hxc hyw.out hxw.out ?_; intro v6 w6 hO6 hb6; have hC6 := hide' (hC5.out.put hO6 hb6); clear hO6 hb6))
        all_goals
          have hC7 : Hid (Ce w P (.slice (some ⟨g2, p2, none⟩) P.who.length cw) (.slice (some ⟨g3, p3, none⟩) P.fixed.length cf) (.slice or P.rules.length cr) w6 v6 (hdB P ++ stsB P L (j + 1))) := by
            have := hC6.out
            unfold Hid
            rw [hE2.out, hE.out, ← List.append_assoc, hA'.out]
            simpa [List.append_assoc] using this
          clear hC6 hC5 hKd hK hE hE2 hA' hyw hxw
          go_wp2
          exact ⟨⟨j + 1, by omega, by go_num, hC7⟩, by simp [intOf]; omega⟩
      · obtain rfl : j = P.who.length := by omega
        clear hcl' hgl h' hrs
        go_wp2
        go_meet
        exact hC
  case rest =>
  have hC := hcut
  obtain ⟨ov, nv, cv, rfl⟩ := hC.out.shp
  have q3 := hC.out.pb.c3
  have hs3 := hC.out.sz
  have hlA : (hdB P ++ stsB P L P.who.length).length ≤ 1000 := by rw [List.length_append, hdB_len, stsB_len]; omega
  have hrl0 : (0 : Int) ≤ (P.rules.length : Int) := by omega
  have hrl1 : (P.rules.length : Int) < 256 := by omega
  clear hcl' hgl hC3 hcut
  have hfin : Hid (certL P L = (hdB P ++ stsB P L P.who.length ++ be 1 P.rules.length) ++ rusB P.rules) := rfl
  generalize hAA : hdB P ++ stsB P L P.who.length = A0 at *
  go_upto_region 8 with (at_builtin; refine app_byteIL rfl (.tmp 48) (.tmp 53) (w.heap.size + 1) wc (.slice ov nv cv) A0 (P.rules.length : Int) rfl rfl rfl hC.out.own hs3 (by omega) hrl0 hrl1 ?_; intro v4 w4 hO4 hb4 _; have hC4' := hide' (hC.out.put hO4 hb4); clear hO4 hb4)
  obtain ⟨o4, n4, c4, rfl⟩ := hC4'.out.shp
  have hC4 : Hid (Ce w P (.slice ow P.who.length cw) (.slice of P.fixed.length cf) (.slice or P.rules.length cr) w4 (.slice o4 n4 c4) ((A0 ++ be 1 P.rules.length) ++ rusB (P.rules.take 0))) := by
    have := hC4'.out
    rw [Int.toNat_natCast] at this
    rw [show rusB (P.rules.take 0) = [] from rfl, List.append_nil]
    exact this
  have hlB : (A0 ++ be 1 P.rules.length).length ≤ 1001 := by rw [List.length_append, be_len]; omega
  clear hC hC4' q3 hlA hs3 hAA
  generalize A0 ++ be 1 P.rules.length = A at *
  have hlr : Hid (∀ j, (rusB (P.rules.take j)).length ≤ 33000) := fun j => by
    have h1 : ∀ r ∈ P.rules.take j, r.steps.length ≤ 1000 := fun r hr => by
      obtain ⟨i, hi⟩ := List.getElem?_of_mem (List.mem_of_mem_take hr)
      have := (hrs.out i r hi).2.2.2.2.2
      omega
    have h2 := rusB_le h1
    rw [List.length_take] at h2
    omega
  go_wp2
  go_loopw [5, 7, 8, 9] (fun v p _ _ wr => ∃ j : Nat, j ≤ P.rules.length ∧ p = .int .i64 (j : Int) ∧ Hid (Ce w P (.slice ow P.who.length cw) (.slice of P.fixed.length cf) (.slice or P.rules.length cr) wr v (A ++ rusB (P.rules.take j)))) (fun _ p _ _ _ => ((P.rules.length : Int) - intOf p).toNat)
  case atStart => exact ⟨0, Nat.zero_le _, rfl, hC4⟩
  case round =>
    clear hC4
    obtain ⟨j, hj, rfl, hC⟩ := hrel
    obtain ⟨ov, nv, cv, rfl⟩ := hC.out.shp
    have q3 := hC.out.pb.c3
    by_cases hlt : j < P.rules.length
    · as_aux_lemma =>
      have hlt' : (j : Int) < (P.rules.length : Int) := by omega
      obtain ⟨r, hx⟩ : ∃ r, P.rules[j]? = some r := ⟨_, List.getElem?_eq_getElem hlt⟩
      obtain ⟨oa3, ca3, e3, _, hcr⟩ := h'.out.rules
      obtain ⟨g, o, sv, r3, d1, d2, d3, d4⟩ := hcr j r hx
      injection e3 with e3a e3b e3c
      subst e3a
      subst r3
      have e1 := M.cell_over d1 hC.out.be
      have e2 := M.cell_over d2 hC.out.be
      have e4 := M.cell_over d3 hC.out.be
      obtain ⟨hr1, hr2, hr3, hr4, hr5, hr6⟩ := hrs.out j r hx
      have hr5' := hide' hr5
      have hTk := hide' (rusB_take hx)
      have hl5 := hlr.out j
      have hlen : (A ++ rusB (P.rules.take j)).length ≤ 40000 := by rw [List.length_append]; omega
      obtain ⟨osv, csv, rfl, _, hcs⟩ := d4
      have hcs' := hide' hcs
      have hA : Hid (A ++ rusB (P.rules.take (j + 1)) = A ++ rusB (P.rules.take j) ++ ruB r) := by unfold Hid; rw [hTk.out, List.append_assoc]
      have hbx := hide' (hC.out.over ((Below.refl _ wr).alloc (Nat.le_refl _) (.cells #[.int .i64 r.kind, .int .i64 r.k, .slice osv r.steps.length csv] 54)))
      have hnb : Hid ((wr.alloc (.cells #[.int .i64 r.kind, .int .i64 r.k, .slice osv r.steps.length csv] 54)).heap[wr.heap.size]? = some (.cells #[.int .i64 r.kind, .int .i64 r.k, .slice osv r.steps.length csv] 54 (0, 0))) := heap_new wr _
      have hKd : r.kind < 256 := by omega
      have hlr1 : ((r.steps.length : Nat) : Int) < 256 := by omega
      have hlr0 : (0 : Int) ≤ ((r.steps.length : Nat) : Int) := by omega
      generalize A ++ rusB (P.rules.take j) = D at *
      clear d1 d2 d3 hx hcr hC hTk hl5 hlr hcs hr5 e3b e3c h' hlB hrs
      go_upto_region 12 with fail
      clear e1 e2 e4 q3
      generalize wr.alloc (.cells #[.int .i64 r.kind, .int .i64 r.k, .slice osv r.steps.length csv] 54) = Wb at *
      generalize wr.heap.size = gr at *
      have k0 : Wb.cell? ⟨gr, 0, none⟩ = some (.int .i64 r.kind) := by have := hnb.out; simp [World.cell?, this]
      have hsb := hbx.out.sz
      go_upto_region 13 with (at_builtin; refine app_byteIL rfl (.tmp 67) (.tmp 71) (w.heap.size + 1) Wb (.slice ov nv cv) D r.kind rfl rfl rfl hbx.out.own hsb (by omega) hr1 hKd ?_; intro v5 w5 hO5 hb5 hf5; have hC5 := hide' (hbx.out.put hO5 hb5); have hn5 := hide' (hf5.block _ _ _ _ (by decide) hnb.out); clear hO5 hb5 hf5)
      obtain ⟨o5, n5, c5, rfl⟩ := hC5.out.shp
      have k1 : w5.cell? ⟨gr, 1, none⟩ = some (.int .i64 r.k) := by have := hn5.out; simp [World.cell?, this]
      clear k0 hbx hnb hsb
      go_wp2_with fail
      refine (numberI r.k 4 4 rfl _ (by decide) hr3 (by omega)).mono ?_
      rintro e w6 ⟨o6, c6, rfl, hR6, hb6⟩
      have hC6 := hide' (hC5.out.over hb6.out)
      have hn6 := hide' ((hb6.out.block _ (Array.getElem?_eq_some_iff.1 hn5.out).1).trans hn5.out)
      have hs6 := hC6.out.sz
      have hl6 : (D ++ be 1 r.kind.toNat).length + 4 ≤ 50000 := by rw [List.length_append, be_len]; omega
      clear k1 hC5 hn5 hb6
      go_upto_region 14 with (at_builtin; refine app_rowBL rfl (.tmp 73) (.tmp 77) (w.heap.size + 1) w6 (.slice o5 n5 c5) (D ++ be 1 r.kind.toNat) o6 4 c6 (be 4 r.k.toNat) rfl rfl rfl hC6.out.own hR6.out (by decide) hs6 (by omega) ?_; intro v7 w7 hO7 hb7 hf7; have hC7 := hide' (hC6.out.put hO7 hb7); have hn7 := hide' (hf7.block _ _ _ _ (by decide) hn6.out); clear hO7 hb7 hf7)
      obtain ⟨o7, n7, c7, rfl⟩ := hC7.out.shp
      have k2 : w7.cell? ⟨gr, 2, none⟩ = some (.slice osv r.steps.length csv) := by have := hn7.out; simp [World.cell?, this]
      have hs7 := hC7.out.sz
      have hl7 : (D ++ be 1 r.kind.toNat ++ be 4 r.k.toNat).length ≤ 50000 := by rw [List.length_append, be_len]; omega
      clear hC6 hn6 hR6 hs6
      go_upto_region 15 with (at_builtin; refine app_byteIL rfl (.tmp 79) (.tmp 84) (w.heap.size + 1) w7 (.slice o7 n7 c7) (D ++ be 1 r.kind.toNat ++ be 4 r.k.toNat) ((r.steps.length : Nat) : Int) rfl rfl rfl hC7.out.own hs7 (by omega) hlr0 hlr1 ?_; intro v8 w8 hO8 hb8 hf8; have hC8' := hide' (hC7.out.put hO8 hb8); have hn8 := hide' (hf8.block _ _ _ _ (by decide) hn7.out); clear hO8 hb8 hf8)
      obtain ⟨o8, n8, c8, rfl⟩ := hC8'.out.shp
      rw [Int.toNat_natCast] at hC8'
      have hA2 : Hid (D ++ ruB r = (D ++ be 1 r.kind.toNat ++ be 4 r.k.toNat ++ be 1 r.steps.length) ++ spB (r.steps.take r.steps.length)) := by unfold Hid ruB; rw [List.take_length]; simp
      have hC8 : Hid (Ce w P (.slice ow P.who.length cw) (.slice of P.fixed.length cf) (.slice (some ⟨g, o, none⟩) P.rules.length cr) w8 (.slice o8 n8 c8) ((D ++ be 1 r.kind.toNat ++ be 4 r.k.toNat ++ be 1 r.steps.length) ++ spB (r.steps.take 0))) := by
        have := hC8'.out
        rw [show spB (r.steps.take 0) = [] from rfl, List.append_nil]
        exact this
      have hlD : (D ++ be 1 r.kind.toNat ++ be 4 r.k.toNat ++ be 1 r.steps.length).length ≤ 50001 := by rw [List.length_append, be_len]; omega
      generalize D ++ be 1 r.kind.toNat ++ be 4 r.k.toNat ++ be 1 r.steps.length = D2 at *
      clear hC8' hC7 hn7 k2 hs7 hl7 hl6
      go_wp2
      go_loopw [5, 9] (fun v p wr => ∃ i : Nat, i ≤ r.steps.length ∧ p = .int .i64 (i : Int) ∧ Hid (Ce w P (.slice ow P.who.length cw) (.slice of P.fixed.length cf) (.slice (some ⟨g, o, none⟩) P.rules.length cr) wr v (D2 ++ spB (r.steps.take i))) ∧ Hid (wr.heap[gr]? = some (.cells #[.int .i64 r.kind, .int .i64 r.k, .slice osv r.steps.length csv] 54 (0, 0)))) (fun _ p _ => ((r.steps.length : Int) - intOf p).toNat)
      case atStart => exact ⟨0, Nat.zero_le _, rfl, hC8, hn8⟩
      case round =>
        clear hC8 hn8
        obtain ⟨i, hi, rfl, hC, hn⟩ := hrel
        obtain ⟨ov2, nv2, cv2, rfl⟩ := hC.out.shp
        have k2 : wr.cell? ⟨gr, 2, none⟩ = some (.slice osv r.steps.length csv) := by have := hn.out; simp [World.cell?, this]
        by_cases hlt2 : i < r.steps.length
        · have hlt3 : (i : Int) < (r.steps.length : Int) := by omega
          obtain ⟨z, hz⟩ : ∃ z, r.steps[i]? = some z := ⟨_, List.getElem?_eq_getElem hlt2⟩
          obtain ⟨g8, o8', rfl, d8⟩ := hcs'.out i z hz
          have c8' := M.cell_over d8 hC.out.be
          have hzr := hr5'.out z (List.mem_of_getElem? hz)
          have hz0 : 0 ≤ z := hzr.1
          have hz1 : z < 256 := by omega
          have hE := hide' (spB_take hz)
          have hl9 : (D2 ++ spB (r.steps.take i)).length ≤ 60000 := by rw [List.length_append, spB_len, List.length_take]; omega
          have hA3 : Hid (D2 ++ spB (r.steps.take i) ++ be 1 z.toNat = D2 ++ spB (r.steps.take (i + 1))) := by unfold Hid; rw [hE.out, List.append_assoc]
          have hs9 := hC.out.sz
          generalize D2 ++ spB (r.steps.take i) = D3 at *
          clear hz d8 hcs' hr5' hE hA2 hA hlD hzr
          go_wp2_with (at_builtin; refine app_byteIL rfl (.tmp 93) (.tmp 100) (w.heap.size + 1) wr (.slice ov2 nv2 cv2) D3 z rfl rfl rfl hC.out.own hs9 (by omega) hz0 hz1 ?_; intro v9 w9 hO9 hb9 hf9; have hC9 := hide' (hC.out.put hO9 hb9); have hn9 := hide' (hf9.block _ _ _ _ (by decide) hn.out); clear hO9 hb9 hf9)
          rw [hA3.out] at hC9
          exact ⟨⟨i + 1, by omega, by go_num, hC9, hn9⟩, by simp [intOf]; omega⟩
        · obtain rfl : i = r.steps.length := by omega
          rw [← hA2.out, ← hA.out] at hC
          clear hcs' hr5' hA hA2 hn
          go_wp2
          exact ⟨⟨j + 1, by omega, by go_num, hC⟩, by simp [intOf]; omega⟩
    · as_aux_lemma =>
      obtain rfl : j = P.rules.length := by omega
      rw [List.take_length, ← hfin.out] at hC
      clear hrs hlr h'
      go_wp2
      go_ret
      exact ⟨_, rfl, owns_lowS hC.out.own (Nat.le_succ _), hC.out.be, FzB.below hC.out.be⟩
end Go.Proofs.Ytgopaoecmefnkaa.S

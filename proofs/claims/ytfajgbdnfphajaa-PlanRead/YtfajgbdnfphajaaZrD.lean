/- The document's Read, walked. -/
import Derived.Test.YtfajgbdnfphajaaZrQ
import Derived.Test.YtfajgbdnfphajaaZrS
import Derived.Test.YtfajgbdnfphajaaZrF
namespace Go.Proofs.Ytfajgbdnfphajaa.S
open Go.RowKit Go.Shelf
/-- The result's box and none's. -/
structure Dz (w W : World) : Prop where
  z0 : QAt W w.heap.size 0 (.slice none 0 0) (.slice none 0 0) (.slice none 0 0)
  z1 : QAt W (w.heap.size + 1) 0 (.slice none 0 0) (.slice none 0 0) (.slice none 0 0)
  be : Below w.heap.size w W
theorem Dz.start (w : World) : Dz w ((w.alloc (.cells #[.int .i64 0, .slice none 0 0, .slice none 0 0, .slice none 0 0] 27)).alloc (.cells #[.int .i64 0, .slice none 0 0, .slice none 0 0, .slice none 0 0] 27)) := by
  have hA : Below w.heap.size w (w.alloc (.cells #[.int .i64 0, .slice none 0 0, .slice none 0 0, .slice none 0 0] 27)) := (Below.refl _ w).alloc (Nat.le_refl _) _
  have hz : (w.alloc (.cells #[.int .i64 0, .slice none 0 0, .slice none 0 0, .slice none 0 0] 27)).heap.size = w.heap.size + 1 := by simp
  have hB := (Below.refl _ (w.alloc (.cells #[.int .i64 0, .slice none 0 0, .slice none 0 0, .slice none 0 0] 27))).alloc (Nat.le_refl _) (.cells #[.int .i64 0, .slice none 0 0, .slice none 0 0, .slice none 0 0] 27)
  have hq : QAt (w.alloc (.cells #[.int .i64 0, .slice none 0 0, .slice none 0 0, .slice none 0 0] 27)) w.heap.size 0 (.slice none 0 0) (.slice none 0 0) (.slice none 0 0) := QAt.block (heap_new w _)
  refine ⟨hq.of (hB.block _ (by rw [hz]; exact Nat.lt_succ_self _)), ?_, hA.trans (hB.mono (by rw [hz]; exact Nat.le_succ _))⟩
  rw [← hz]
  exact QAt.block (heap_new _ _)
theorem Dq.dz {w : World} {gp : Nat} {W : World} {u : Int} {a b va vb vp : Value} {L1 : List Nat} {L2 LP : List Int} (h : Dq w gp W u a b va vb vp L1 L2 LP) : Dz w W := ⟨h.z0, h.z1, h.be⟩
theorem Rf.dz {w : World} {Q : Pb} {gp : Nat} {va vb vc vp : Value} {M : List Int} {E : List (Rl × Value)} {W : World} (h : Rf w Q gp va vb vc vp M E W) : Dz w W := ⟨h.z0, h.z1, h.be⟩
theorem Dz.over {w W W' : World} (h : Dz w W) (hb : Below W.heap.size W W') : Dz w W' := ⟨h.z0.of (hb.block _ h.z0.lt), h.z1.of (hb.block _ h.z1.lt), h.be.trans (hb.mono h.be.size)⟩
theorem Dz.p {w w1 : World} (h : Dz w w1) (u : Int) : Dq w w1.heap.size (w1.alloc (.cells #[.int .i64 u, .slice none 0 0, .slice none 0 0, .slice none 0 0] 27)) u (.slice none 0 0) (.slice none 0 0) (.slice none 0 0) (.slice none 0 0) (.slice none 0 0) [] [] [] := by
  have hA : Below w1.heap.size w1 (w1.alloc (.cells #[.int .i64 u, .slice none 0 0, .slice none 0 0, .slice none 0 0] 27)) := (Below.refl _ w1).alloc (Nat.le_refl _) _
  have k := h.over hA
  exact ⟨k.z0, k.z1, QAt.block (heap_new w1 _), World.ownsRow_nil _ _ _ _, World.ownsRow_nil _ _ _ _, World.ownsRow_nil _ _ _ _, (fun g e => by cases e), k.be, h.z1.lt⟩
structure RdB (L : List Nat) (e : Nat) : Prop where
  p : rdN L = e ∧ rdP L = ⟨0, [], [], []⟩ ∧ rdL L = []
structure RdG0 (L : List Nat) (Q : Pb) (M : List Int) : Prop where
  p : rdN L = 0 ∧ rdP L = Q ∧ rdL L = M
structure RdY (L : List Nat) (Q : Pb) (M : List Int) : Prop where
  fl : chkN Q = 0 → decide ((flwL Q M).length = 0) = holP Q M
  rd : rdN L = (if rdF_ L = true ∧ chkN Q = 0 then (if holP Q M = true then 0 else 52) else 3) ∧ (rdN L = 0 → rdP L = Q ∧ rdL L = M)
set_option maxRecDepth 100000 in
set_option maxHeartbeats 8000000 in
theorem readD (L : List Nat) (v : Value) (w : World) (h : RowC w v L) (hb : ∀ b ∈ L, b < 256) (hl : L.length ≤ 100000) :
    Calls Try.prog 7 #[v] w (ReP w L) := by
  have hz := hide' (Dz.start w)
  have h' := hide' h
  have hb' := hide' hb
  have hl' := hide' hl
  clear h hb hl
  go_enter Try.func7, Try.ntmps7
  go_upto_region 2 with fail
  generalize (w.alloc (.cells #[.int .i64 0, .slice none 0 0, .slice none 0 0, .slice none 0 0] 27)).alloc (.cells #[.int .i64 0, .slice none 0 0, .slice none 0 0, .slice none 0 0] 27) = w1 at *
  by_cases h5 : L.length < 5
  · as_aux_lemma =>
    have h5' : (L.length : Int) < 5 := by omega
    have hP := RdB.mk (rd_bad (head_short h5) (by decide))
    obtain ⟨oa, cap, rfl, _, _⟩ := h'.out
    clear h5 h' hb' hl'
    have f0 := hz.out.z0.frz 0
    have y0 := hz.out.z0.c0
    have f1 := (hz.out.z0.s0 0).frz 1
    have y1 := (hz.out.z0.s0 0).c1
    have f2 := ((hz.out.z0.s0 0).s1 (.slice none 0 0)).frz 2
    have y2 := ((hz.out.z0.s0 0).s1 (.slice none 0 0)).c2
    have f3 := (((hz.out.z0.s0 0).s1 (.slice none 0 0)).s2 (.slice none 0 0)).frz 3
    have y3 := (((hz.out.z0.s0 0).s1 (.slice none 0 0)).s2 (.slice none 0 0)).c3
    have x0 := ((((hz.out.z0.s0 0).s1 (.slice none 0 0)).s2 (.slice none 0 0)).s3 (.slice none 0 0)).c0
    have x1 := ((((hz.out.z0.s0 0).s1 (.slice none 0 0)).s2 (.slice none 0 0)).s3 (.slice none 0 0)).c1
    have x2 := ((((hz.out.z0.s0 0).s1 (.slice none 0 0)).s2 (.slice none 0 0)).s3 (.slice none 0 0)).c2
    have x3 := ((((hz.out.z0.s0 0).s1 (.slice none 0 0)).s2 (.slice none 0 0)).s3 (.slice none 0 0)).c3
    have n0 := hz.out.z1.c0
    have n1 := hz.out.z1.c1
    have n2 := hz.out.z1.c2
    have n3 := hz.out.z1.c3
    have hF := hide' (zero_fin hz.out.be (.int .i64 0) (.slice none 0 0) (.slice none 0 0) (.slice none 0 0))
    clear hz
    go_wp2
    refine bodyPost_ret (v := .tuple #[.agg #[.int .i64 0, .slice none 0 0, .slice none 0 0, .slice none 0 0], .slice none 0 0, .int .i64 3]) (by simp [results, Try.results7, go_sem, x0, x1, x2, x3]) rfl ?_
    unfold ReP
    rw [hP.p.1, hP.p.2.1, hP.p.2.2]
    exact ⟨_, _, _, _, rfl, nil_pv _, hF.out⟩
  have h5' : ¬ (L.length : Int) < 5 := by omega
  obtain ⟨g, o, cap, rfl, hcap⟩ := h'.out.addr (by omega)
  obtain ⟨a, ha⟩ : ∃ z, L[0]? = some z := ⟨_, List.getElem?_eq_getElem (by omega)⟩
  obtain ⟨b, hbb⟩ : ∃ z, L[1]? = some z := ⟨_, List.getElem?_eq_getElem (by omega)⟩
  obtain ⟨u, hu⟩ : ∃ z, L[2]? = some z := ⟨_, List.getElem?_eq_getElem (by omega)⟩
  obtain ⟨n, hn⟩ : ∃ z, L[3]? = some z := ⟨_, List.getElem?_eq_getElem (by omega)⟩
  have c0 : w1.cell? ⟨g, o, none⟩ = some (.int .u8 (a : Int)) := by have := M.cell_over (h'.out.at' ha) hz.out.be; rwa [Nat.add_zero] at this
  have c1 := M.cell_over (h'.out.at' hbb) hz.out.be
  have hbl := hb'.out b (List.mem_of_getElem? hbb)
  have hul := hb'.out u (List.mem_of_getElem? hu)
  have hnl := hb'.out n (List.mem_of_getElem? hn)
  have h50 : (0 : Int) < (L.length : Int) := by omega
  have h51 : (1 : Int) < (L.length : Int) := by omega
  have h50' : 0 < L.length := by omega
  have h51' : 1 < L.length := by omega
  by_cases ha80 : a = 80
  case neg =>
    as_aux_lemma =>
    have q1 : ¬ (a : Int) = 80 := by omega
    have q2 : ((a : Int) != 80) = true := by rw [bne_iff_ne]; exact q1
    have hP := RdB.mk (rd_bad (head_no ha hbb hbl (fun q => ha80 q.1)) (by decide))
    clear h5 h' hb' hl' ha hbb hu hn c1
    have f0 := hz.out.z0.frz 0
    have y0 := hz.out.z0.c0
    have f1 := (hz.out.z0.s0 0).frz 1
    have y1 := (hz.out.z0.s0 0).c1
    have f2 := ((hz.out.z0.s0 0).s1 (.slice none 0 0)).frz 2
    have y2 := ((hz.out.z0.s0 0).s1 (.slice none 0 0)).c2
    have f3 := (((hz.out.z0.s0 0).s1 (.slice none 0 0)).s2 (.slice none 0 0)).frz 3
    have y3 := (((hz.out.z0.s0 0).s1 (.slice none 0 0)).s2 (.slice none 0 0)).c3
    have x0 := ((((hz.out.z0.s0 0).s1 (.slice none 0 0)).s2 (.slice none 0 0)).s3 (.slice none 0 0)).c0
    have x1 := ((((hz.out.z0.s0 0).s1 (.slice none 0 0)).s2 (.slice none 0 0)).s3 (.slice none 0 0)).c1
    have x2 := ((((hz.out.z0.s0 0).s1 (.slice none 0 0)).s2 (.slice none 0 0)).s3 (.slice none 0 0)).c2
    have x3 := ((((hz.out.z0.s0 0).s1 (.slice none 0 0)).s2 (.slice none 0 0)).s3 (.slice none 0 0)).c3
    have n0 := hz.out.z1.c0
    have n1 := hz.out.z1.c1
    have n2 := hz.out.z1.c2
    have n3 := hz.out.z1.c3
    have hF := hide' (zero_fin hz.out.be (.int .i64 0) (.slice none 0 0) (.slice none 0 0) (.slice none 0 0))
    clear hz
    go_wp2
    refine bodyPost_ret (v := .tuple #[.agg #[.int .i64 0, .slice none 0 0, .slice none 0 0, .slice none 0 0], .slice none 0 0, .int .i64 3]) (by simp [results, Try.results7, go_sem, x0, x1, x2, x3]) rfl ?_
    unfold ReP
    rw [hP.p.1, hP.p.2.1, hP.p.2.2]
    exact ⟨_, _, _, _, rfl, nil_pv _, hF.out⟩
  subst ha80
  by_cases hb67 : b = 67
  case neg =>
    as_aux_lemma =>
    have q1 : ¬ (b : Int) = 67 := by omega
    have q2 : ((b : Int) != 67) = true := by rw [bne_iff_ne]; exact q1
    have hP := RdB.mk (rd_bad (head_no ha hbb hbl (fun q => hb67 q.2)) (by decide))
    clear h5 h' hb' hl' ha hbb hu hn
    have f0 := hz.out.z0.frz 0
    have y0 := hz.out.z0.c0
    have f1 := (hz.out.z0.s0 0).frz 1
    have y1 := (hz.out.z0.s0 0).c1
    have f2 := ((hz.out.z0.s0 0).s1 (.slice none 0 0)).frz 2
    have y2 := ((hz.out.z0.s0 0).s1 (.slice none 0 0)).c2
    have f3 := (((hz.out.z0.s0 0).s1 (.slice none 0 0)).s2 (.slice none 0 0)).frz 3
    have y3 := (((hz.out.z0.s0 0).s1 (.slice none 0 0)).s2 (.slice none 0 0)).c3
    have x0 := ((((hz.out.z0.s0 0).s1 (.slice none 0 0)).s2 (.slice none 0 0)).s3 (.slice none 0 0)).c0
    have x1 := ((((hz.out.z0.s0 0).s1 (.slice none 0 0)).s2 (.slice none 0 0)).s3 (.slice none 0 0)).c1
    have x2 := ((((hz.out.z0.s0 0).s1 (.slice none 0 0)).s2 (.slice none 0 0)).s3 (.slice none 0 0)).c2
    have x3 := ((((hz.out.z0.s0 0).s1 (.slice none 0 0)).s2 (.slice none 0 0)).s3 (.slice none 0 0)).c3
    have n0 := hz.out.z1.c0
    have n1 := hz.out.z1.c1
    have n2 := hz.out.z1.c2
    have n3 := hz.out.z1.c3
    have hF := hide' (zero_fin hz.out.be (.int .i64 0) (.slice none 0 0) (.slice none 0 0) (.slice none 0 0))
    clear hz
    go_wp2
    refine bodyPost_ret (v := .tuple #[.agg #[.int .i64 0, .slice none 0 0, .slice none 0 0, .slice none 0 0], .slice none 0 0, .int .i64 3]) (by simp [results, Try.results7, go_sem, x0, x1, x2, x3]) rfl ?_
    unfold ReP
    rw [hP.p.1, hP.p.2.1, hP.p.2.2]
    exact ⟨_, _, _, _, rfl, nil_pv _, hF.out⟩
  subst hb67
  have hH := hide' (head_yes ha hbb hu hn)
  have c2 := M.cell_over (h'.out.at' hu) hz.out.be
  have h52 : (2 : Int) < (L.length : Int) := by omega
  have h53 : (3 : Int) < (L.length : Int) := by omega
  have h54 : (4 : Int) ≤ (L.length : Int) := by omega
  have h55 : (4 : Int) ≤ (cap : Int) := by omega
  have h56 : (L.length : Int) ≤ (cap : Int) := by omega
  have hc4 := eq_false (show ¬ cap = 4 by omega)
  have hD := hide' (hz.out.p (u : Int))
  have c3 := M.cell_over (h'.out.at' hn) hD.out.be
  have hR0 := hide' (RowC.drop h'.out (k := 4) (by omega))
  have hbT : Hid (∀ b ∈ L.drop 4, b < 256) := fun b hh => hb'.out b (List.mem_of_mem_drop hh)
  have hlT : Hid ((L.drop 4).length ≤ 100000) := by show _ ≤ _; rw [List.length_drop]; have := hl'.out; omega
  clear ha hbb hu hn h5 hbl
  go_upto_region 4 with fail
  go_upto_region 5 with fail
  clear c0 c1 c2 hz
  generalize w1.alloc (.cells #[.int .i64 (u : Int), .slice none 0 0, .slice none 0 0, .slice none 0 0] 27) = W2 at *
  generalize w1.heap.size = gp at *
  go_upto_block 0 with fail
  go_cut [0, 8, 9] from 39 to 74 (fun bv pv _ wx => ∃ (T : List Nat) (va vb : Value), Hid (csS n (L.drop 4, false) = (T, false)) ∧ Hid (RowC w bv T) ∧ Hid (∀ b ∈ T, b < 256) ∧ Hid (T.length ≤ 100000) ∧ Hid (Dq w gp wx (u : Int) va vb va vb pv (csW n (L.drop 4, false)) (csF n (L.drop 4, false)) (csP n (L.drop 4, false))))
  case first =>
    as_aux_lemma =>
    go_wp2
    go_loopw [0, 8, 9] (fun bv pv k wr => ∃ (c : Nat) (T : List Nat) (va vb : Value), c ≤ n ∧ k = .int .i64 (c : Int) ∧ Hid (csS c (L.drop 4, false) = (T, false)) ∧ Hid (RowC w bv T) ∧ Hid (∀ b ∈ T, b < 256) ∧ Hid (T.length ≤ 100000) ∧ Hid (Dq w gp wr (u : Int) va vb va vb pv (csW c (L.drop 4, false)) (csF c (L.drop 4, false)) (csP c (L.drop 4, false)))) (fun _ _ k _ => ((n : Int) - intOf k).toNat)
    case atStart => exact ⟨0, L.drop 4, _, _, Nat.zero_le _, rfl, rfl, by have := hR0; rwa [List.length_drop] at *, hbT, hlT, hD⟩
    case round =>
      clear hD hR0 hbT hlT h' hb' hl' c3 hc4 h50 h51 h52 h53 h54 h55 h56 h50' h51' h5' hcap
      obtain ⟨c, T, va, vb, hc, rfl, hS, hR, hb, hl, hD⟩ := hrel
      obtain ⟨oP, nP, cP, rfl⟩ : ∃ a b c, u8 = .slice a b c := by obtain ⟨a, c, e⟩ := own_shp hD.out.rp; exact ⟨a, _, c, e⟩
      by_cases hlt : c < n
      case neg =>
        as_aux_lemma =>
        obtain rfl : c = n := by omega
        obtain ⟨oa, cap, rfl, _, _⟩ := hR.out
        go_wp2
        go_meet
        exact ⟨T, va, vb, hS, hR, hb, hl, hD⟩
      have hlt' : (c : Int) < (n : Int) := by omega
      by_cases h10 : T.length < 10
      · as_aux_lemma =>
        have h10' : (T.length : Int) < 10 := by omega
        have hP := RdB.mk (rd_bad (steps_no (L := L) (c := c) (T := T) (by rw [hH.out.2.1]; exact hlt) (by rw [hH.out.2.2]; exact hS.out) h10) (by decide))
        obtain ⟨oa, cap, rfl, _, _⟩ := hR.out
        have hz := hide' hD.out.dz
        clear hD hR hb hl hS hH h10
        have f0 := hz.out.z0.frz 0
        have y0 := hz.out.z0.c0
        have f1 := (hz.out.z0.s0 0).frz 1
        have y1 := (hz.out.z0.s0 0).c1
        have f2 := ((hz.out.z0.s0 0).s1 (.slice none 0 0)).frz 2
        have y2 := ((hz.out.z0.s0 0).s1 (.slice none 0 0)).c2
        have f3 := (((hz.out.z0.s0 0).s1 (.slice none 0 0)).s2 (.slice none 0 0)).frz 3
        have y3 := (((hz.out.z0.s0 0).s1 (.slice none 0 0)).s2 (.slice none 0 0)).c3
        have x0 := ((((hz.out.z0.s0 0).s1 (.slice none 0 0)).s2 (.slice none 0 0)).s3 (.slice none 0 0)).c0
        have x1 := ((((hz.out.z0.s0 0).s1 (.slice none 0 0)).s2 (.slice none 0 0)).s3 (.slice none 0 0)).c1
        have x2 := ((((hz.out.z0.s0 0).s1 (.slice none 0 0)).s2 (.slice none 0 0)).s3 (.slice none 0 0)).c2
        have x3 := ((((hz.out.z0.s0 0).s1 (.slice none 0 0)).s2 (.slice none 0 0)).s3 (.slice none 0 0)).c3
        have n0 := hz.out.z1.c0
        have n1 := hz.out.z1.c1
        have n2 := hz.out.z1.c2
        have n3 := hz.out.z1.c3
        have hF := hide' (zero_fin hz.out.be (.int .i64 0) (.slice none 0 0) (.slice none 0 0) (.slice none 0 0))
        clear hz
        go_wp2
        refine bodyPost_ret (v := .tuple #[.agg #[.int .i64 0, .slice none 0 0, .slice none 0 0, .slice none 0 0], .slice none 0 0, .int .i64 3]) (by simp [results, Try.results7, go_sem, x0, x1, x2, x3]) rfl ?_
        unfold ReP
        rw [hP.p.1, hP.p.2.1, hP.p.2.2]
        exact ⟨_, _, _, _, rfl, nil_pv _, hF.out⟩
      · as_aux_lemma =>
        have h10' : ¬ (T.length : Int) < 10 := by omega
        obtain ⟨g, o, cap, rfl, hcap⟩ := hR.out.addr (by omega)
        obtain ⟨y, hy⟩ : ∃ z, T[8]? = some z := ⟨_, List.getElem?_eq_getElem (by omega)⟩
        obtain ⟨x, hx⟩ : ∃ z, T[9]? = some z := ⟨_, List.getElem?_eq_getElem (by omega)⟩
        obtain ⟨oF, nF, cF, rfl⟩ : ∃ a b c, vb = .slice a b c := by obtain ⟨a, c, e⟩ := own_shp hD.out.r2; exact ⟨a, _, c, e⟩
        obtain ⟨oW, nW, cW, rfl⟩ : ∃ a b c, va = .slice a b c := by obtain ⟨a, c, e⟩ := own_shp hD.out.r1; exact ⟨a, _, c, e⟩
        have hyb := hb.out y (List.mem_of_getElem? hy)
        have hxb := hb.out x (List.mem_of_getElem? hx)
        have hSt := hide' (step_yes false hy hx)
        have hNx : Hid (csS (c + 1) (L.drop 4, false) = (T.drop 10, false) ∧ csW (c + 1) (L.drop 4, false) = csW c (L.drop 4, false) ++ [valB (T.take 8)] ∧ csF (c + 1) (L.drop 4, false) = csF c (L.drop 4, false) ++ [(y : Int) - 1] ∧ csP (c + 1) (L.drop 4, false) = csP c (L.drop 4, false) ++ [(x : Int)]) := by
          obtain ⟨s1, s2, s3, s4⟩ := hSt.out
          refine ⟨?_, ?_, ?_, ?_⟩
          · show tkS 1 (tkS 1 (tkS 8 (csS c (L.drop 4, false)))) = _; rw [hS.out, s4]
          · show _ ++ [tkN 8 (csS c (L.drop 4, false))] = _; rw [hS.out, s1]
          · show _ ++ [((tkN 1 (tkS 8 (csS c (L.drop 4, false))) : Nat) : Int) - 1] = _; rw [hS.out, s2]
          · show _ ++ [((tkN 1 (tkS 1 (tkS 8 (csS c (L.drop 4, false)))) : Nat) : Int)] = _; rw [hS.out, s3]
        have hlW : (csW c (L.drop 4, false)).length ≤ 1000000 := by rw [csW_len]; omega
        have hlF : (csF c (L.drop 4, false)).length ≤ 1000000 := by rw [csF_len]; omega
        have hlP : (csP c (L.drop 4, false)).length ≤ 1000000 := by rw [csP_len]; omega
        have hvl : Hid (RowB w (.slice (some ⟨g, o, none⟩) 8 cap) (T.take 8)) := by
          have := RowC.mid hR.out (a := 0) (k := 8) (by omega) cap
          rwa [Nat.add_zero, List.drop_zero] at this
        have hvb : Hid (∀ b ∈ T.take 8, b < 256) := fun b hb2 => hb.out b (List.mem_of_mem_take hb2)
        have hv8 : (T.take 8).length = 8 := by rw [List.length_take]; omega
        have c80 := hR.out.at' hy
        have c90 := hR.out.at' hx
        have hKc : Hid (∀ V u a b va vb vp L1 L2 LP, Dq w gp V u a b va vb vp L1 L2 LP → V.cell? ⟨g, o + 8, none⟩ = some (.int .u8 (y : Int))) := fun V _ _ _ _ _ _ _ _ _ hV => M.cell_over c80 hV.be
        have hKx : Hid (∀ V u a b va vb vp L1 L2 LP, Dq w gp V u a b va vb vp L1 L2 LP → V.cell? ⟨g, o + 9, none⟩ = some (.int .u8 (x : Int))) := fun V _ _ _ _ _ _ _ _ _ hV => M.cell_over c90 hV.be
        have hSd := hide' (hD.out.over (Below.refl _ wr).drew)
        have KV : Hid (Calls Try.prog 18 #[.slice (some ⟨g, o, none⟩) 8 cap] wr.drew fun e w' => e = .returned (.int .u64 (valB (T.take 8) : Int)) ∧ Hid (Dq w gp w' (u : Int) (.slice oW nW cW) (.slice oF nF cF) (.slice oW nW cW) (.slice oF nF cF) (.slice oP nP cP) (csW c (L.drop 4, false)) (csF c (L.drop 4, false)) (csP c (L.drop 4, false)))) := by
          have h1 : RowB wr.drew (.slice (some ⟨g, o, none⟩) 8 cap) (T.take 8) := by
            obtain ⟨oa, c', e, hc⟩ := hvl.out
            exact ⟨oa, c', e, fun i z hz => by obtain ⟨g', o', e1, e2⟩ := hc i z hz; exact ⟨g', o', e1, M.cell_over e2 hSd.out.be⟩⟩
          exact (valueF _ _ _ h1 hvb.out (by omega)).mono fun e w' ⟨e1, e2⟩ => ⟨e1, by rw [e2]; exact hSd⟩
        have c1d := hSd.out.qb.c1
        have h8c : (8 : Int) ≤ (cap : Int) := by omega
        have h8c' : 8 ≤ cap := by omega
        have h8l : (8 : Int) < (T.length : Int) := by omega
        have h8l' : 8 < T.length := by omega
        have h9l : (9 : Int) < (T.length : Int) := by omega
        have h9l' : 9 < T.length := by omega
        have hwy : IntKind.i64.wrap (y : Int) = (y : Int) := by unfold IntKind.wrap; simp [IntKind.bits, IntKind.signed]; omega
        have hwz : Hid (IntKind.i64.wrap ((y : Int) - 1) = (y : Int) - 1) := by unfold Hid IntKind.wrap; simp [IntKind.bits, IntKind.signed]; omega
        have hRa := hide' (RowC.drop hR.out (k := 10) (by omega))
        have hRe : Hid (cap = 10 → RowC w (.slice (some ⟨g, o, none⟩) 0 0) (T.drop 10)) := fun e => by
          have := RowC.dropE hR.out (k := 10) (by omega) e
          rwa [show T.length - 10 = 0 by omega] at this
        have hb2 : Hid (∀ b ∈ T.drop 10, b < 256) := fun b hh => hb.out b (List.mem_of_mem_drop hh)
        have hl2 : Hid ((T.drop 10).length ≤ 100000) := by show _ ≤ _; rw [List.length_drop]; have := hl.out; omega
        have h10l : (10 : Int) ≤ (T.length : Int) := by omega
        have h10c : (10 : Int) ≤ (cap : Int) := by omega
        have hlc : (T.length : Int) ≤ (cap : Int) := by omega
        clear hS hR hb hl hy hx hvl hvb hv8 hD c80 c90 h10 hSt hH
        generalize hz8 : valB (T.take 8) = z8 at *
        clear hz8
        generalize csW c (L.drop 4, false) = L1 at *
        generalize csF c (L.drop 4, false) = L2 at *
        generalize csP c (L.drop 4, false) = LP at *
        go_upto_region 13 with fail
        go_cut [] from 48 to 55 (fun wx => ∃ o7 n7 c7, Hid (Dq w gp wx (u : Int) (.slice o7 n7 c7) (.slice oF nF cF) (.slice o7 n7 c7) (.slice oF nF cF) (.slice oP nP cP) (L1 ++ [z8]) L2 LP))
        case first =>
          as_aux_lemma =>
          clear hKc hKx hNx hRa hRe hb2 hl2 hwz
          refine wp_region_held_drew (S := (fun _ => True)) (by kernel_rfl) ?_ (fun hHeld => ?_)
          · trivial
          refine wpAnyH_take (i := 0) (oi := { dst := some 48, op := Op.fieldAddr 27 (Operand.tmp 6) 1, type := 0, pos := "ref.go:116", after := #[], guard := none }) (v := ?_) rfl (by kernel_rfl) (by kernel_rfl) (by kernel_rfl) (fun _ _ _ h => h) (Or.inl ⟨by rfl, ?_⟩) (by assumption) ?_
          rotate_left
          · intro w hSw; (try dsimp only at hSw); go_simp <;> with_reducible rfl
          simp only [Act.put, List.setIfInBounds_toArray, List.set_cons_zero, List.set_cons_succ]
          refine wpAnyH_take (i := 2) (oi := { dst := some 50, op := Op.move (Operand.tmp 0), type := 22, pos := "ref.go:116", after := #[], guard := none }) (v := ?_) rfl (by kernel_rfl) (by kernel_rfl) (by kernel_rfl) (fun _ _ _ h => h) (Or.inl ⟨by rfl, ?_⟩) (by assumption) ?_
          rotate_left
          · intro w hSw; (try dsimp only at hSw); go_simp <;> with_reducible rfl
          simp only [Act.put, List.setIfInBounds_toArray, List.set_cons_zero, List.set_cons_succ]
          refine wpAnyH_take (i := 3) (oi := { dst := some 51, op := Op.slice 22 (Operand.tmp 50) none (some (Operand.const (Value.int IntKind.i64 8))) none, type := 22, pos := "ref.go:116", after := #[{ on := 2, ground := Ground.data }], guard := none }) (v := ?_) rfl (by kernel_rfl) (by kernel_rfl) (by kernel_rfl) (fun _ _ _ h => h) (Or.inl ⟨by rfl, ?_⟩) (by assumption) ?_
          rotate_left
          · intro w hSw; (try dsimp only at hSw); go_simp <;> with_reducible rfl
          simp only [Act.put, List.setIfInBounds_toArray, List.set_cons_zero, List.set_cons_succ]
          refine wpAnyH_ready (rs := [1, 4]) (by kernel_rfl) (by simp) ?_
          refine AllReadyH.cons (o := { dst := some 49, op := Op.load 23 (Operand.tmp 48), type := 23, pos := "ref.go:116", after := #[{ on := 0, ground := Ground.data }], guard := none }) rfl (fun K hK => ?_) ?_
          · skip
            go_simp
            refine hK.out _ _ ?_ (fun hHeld => ?_)
            · trivial
            clear hK K
            try simp only [Act.put, List.setIfInBounds_toArray, List.set_cons_zero, List.set_cons_succ]
            refine wpAnyH_ready (rs := [4]) (by kernel_rfl) (by simp) ?_
            refine AllReadyH.cons (o := { dst := some 52, op := Op.call { callee := Callee.value (Operand.func 18), args := #[Operand.tmp 51], argTypes := #[22] }, type := 51, pos := "ref.go:116", after := #[{ on := 3, ground := Ground.data }], guard := none }) rfl (fun K hK => ?_) AllReadyH.nil
            go_simp
            refine KV.out.mono ?_; rintro e w6 ⟨rfl, hS6⟩; have c16 := hS6.out.qb.c1; have c17 := (hS6.out.over ((Below.refl _ w6).alloc (Nat.le_refl _) (.cells #[.int .u64 (z8 : Int)] 51))).qb.c1; (try dsimp only)
            refine hK.out _ _ ?_ (fun hHeld => ?_)
            · trivial
            clear hK K
            try simp only [Act.put, List.setIfInBounds_toArray, List.set_cons_zero, List.set_cons_succ]
            refine wpAnyH_ready (rs := [5]) (by kernel_rfl) (by simp) ?_
            refine AllReadyH.cons (o := { dst := some 53, op := Op.buildSlice 23 1 #[(0, Operand.tmp 52)], type := 23, pos := "ref.go:116", after := #[{ on := 4, ground := Ground.data }], guard := none }) rfl (fun K hK => ?_) AllReadyH.nil
            go_simp
            refine hK.out _ _ ?_ (fun hHeld => ?_)
            · trivial
            clear hK K
            try simp only [Act.put, List.setIfInBounds_toArray, List.set_cons_zero, List.set_cons_succ]
            refine wpAnyH_ready (rs := [6]) (by kernel_rfl) (by simp) ?_
            refine AllReadyH.cons (o := { dst := some 54, op := Op.call { callee := Callee.builtin Builtin.append, args := #[Operand.tmp 49, Operand.tmp 53], argTypes := #[23, 23] }, type := 23, pos := "ref.go:116", after := #[{ on := 1, ground := Ground.data }, { on := 5, ground := Ground.data }, { on := 4, ground := Ground.chain }], guard := none }) rfl (fun K hK => ?_) AllReadyH.nil
            rw [if_pos (by rfl)]
            refine Dq.wapp1 (.tmp 49) (.tmp 53) hS6.out z8 rfl rfl rfl hlW ?_; intro o7 n7 c7 w7 hS7; have f7 := hS7.qb.frz 1; have d7 := hS7.qb.c1; (try dsimp only)
            refine hK.out _ _ ?_ (fun hHeld => ?_)
            · trivial
            clear hK K
            try simp only [Act.put, List.setIfInBounds_toArray, List.set_cons_zero, List.set_cons_succ]
            refine wpAnyH_take (i := 7) (oi := { dst := some 55, op := Op.fieldAddr 27 (Operand.tmp 6) 1, type := 0, pos := "ref.go:116", after := #[{ on := 0, ground := Ground.phase }, { on := 1, ground := Ground.phase }, { on := 2, ground := Ground.phase }, { on := 3, ground := Ground.phase }, { on := 4, ground := Ground.phase }, { on := 5, ground := Ground.phase }, { on := 6, ground := Ground.phase }], guard := none }) (v := ?_) rfl (by kernel_rfl) (by kernel_rfl) (by kernel_rfl) (fun _ _ _ h => h) (Or.inl ⟨by rfl, ?_⟩) (by assumption) ?_
            rotate_left
            · intro w hSw; (try dsimp only at hSw); go_simp <;> with_reducible rfl
            simp only [Act.put, List.setIfInBounds_toArray, List.set_cons_zero, List.set_cons_succ]
            refine wpAnyH_ready (rs := [8]) (by kernel_rfl) (by simp) ?_
            refine AllReadyH.cons (o := { dst := none, op := Op.store 23 (Operand.tmp 55) (Operand.tmp 54), type := 0, pos := "ref.go:116", after := #[{ on := 7, ground := Ground.data }, { on := 6, ground := Ground.data }, { on := 6, ground := Ground.chain }, { on := 0, ground := Ground.phase }, { on := 1, ground := Ground.phase }, { on := 2, ground := Ground.phase }, { on := 3, ground := Ground.phase }, { on := 4, ground := Ground.phase }, { on := 5, ground := Ground.phase }, { on := 6, ground := Ground.phase }], guard := none }) rfl (fun K hK => ?_) AllReadyH.nil
            go_simp
            refine hK.out _ _ ?_ (fun hHeld => ?_)
            · trivial
            clear hK K
            try simp only [Act.put, List.setIfInBounds_toArray, List.set_cons_zero, List.set_cons_succ]
            refine wpAnyH_done (by kernel_rfl) ?_ _
            skip
            have hS8 := hide' (hS7.put (hS7.qb.s1 (.slice o7 n7 c7)))
            go_wp2
            go_meet
            exact ⟨o7, n7, c7, hS8⟩
          refine AllReadyH.cons (o := { dst := some 52, op := Op.call { callee := Callee.value (Operand.func 18), args := #[Operand.tmp 51], argTypes := #[22] }, type := 51, pos := "ref.go:116", after := #[{ on := 3, ground := Ground.data }], guard := none }) rfl (fun K hK => ?_) AllReadyH.nil
          go_simp
          refine KV.out.mono ?_; rintro e w6 ⟨rfl, hS6⟩; have c16 := hS6.out.qb.c1; have c17 := (hS6.out.over ((Below.refl _ w6).alloc (Nat.le_refl _) (.cells #[.int .u64 (z8 : Int)] 51))).qb.c1; (try dsimp only)
          refine hK.out _ _ ?_ (fun hHeld => ?_)
          · trivial
          clear hK K
          try simp only [Act.put, List.setIfInBounds_toArray, List.set_cons_zero, List.set_cons_succ]
          refine wpAnyH_ready (rs := [1, 5]) (by kernel_rfl) (by simp) ?_
          refine AllReadyH.cons (o := { dst := some 49, op := Op.load 23 (Operand.tmp 48), type := 23, pos := "ref.go:116", after := #[{ on := 0, ground := Ground.data }], guard := none }) rfl (fun K hK => ?_) ?_
          · skip
            go_simp
            refine hK.out _ _ ?_ (fun hHeld => ?_)
            · trivial
            clear hK K
            try simp only [Act.put, List.setIfInBounds_toArray, List.set_cons_zero, List.set_cons_succ]
            refine wpAnyH_ready (rs := [5]) (by kernel_rfl) (by simp) ?_
            refine AllReadyH.cons (o := { dst := some 53, op := Op.buildSlice 23 1 #[(0, Operand.tmp 52)], type := 23, pos := "ref.go:116", after := #[{ on := 4, ground := Ground.data }], guard := none }) rfl (fun K hK => ?_) AllReadyH.nil
            go_simp
            refine hK.out _ _ ?_ (fun hHeld => ?_)
            · trivial
            clear hK K
            try simp only [Act.put, List.setIfInBounds_toArray, List.set_cons_zero, List.set_cons_succ]
            refine wpAnyH_ready (rs := [6]) (by kernel_rfl) (by simp) ?_
            refine AllReadyH.cons (o := { dst := some 54, op := Op.call { callee := Callee.builtin Builtin.append, args := #[Operand.tmp 49, Operand.tmp 53], argTypes := #[23, 23] }, type := 23, pos := "ref.go:116", after := #[{ on := 1, ground := Ground.data }, { on := 5, ground := Ground.data }, { on := 4, ground := Ground.chain }], guard := none }) rfl (fun K hK => ?_) AllReadyH.nil
            rw [if_pos (by rfl)]
            refine Dq.wapp1 (.tmp 49) (.tmp 53) hS6.out z8 rfl rfl rfl hlW ?_; intro o7 n7 c7 w7 hS7; have f7 := hS7.qb.frz 1; have d7 := hS7.qb.c1; (try dsimp only)
            refine hK.out _ _ ?_ (fun hHeld => ?_)
            · trivial
            clear hK K
            try simp only [Act.put, List.setIfInBounds_toArray, List.set_cons_zero, List.set_cons_succ]
            refine wpAnyH_take (i := 7) (oi := { dst := some 55, op := Op.fieldAddr 27 (Operand.tmp 6) 1, type := 0, pos := "ref.go:116", after := #[{ on := 0, ground := Ground.phase }, { on := 1, ground := Ground.phase }, { on := 2, ground := Ground.phase }, { on := 3, ground := Ground.phase }, { on := 4, ground := Ground.phase }, { on := 5, ground := Ground.phase }, { on := 6, ground := Ground.phase }], guard := none }) (v := ?_) rfl (by kernel_rfl) (by kernel_rfl) (by kernel_rfl) (fun _ _ _ h => h) (Or.inl ⟨by rfl, ?_⟩) (by assumption) ?_
            rotate_left
            · intro w hSw; (try dsimp only at hSw); go_simp <;> with_reducible rfl
            simp only [Act.put, List.setIfInBounds_toArray, List.set_cons_zero, List.set_cons_succ]
            refine wpAnyH_ready (rs := [8]) (by kernel_rfl) (by simp) ?_
            refine AllReadyH.cons (o := { dst := none, op := Op.store 23 (Operand.tmp 55) (Operand.tmp 54), type := 0, pos := "ref.go:116", after := #[{ on := 7, ground := Ground.data }, { on := 6, ground := Ground.data }, { on := 6, ground := Ground.chain }, { on := 0, ground := Ground.phase }, { on := 1, ground := Ground.phase }, { on := 2, ground := Ground.phase }, { on := 3, ground := Ground.phase }, { on := 4, ground := Ground.phase }, { on := 5, ground := Ground.phase }, { on := 6, ground := Ground.phase }], guard := none }) rfl (fun K hK => ?_) AllReadyH.nil
            go_simp
            refine hK.out _ _ ?_ (fun hHeld => ?_)
            · trivial
            clear hK K
            try simp only [Act.put, List.setIfInBounds_toArray, List.set_cons_zero, List.set_cons_succ]
            refine wpAnyH_done (by kernel_rfl) ?_ _
            skip
            have hS8 := hide' (hS7.put (hS7.qb.s1 (.slice o7 n7 c7)))
            go_wp2
            go_meet
            exact ⟨o7, n7, c7, hS8⟩
          refine AllReadyH.cons (o := { dst := some 53, op := Op.buildSlice 23 1 #[(0, Operand.tmp 52)], type := 23, pos := "ref.go:116", after := #[{ on := 4, ground := Ground.data }], guard := none }) rfl (fun K hK => ?_) AllReadyH.nil
          go_simp
          refine hK.out _ _ ?_ (fun hHeld => ?_)
          · trivial
          clear hK K
          try simp only [Act.put, List.setIfInBounds_toArray, List.set_cons_zero, List.set_cons_succ]
          refine wpAnyH_ready (rs := [1]) (by kernel_rfl) (by simp) ?_
          refine AllReadyH.cons (o := { dst := some 49, op := Op.load 23 (Operand.tmp 48), type := 23, pos := "ref.go:116", after := #[{ on := 0, ground := Ground.data }], guard := none }) rfl (fun K hK => ?_) AllReadyH.nil
          go_simp
          refine hK.out _ _ ?_ (fun hHeld => ?_)
          · trivial
          clear hK K
          try simp only [Act.put, List.setIfInBounds_toArray, List.set_cons_zero, List.set_cons_succ]
          refine wpAnyH_ready (rs := [6]) (by kernel_rfl) (by simp) ?_
          refine AllReadyH.cons (o := { dst := some 54, op := Op.call { callee := Callee.builtin Builtin.append, args := #[Operand.tmp 49, Operand.tmp 53], argTypes := #[23, 23] }, type := 23, pos := "ref.go:116", after := #[{ on := 1, ground := Ground.data }, { on := 5, ground := Ground.data }, { on := 4, ground := Ground.chain }], guard := none }) rfl (fun K hK => ?_) AllReadyH.nil
          rw [if_pos (by rfl)]
          refine Dq.wapp1 (.tmp 49) (.tmp 53) hS6.out z8 rfl rfl rfl hlW ?_; intro o7 n7 c7 w7 hS7; have f7 := hS7.qb.frz 1; have d7 := hS7.qb.c1; (try dsimp only)
          refine hK.out _ _ ?_ (fun hHeld => ?_)
          · trivial
          clear hK K
          try simp only [Act.put, List.setIfInBounds_toArray, List.set_cons_zero, List.set_cons_succ]
          refine wpAnyH_take (i := 7) (oi := { dst := some 55, op := Op.fieldAddr 27 (Operand.tmp 6) 1, type := 0, pos := "ref.go:116", after := #[{ on := 0, ground := Ground.phase }, { on := 1, ground := Ground.phase }, { on := 2, ground := Ground.phase }, { on := 3, ground := Ground.phase }, { on := 4, ground := Ground.phase }, { on := 5, ground := Ground.phase }, { on := 6, ground := Ground.phase }], guard := none }) (v := ?_) rfl (by kernel_rfl) (by kernel_rfl) (by kernel_rfl) (fun _ _ _ h => h) (Or.inl ⟨by rfl, ?_⟩) (by assumption) ?_
          rotate_left
          · intro w hSw; (try dsimp only at hSw); go_simp <;> with_reducible rfl
          simp only [Act.put, List.setIfInBounds_toArray, List.set_cons_zero, List.set_cons_succ]
          refine wpAnyH_ready (rs := [8]) (by kernel_rfl) (by simp) ?_
          refine AllReadyH.cons (o := { dst := none, op := Op.store 23 (Operand.tmp 55) (Operand.tmp 54), type := 0, pos := "ref.go:116", after := #[{ on := 7, ground := Ground.data }, { on := 6, ground := Ground.data }, { on := 6, ground := Ground.chain }, { on := 0, ground := Ground.phase }, { on := 1, ground := Ground.phase }, { on := 2, ground := Ground.phase }, { on := 3, ground := Ground.phase }, { on := 4, ground := Ground.phase }, { on := 5, ground := Ground.phase }, { on := 6, ground := Ground.phase }], guard := none }) rfl (fun K hK => ?_) AllReadyH.nil
          go_simp
          refine hK.out _ _ ?_ (fun hHeld => ?_)
          · trivial
          clear hK K
          try simp only [Act.put, List.setIfInBounds_toArray, List.set_cons_zero, List.set_cons_succ]
          refine wpAnyH_done (by kernel_rfl) ?_ _
          skip
          have hS8 := hide' (hS7.put (hS7.qb.s1 (.slice o7 n7 c7)))
          go_wp2
          go_meet
          exact ⟨o7, n7, c7, hS8⟩
        case rest =>
        clear hSd c1d KV
        obtain ⟨o7, n7, c7, hS8⟩ := hcut
        go_upto_region 14 with fail
        go_cut [] from 56 to 65 (fun wx => ∃ oA nA cA, Hid (Dq w gp wx (u : Int) (.slice o7 n7 c7) (.slice oA nA cA) (.slice o7 n7 c7) (.slice oA nA cA) (.slice oP nP cP) (L1 ++ [z8]) (L2 ++ [IntKind.i64.wrap ((y : Int) - 1)]) LP))
        case first =>
          as_aux_lemma =>
          clear hKx hNx hRa hRe hb2 hl2 hwz
          obtain ⟨W8, rfl⟩ : ∃ W, W = wc := ⟨_, rfl⟩
          have hS8d := hide' (hS8.out.over (Below.refl _ _).drew)
          have c28 := hS8d.out.qb.c2
          have c29 := (hS8d.out.over ((Below.refl _ W8.drew).alloc (Nat.le_refl _) (.cells #[.int .i64 (IntKind.i64.wrap ((y : Int) - 1))] 3))).qb.c2
          have c2a : (W8.alloc (.cells #[.int .i64 (IntKind.i64.wrap ((y : Int) - 1))] 3)).drew.cell? ⟨gp, 2, none⟩ = some (.slice oF nF cF) := c29
          clear hS8
          refine wp_region_held_drew (S := (fun V => V.cell? ⟨g, o + 8, none⟩ = some (.int .u8 (y : Int)))) (by kernel_rfl) ?_ (fun hHeld => ?_)
          · exact hKc.out _ _ _ _ _ _ _ _ _ _ hS8d.out
          refine wpAnyH_take (i := 0) (oi := { dst := some 56, op := Op.fieldAddr 27 (Operand.tmp 6) 2, type := 0, pos := "ref.go:117", after := #[], guard := none }) (v := ?_) rfl (by kernel_rfl) (by kernel_rfl) (by kernel_rfl) (fun _ _ _ h => h) (Or.inl ⟨by rfl, ?_⟩) (by assumption) ?_
          rotate_left
          · intro w hSw; (try dsimp only at hSw); go_simp <;> with_reducible rfl
          simp only [Act.put, List.setIfInBounds_toArray, List.set_cons_zero, List.set_cons_succ]
          refine wpAnyH_take (i := 2) (oi := { dst := some 58, op := Op.move (Operand.tmp 0), type := 22, pos := "ref.go:117", after := #[], guard := none }) (v := ?_) rfl (by kernel_rfl) (by kernel_rfl) (by kernel_rfl) (fun _ _ _ h => h) (Or.inl ⟨by rfl, ?_⟩) (by assumption) ?_
          rotate_left
          · intro w hSw; (try dsimp only at hSw); go_simp <;> with_reducible rfl
          simp only [Act.put, List.setIfInBounds_toArray, List.set_cons_zero, List.set_cons_succ]
          refine wpAnyH_take (i := 3) (oi := { dst := some 59, op := Op.indexAddr 22 (Operand.tmp 58) (Operand.const (Value.int IntKind.i64 8)), type := 0, pos := "ref.go:117", after := #[{ on := 2, ground := Ground.data }], guard := none }) (v := ?_) rfl (by kernel_rfl) (by kernel_rfl) (by kernel_rfl) (fun _ _ _ h => h) (Or.inl ⟨by rfl, ?_⟩) (by assumption) ?_
          rotate_left
          · intro w hSw; (try dsimp only at hSw); go_simp <;> with_reducible rfl
          simp only [Act.put, List.setIfInBounds_toArray, List.set_cons_zero, List.set_cons_succ]
          refine wpAnyH_take (i := 4) (oi := { dst := some 60, op := Op.load 5 (Operand.tmp 59), type := 5, pos := "ref.go:117", after := #[{ on := 3, ground := Ground.data }], guard := none }) (v := ?_) rfl (by kernel_rfl) (by kernel_rfl) (by kernel_rfl) (fun _ _ _ h => h) (Or.inl ⟨by rfl, ?_⟩) (by assumption) ?_
          rotate_left
          · intro w hSw; (try dsimp only at hSw); go_simp <;> with_reducible rfl
          simp only [Act.put, List.setIfInBounds_toArray, List.set_cons_zero, List.set_cons_succ]
          refine wpAnyH_take (i := 5) (oi := { dst := some 61, op := Op.convert 5 3 (Operand.tmp 60), type := 3, pos := "ref.go:117", after := #[{ on := 4, ground := Ground.data }], guard := none }) (v := ?_) rfl (by kernel_rfl) (by kernel_rfl) (by kernel_rfl) (fun _ _ _ h => h) (Or.inl ⟨by rfl, ?_⟩) (by assumption) ?_
          rotate_left
          · intro w hSw; (try dsimp only at hSw); go_simp <;> with_reducible rfl
          simp only [Act.put, List.setIfInBounds_toArray, List.set_cons_zero, List.set_cons_succ]
          refine wpAnyH_take (i := 6) (oi := { dst := some 62, op := Op.binOp BinOp.sub 3 (Operand.tmp 61) (Operand.const (Value.int IntKind.i64 1)) 3, type := 3, pos := "ref.go:117", after := #[{ on := 5, ground := Ground.data }], guard := none }) (v := ?_) rfl (by kernel_rfl) (by kernel_rfl) (by kernel_rfl) (fun _ _ _ h => h) (Or.inl ⟨by rfl, ?_⟩) (by assumption) ?_
          rotate_left
          · intro w hSw; (try dsimp only at hSw); go_simp <;> with_reducible rfl
          simp only [Act.put, List.setIfInBounds_toArray, List.set_cons_zero, List.set_cons_succ]
          refine wpAnyH_ready (rs := [1, 7]) (by kernel_rfl) (by simp) ?_
          refine AllReadyH.cons (o := { dst := some 57, op := Op.load 24 (Operand.tmp 56), type := 24, pos := "ref.go:117", after := #[{ on := 0, ground := Ground.data }], guard := none }) rfl (fun K hK => ?_) ?_
          · skip
            go_simp
            refine hK.out _ _ ?_ (fun hHeld => ?_)
            · first | (exact hKc.out _ _ _ _ _ _ _ _ _ _ hS8d.out) | (exact hKc.out _ _ _ _ _ _ _ _ _ _ (hS8d.out.over ((Below.refl _ W8.drew).alloc (Nat.le_refl _) _))) | (exact hKc.out _ _ _ _ _ _ _ _ _ _ hSA) | (exact hKc.out _ _ _ _ _ _ _ _ _ _ (hSA.put (hSA.qb.s2 (.slice oA nA cA))))
            clear hK K
            try simp only [Act.put, List.setIfInBounds_toArray, List.set_cons_zero, List.set_cons_succ]
            refine wpAnyH_ready (rs := [7]) (by kernel_rfl) (by simp) ?_
            refine AllReadyH.cons (o := { dst := some 63, op := Op.buildSlice 24 1 #[(0, Operand.tmp 62)], type := 24, pos := "ref.go:117", after := #[{ on := 6, ground := Ground.data }], guard := none }) rfl (fun K hK => ?_) AllReadyH.nil
            go_simp
            refine hK.out _ _ ?_ (fun hHeld => ?_)
            · first | (exact hKc.out _ _ _ _ _ _ _ _ _ _ hS8d.out) | (exact hKc.out _ _ _ _ _ _ _ _ _ _ (hS8d.out.over ((Below.refl _ W8.drew).alloc (Nat.le_refl _) _))) | (exact hKc.out _ _ _ _ _ _ _ _ _ _ hSA) | (exact hKc.out _ _ _ _ _ _ _ _ _ _ (hSA.put (hSA.qb.s2 (.slice oA nA cA))))
            clear hK K
            try simp only [Act.put, List.setIfInBounds_toArray, List.set_cons_zero, List.set_cons_succ]
            refine wpAnyH_ready (rs := [8]) (by kernel_rfl) (by simp) ?_
            refine AllReadyH.cons (o := { dst := some 64, op := Op.call { callee := Callee.builtin Builtin.append, args := #[Operand.tmp 57, Operand.tmp 63], argTypes := #[24, 24] }, type := 24, pos := "ref.go:117", after := #[{ on := 1, ground := Ground.data }, { on := 7, ground := Ground.data }], guard := none }) rfl (fun K hK => ?_) AllReadyH.nil
            rw [if_pos (by rfl)]
            refine Dq.wapp2 (.tmp 57) (.tmp 63) hS8d.out (IntKind.i64.wrap ((y : Int) - 1)) rfl rfl rfl hlF ?_; intro oA nA cA wA hSA; have fA := hSA.qb.frz 2; have dA := hSA.qb.c2; (try dsimp only)
            refine hK.out _ _ ?_ (fun hHeld => ?_)
            · first | (exact hKc.out _ _ _ _ _ _ _ _ _ _ hS8d.out) | (exact hKc.out _ _ _ _ _ _ _ _ _ _ (hS8d.out.over ((Below.refl _ W8.drew).alloc (Nat.le_refl _) _))) | (exact hKc.out _ _ _ _ _ _ _ _ _ _ hSA) | (exact hKc.out _ _ _ _ _ _ _ _ _ _ (hSA.put (hSA.qb.s2 (.slice oA nA cA))))
            clear hK K
            try simp only [Act.put, List.setIfInBounds_toArray, List.set_cons_zero, List.set_cons_succ]
            refine wpAnyH_take (i := 9) (oi := { dst := some 65, op := Op.fieldAddr 27 (Operand.tmp 6) 2, type := 0, pos := "ref.go:117", after := #[{ on := 0, ground := Ground.phase }, { on := 1, ground := Ground.phase }, { on := 2, ground := Ground.phase }, { on := 3, ground := Ground.phase }, { on := 4, ground := Ground.phase }, { on := 5, ground := Ground.phase }, { on := 6, ground := Ground.phase }, { on := 7, ground := Ground.phase }, { on := 8, ground := Ground.phase }], guard := none }) (v := ?_) rfl (by kernel_rfl) (by kernel_rfl) (by kernel_rfl) (fun _ _ _ h => h) (Or.inl ⟨by rfl, ?_⟩) (by assumption) ?_
            rotate_left
            · intro w hSw; (try dsimp only at hSw); go_simp <;> with_reducible rfl
            simp only [Act.put, List.setIfInBounds_toArray, List.set_cons_zero, List.set_cons_succ]
            refine wpAnyH_ready (rs := [10]) (by kernel_rfl) (by simp) ?_
            refine AllReadyH.cons (o := { dst := none, op := Op.store 24 (Operand.tmp 65) (Operand.tmp 64), type := 0, pos := "ref.go:117", after := #[{ on := 9, ground := Ground.data }, { on := 8, ground := Ground.data }, { on := 8, ground := Ground.chain }, { on := 0, ground := Ground.phase }, { on := 1, ground := Ground.phase }, { on := 2, ground := Ground.phase }, { on := 3, ground := Ground.phase }, { on := 4, ground := Ground.phase }, { on := 5, ground := Ground.phase }, { on := 6, ground := Ground.phase }, { on := 7, ground := Ground.phase }, { on := 8, ground := Ground.phase }], guard := none }) rfl (fun K hK => ?_) AllReadyH.nil
            go_simp
            refine hK.out _ _ ?_ (fun hHeld => ?_)
            · first | (exact hKc.out _ _ _ _ _ _ _ _ _ _ hS8d.out) | (exact hKc.out _ _ _ _ _ _ _ _ _ _ (hS8d.out.over ((Below.refl _ W8.drew).alloc (Nat.le_refl _) _))) | (exact hKc.out _ _ _ _ _ _ _ _ _ _ hSA) | (exact hKc.out _ _ _ _ _ _ _ _ _ _ (hSA.put (hSA.qb.s2 (.slice oA nA cA))))
            clear hK K
            try simp only [Act.put, List.setIfInBounds_toArray, List.set_cons_zero, List.set_cons_succ]
            refine wpAnyH_done (by kernel_rfl) ?_ _
            skip
            have hSB := hide' (hSA.put (hSA.qb.s2 (.slice oA nA cA)))
            go_wp2
            go_meet
            exact ⟨oA, nA, cA, hSB⟩
          refine AllReadyH.cons (o := { dst := some 63, op := Op.buildSlice 24 1 #[(0, Operand.tmp 62)], type := 24, pos := "ref.go:117", after := #[{ on := 6, ground := Ground.data }], guard := none }) rfl (fun K hK => ?_) AllReadyH.nil
          go_simp
          refine hK.out _ _ ?_ (fun hHeld => ?_)
          · first | (exact hKc.out _ _ _ _ _ _ _ _ _ _ hS8d.out) | (exact hKc.out _ _ _ _ _ _ _ _ _ _ (hS8d.out.over ((Below.refl _ W8.drew).alloc (Nat.le_refl _) _))) | (exact hKc.out _ _ _ _ _ _ _ _ _ _ hSA) | (exact hKc.out _ _ _ _ _ _ _ _ _ _ (hSA.put (hSA.qb.s2 (.slice oA nA cA))))
          clear hK K
          try simp only [Act.put, List.setIfInBounds_toArray, List.set_cons_zero, List.set_cons_succ]
          refine wpAnyH_ready (rs := [1]) (by kernel_rfl) (by simp) ?_
          refine AllReadyH.cons (o := { dst := some 57, op := Op.load 24 (Operand.tmp 56), type := 24, pos := "ref.go:117", after := #[{ on := 0, ground := Ground.data }], guard := none }) rfl (fun K hK => ?_) AllReadyH.nil
          go_simp
          refine hK.out _ _ ?_ (fun hHeld => ?_)
          · first | (exact hKc.out _ _ _ _ _ _ _ _ _ _ hS8d.out) | (exact hKc.out _ _ _ _ _ _ _ _ _ _ (hS8d.out.over ((Below.refl _ W8.drew).alloc (Nat.le_refl _) _))) | (exact hKc.out _ _ _ _ _ _ _ _ _ _ hSA) | (exact hKc.out _ _ _ _ _ _ _ _ _ _ (hSA.put (hSA.qb.s2 (.slice oA nA cA))))
          clear hK K
          try simp only [Act.put, List.setIfInBounds_toArray, List.set_cons_zero, List.set_cons_succ]
          refine wpAnyH_ready (rs := [8]) (by kernel_rfl) (by simp) ?_
          refine AllReadyH.cons (o := { dst := some 64, op := Op.call { callee := Callee.builtin Builtin.append, args := #[Operand.tmp 57, Operand.tmp 63], argTypes := #[24, 24] }, type := 24, pos := "ref.go:117", after := #[{ on := 1, ground := Ground.data }, { on := 7, ground := Ground.data }], guard := none }) rfl (fun K hK => ?_) AllReadyH.nil
          rw [if_pos (by rfl)]
          refine Dq.wapp2 (.tmp 57) (.tmp 63) hS8d.out (IntKind.i64.wrap ((y : Int) - 1)) rfl rfl rfl hlF ?_; intro oA nA cA wA hSA; have fA := hSA.qb.frz 2; have dA := hSA.qb.c2; (try dsimp only)
          refine hK.out _ _ ?_ (fun hHeld => ?_)
          · first | (exact hKc.out _ _ _ _ _ _ _ _ _ _ hS8d.out) | (exact hKc.out _ _ _ _ _ _ _ _ _ _ (hS8d.out.over ((Below.refl _ W8.drew).alloc (Nat.le_refl _) _))) | (exact hKc.out _ _ _ _ _ _ _ _ _ _ hSA) | (exact hKc.out _ _ _ _ _ _ _ _ _ _ (hSA.put (hSA.qb.s2 (.slice oA nA cA))))
          clear hK K
          try simp only [Act.put, List.setIfInBounds_toArray, List.set_cons_zero, List.set_cons_succ]
          refine wpAnyH_take (i := 9) (oi := { dst := some 65, op := Op.fieldAddr 27 (Operand.tmp 6) 2, type := 0, pos := "ref.go:117", after := #[{ on := 0, ground := Ground.phase }, { on := 1, ground := Ground.phase }, { on := 2, ground := Ground.phase }, { on := 3, ground := Ground.phase }, { on := 4, ground := Ground.phase }, { on := 5, ground := Ground.phase }, { on := 6, ground := Ground.phase }, { on := 7, ground := Ground.phase }, { on := 8, ground := Ground.phase }], guard := none }) (v := ?_) rfl (by kernel_rfl) (by kernel_rfl) (by kernel_rfl) (fun _ _ _ h => h) (Or.inl ⟨by rfl, ?_⟩) (by assumption) ?_
          rotate_left
          · intro w hSw; (try dsimp only at hSw); go_simp <;> with_reducible rfl
          simp only [Act.put, List.setIfInBounds_toArray, List.set_cons_zero, List.set_cons_succ]
          refine wpAnyH_ready (rs := [10]) (by kernel_rfl) (by simp) ?_
          refine AllReadyH.cons (o := { dst := none, op := Op.store 24 (Operand.tmp 65) (Operand.tmp 64), type := 0, pos := "ref.go:117", after := #[{ on := 9, ground := Ground.data }, { on := 8, ground := Ground.data }, { on := 8, ground := Ground.chain }, { on := 0, ground := Ground.phase }, { on := 1, ground := Ground.phase }, { on := 2, ground := Ground.phase }, { on := 3, ground := Ground.phase }, { on := 4, ground := Ground.phase }, { on := 5, ground := Ground.phase }, { on := 6, ground := Ground.phase }, { on := 7, ground := Ground.phase }, { on := 8, ground := Ground.phase }], guard := none }) rfl (fun K hK => ?_) AllReadyH.nil
          go_simp
          refine hK.out _ _ ?_ (fun hHeld => ?_)
          · first | (exact hKc.out _ _ _ _ _ _ _ _ _ _ hS8d.out) | (exact hKc.out _ _ _ _ _ _ _ _ _ _ (hS8d.out.over ((Below.refl _ W8.drew).alloc (Nat.le_refl _) _))) | (exact hKc.out _ _ _ _ _ _ _ _ _ _ hSA) | (exact hKc.out _ _ _ _ _ _ _ _ _ _ (hSA.put (hSA.qb.s2 (.slice oA nA cA))))
          clear hK K
          try simp only [Act.put, List.setIfInBounds_toArray, List.set_cons_zero, List.set_cons_succ]
          refine wpAnyH_done (by kernel_rfl) ?_ _
          skip
          have hSB := hide' (hSA.put (hSA.qb.s2 (.slice oA nA cA)))
          go_wp2
          go_meet
          exact ⟨oA, nA, cA, hSB⟩
        case rest =>
        clear hS8
        obtain ⟨oA, nA, cA, hSB⟩ := hcut
        rw [hwz.out] at hSB
        have c9 := hKx.out _ _ _ _ _ _ _ _ _ _ hSB.out
        obtain ⟨e1, e2, e3, e4⟩ := hNx.out
        by_cases hcc : cap = 10
        · have hR2 := hide' (hRe.out hcc)
          subst hcc
          go_wp2_with (at_builtin; refine wpList_plain rfl fun _ hK => Dq.wappP (.tmp 66) (.tmp 71) hSB.out (x : Int) rfl rfl rfl hlP fun oD nD cD wD hSD => hK _ _ ?_; have hSE := hide' hSD; clear hSD)
          exact ⟨⟨c + 1, T.drop 10, _, _, by omega, by go_num, e1, hR2, hb2, hl2, by rw [e2, e3, e4]; exact hSE⟩, by simp [intOf]; omega⟩
        · have hcc1 := eq_false hcc
          go_wp2_with (at_builtin; refine wpList_plain rfl fun _ hK => Dq.wappP (.tmp 66) (.tmp 71) hSB.out (x : Int) rfl rfl rfl hlP fun oD nD cD wD hSD => hK _ _ ?_; have hSE := hide' hSD; clear hSD)
          exact ⟨⟨c + 1, T.drop 10, _, _, by omega, by go_num, e1, hRa, hb2, hl2, by rw [e2, e3, e4]; exact hSE⟩, by simp [intOf]; omega⟩
  case rest =>
  clear hD hR0 hbT hlT c3 h' hl'
  obtain ⟨T, va, vb, hS, hR, hb, hl, hD⟩ := hcut
  have hNH : Hid (rcN (L, false) = n ∧ rcA (L, false) = (L.drop 4, false)) := hH.out.2
  by_cases h1 : T.length < 1
  · as_aux_lemma =>
    have h1' : (T.length : Int) < 1 := by omega
    have hP := RdB.mk (rd_bad (last_no (L := L) (T := T) (by rw [hNH.out.1, hNH.out.2]; exact hS.out) h1) (by decide))
    obtain ⟨oa, cap, rfl, _, _⟩ := hR.out
    have hz := hide' hD.out.dz
    clear hD hR hb hl hS hH h1 hNH
    have f0 := hz.out.z0.frz 0
    have y0 := hz.out.z0.c0
    have f1 := (hz.out.z0.s0 0).frz 1
    have y1 := (hz.out.z0.s0 0).c1
    have f2 := ((hz.out.z0.s0 0).s1 (.slice none 0 0)).frz 2
    have y2 := ((hz.out.z0.s0 0).s1 (.slice none 0 0)).c2
    have f3 := (((hz.out.z0.s0 0).s1 (.slice none 0 0)).s2 (.slice none 0 0)).frz 3
    have y3 := (((hz.out.z0.s0 0).s1 (.slice none 0 0)).s2 (.slice none 0 0)).c3
    have x0 := ((((hz.out.z0.s0 0).s1 (.slice none 0 0)).s2 (.slice none 0 0)).s3 (.slice none 0 0)).c0
    have x1 := ((((hz.out.z0.s0 0).s1 (.slice none 0 0)).s2 (.slice none 0 0)).s3 (.slice none 0 0)).c1
    have x2 := ((((hz.out.z0.s0 0).s1 (.slice none 0 0)).s2 (.slice none 0 0)).s3 (.slice none 0 0)).c2
    have x3 := ((((hz.out.z0.s0 0).s1 (.slice none 0 0)).s2 (.slice none 0 0)).s3 (.slice none 0 0)).c3
    have n0 := hz.out.z1.c0
    have n1 := hz.out.z1.c1
    have n2 := hz.out.z1.c2
    have n3 := hz.out.z1.c3
    have hF := hide' (zero_fin hz.out.be (.int .i64 0) (.slice none 0 0) (.slice none 0 0) (.slice none 0 0))
    clear hz
    go_wp2
    refine bodyPost_ret (v := .tuple #[.agg #[.int .i64 0, .slice none 0 0, .slice none 0 0, .slice none 0 0], .slice none 0 0, .int .i64 3]) (by simp [results, Try.results7, go_sem, x0, x1, x2, x3]) rfl ?_
    unfold ReP
    rw [hP.p.1, hP.p.2.1, hP.p.2.2]
    exact ⟨_, _, _, _, rfl, nil_pv _, hF.out⟩
  have h1' : ¬ (T.length : Int) < 1 := by omega
  obtain ⟨g, o, cap, rfl, hcap⟩ := hR.out.addr (by omega)
  obtain ⟨k, hk⟩ : ∃ z, T[0]? = some z := ⟨_, List.getElem?_eq_getElem (by omega)⟩
  have hkb := hb.out k (List.mem_of_getElem? hk)
  have hLy := hide' (last_yes (L := L) (T := T) (by rw [hNH.out.1, hNH.out.2]; exact hS.out) hk)
  have hQ : Hid (rcP (L, false) = ⟨(u : Int), csW n (L.drop 4, false), csF n (L.drop 4, false), crL k (T.drop 1, false)⟩) := by
    show Pb.mk ((tkN 1 (mkS (L, false)) : Nat) : Int) (csW (rcN (L, false)) (rcA (L, false))) (csF (rcN (L, false)) (rcA (L, false))) (crL (rcK (L, false)) (rcB (L, false))) = _
    rw [hH.out.1, hNH.out.1, hNH.out.2, hLy.out.1, hLy.out.2.1]
  have hM : Hid (rcL (L, false) = csP n (L.drop 4, false)) := by
    show csP (rcN (L, false)) (rcA (L, false)) = _
    rw [hNH.out.1, hNH.out.2]
  have hOk := hide' (rcP_ok (s := (L, false)) hb'.out)
  have hLl := hide' (rcL_len (s := (L, false)) hb'.out)
  have hF_ : Hid (rdF_ L = ruOk k (T.drop 1)) := hLy.out.2.2
  have hk0 : Hid (w.cell? ⟨g, o, none⟩ = some (.int .u8 (k : Int))) := by have := hR.out.at' hk; rwa [Nat.add_zero] at this
  have hbd : Hid (∀ b ∈ T.drop 1, b < 256) := fun b hh => hb.out b (List.mem_of_mem_drop hh)
  have hld : Hid ((T.drop 1).length ≤ 100000) := by show _ ≤ _; rw [List.length_drop]; have := hl.out; omega
  have KR : Hid (∀ V v', Dq w gp V (u : Int) va vb va vb u8 (csW n (L.drop 4, false)) (csF n (L.drop 4, false)) (csP n (L.drop 4, false)) → RowC w v' (T.drop 1) → Calls Try.prog 19 #[v', .int .i64 (k : Int)] V fun e w' => ∃ oa m cap, e = .returned (.tuple #[.slice oa m cap, .bool (rdF_ L)]) ∧ Hid (Dq w gp w' (u : Int) va vb va vb u8 (csW n (L.drop 4, false)) (csF n (L.drop 4, false)) (csP n (L.drop 4, false))) ∧ Hid (rdF_ L = true → ∃ E, E.map Prod.fst = crL k (T.drop 1, false) ∧ TwS (gp + 1) w' (.slice oa m cap) E)) := fun V v' hV hr =>
    (rulesD (T.drop 1) k v' V (hr.below hV.be (Nat.le_refl _)) hbd.out (by omega) hld.out).mono fun e w' ⟨oa, m, cap, e1, e2, e3⟩ => by
      refine ⟨oa, m, cap, by rw [hF_.out]; exact e1, hV.over e3.out, fun q => ?_⟩
      rw [hF_.out] at q
      obtain ⟨E, q1, q2⟩ := e2.out q
      exact ⟨E, q1, own_down q2.row hV.sz, fun p hp => own_down (q2.inner p hp) hV.sz⟩
  have hRa := hide' (RowC.drop hR.out (k := 1) (by omega))
  have hRe : Hid (cap = 1 → RowC w (.slice (some ⟨g, o, none⟩) 0 0) (T.drop 1)) := fun e => by
    have := RowC.dropE hR.out (k := 1) (by omega) e
    rwa [show T.length - 1 = 0 by omega] at this
  have h1l : (1 : Int) ≤ (T.length : Int) := by omega
  have h1c : (1 : Int) ≤ (cap : Int) := by omega
  have hlc : (T.length : Int) ≤ (cap : Int) := by omega
  have hTl : T.length ≤ cap := hcap
  have h0l : (0 : Int) < (T.length : Int) := by omega
  have h0l' : 0 < T.length := by omega
  have hwk : IntKind.i64.wrap (k : Int) = (k : Int) := by unfold IntKind.wrap; simp [IntKind.bits, IntKind.signed]; omega
  obtain ⟨oP, mP, cP, rfl⟩ : ∃ a b c, u8 = .slice a b c := by obtain ⟨a, c, e⟩ := own_shp hD.out.rp; exact ⟨a, _, c, e⟩
  obtain ⟨oF, nF, cF, rfl⟩ : ∃ a b c, vb = .slice a b c := by obtain ⟨a, c, e⟩ := own_shp hD.out.r2; exact ⟨a, _, c, e⟩
  obtain ⟨oW, nW, cW, rfl⟩ : ∃ a b c, va = .slice a b c := by obtain ⟨a, c, e⟩ := own_shp hD.out.r1; exact ⟨a, _, c, e⟩
  clear hS hR hb hl hk hLy hNH hH hF_ hbd hld h1
  generalize T.length = tn at *
  go_upto_region 19 with fail
  go_cut [10, 11] from 79 to 88 (fun lv ok wx => ∃ oL mL cL, lv = .slice oL mL cL ∧ ok = .bool (rdF_ L) ∧ Hid (Dq w gp wx (u : Int) (.slice oW nW cW) (.slice oF nF cF) (.slice oW nW cW) (.slice oF nF cF) (.slice oP mP cP) (csW n (L.drop 4, false)) (csF n (L.drop 4, false)) (csP n (L.drop 4, false))) ∧ Hid (rdF_ L = true → ∃ E, E.map Prod.fst = crL k (T.drop 1, false) ∧ TwS (gp + 1) wx (.slice oL mL cL) E))
  case first =>
    as_aux_lemma =>
    have hDd := hide' (hD.out.over (Below.refl _ _).drew)
    have hkd := hide' (M.cell_over hk0.out hDd.out.be)
    by_cases hcc : cap = 1
    · have hR2 := hide' (hRe.out hcc)
      subst hcc
      obtain rfl : tn = 1 := by omega
      clear hRa hRe hQ hM hOk hLl
      go_region_held3 (fun V => V.cell? ⟨g, o, none⟩ = some (.int .u8 (k : Int))) (first | (exact hkd.out) | (exact M.cell_over hk0.out hD5.out.be)) (first | (go_at_call 19; refine (KR.out _ _ hDd.out hR2.out).mono ?_; rintro e w5 ⟨oL, mL, cL, rfl, hD5, hE5⟩))
      all_goals
        go_wp2
        go_meet
        exact ⟨oL, mL, cL, rfl, rfl, hD5, hE5⟩
    · have hcc1 := eq_false hcc
      clear hRe hQ hM hOk hLl
      go_region_held3 (fun V => V.cell? ⟨g, o, none⟩ = some (.int .u8 (k : Int))) (first | (exact hkd.out) | (exact M.cell_over hk0.out hD5.out.be)) (first | (go_at_call 19; refine (KR.out _ _ hDd.out hRa.out).mono ?_; rintro e w5 ⟨oL, mL, cL, rfl, hD5, hE5⟩))
      all_goals
        go_wp2
        go_meet
        exact ⟨oL, mL, cL, rfl, rfl, hD5, hE5⟩
  case rest =>
  clear hD
  obtain ⟨oL, mL, cL, rfl, rfl, hD, hE⟩ := hcut
  have f3 := hD.out.qb.frz 3
  have q3 := hD.out.qb.c3
  clear KR hRa hRe hk0
  by_cases hok : rdF_ L = true
  case neg =>
    as_aux_lemma =>
    have hok' := not_true hok
    have hP := RdB.mk (rd_bad (L := L) (e := 3) (by unfold rdN; rw [if_neg (fun q => hok q.1)]) (by decide))
    have hz : Hid (Dz w (wc.setCell ⟨gp, 3, none⟩ (.slice oL mL cL))) := by
      have hge := hD.out.ge
      have hb : Below gp wc (wc.setCell ⟨gp, 3, none⟩ (.slice oL mL cL)) := (Below.refl _ wc).setCell (p := ⟨gp, 3, none⟩) (Nat.le_refl _) _
      exact ⟨hD.out.z0.of (hb.block _ (by omega)), hD.out.z1.of (hb.block _ (by omega)), hD.out.be.trans (hb.mono (by omega))⟩
    rw [hok']
    clear hD hE hQ hM hOk hLl hok hok'
    go_upto_region 21 with fail
    generalize wc.setCell ⟨gp, 3, none⟩ (.slice oL mL cL) = W3 at *
    clear f3 q3
    have f0 := hz.out.z0.frz 0
    have y0 := hz.out.z0.c0
    have f1 := (hz.out.z0.s0 0).frz 1
    have y1 := (hz.out.z0.s0 0).c1
    have f2 := ((hz.out.z0.s0 0).s1 (.slice none 0 0)).frz 2
    have y2 := ((hz.out.z0.s0 0).s1 (.slice none 0 0)).c2
    have f3 := (((hz.out.z0.s0 0).s1 (.slice none 0 0)).s2 (.slice none 0 0)).frz 3
    have y3 := (((hz.out.z0.s0 0).s1 (.slice none 0 0)).s2 (.slice none 0 0)).c3
    have x0 := ((((hz.out.z0.s0 0).s1 (.slice none 0 0)).s2 (.slice none 0 0)).s3 (.slice none 0 0)).c0
    have x1 := ((((hz.out.z0.s0 0).s1 (.slice none 0 0)).s2 (.slice none 0 0)).s3 (.slice none 0 0)).c1
    have x2 := ((((hz.out.z0.s0 0).s1 (.slice none 0 0)).s2 (.slice none 0 0)).s3 (.slice none 0 0)).c2
    have x3 := ((((hz.out.z0.s0 0).s1 (.slice none 0 0)).s2 (.slice none 0 0)).s3 (.slice none 0 0)).c3
    have n0 := hz.out.z1.c0
    have n1 := hz.out.z1.c1
    have n2 := hz.out.z1.c2
    have n3 := hz.out.z1.c3
    have hF := hide' (zero_fin hz.out.be (.int .i64 0) (.slice none 0 0) (.slice none 0 0) (.slice none 0 0))
    clear hz
    go_wp2
    refine bodyPost_ret (v := .tuple #[.agg #[.int .i64 0, .slice none 0 0, .slice none 0 0, .slice none 0 0], .slice none 0 0, .int .i64 3]) (by simp [results, Try.results7, go_sem, x0, x1, x2, x3]) rfl ?_
    unfold ReP
    rw [hP.p.1, hP.p.2.1, hP.p.2.2]
    exact ⟨_, _, _, _, rfl, nil_pv _, hF.out⟩
  case pos =>
  rw [hok]
  obtain ⟨E, hE1, hE2⟩ := hE.out hok
  have hRf : Hid (Rf w (rcP (L, false)) gp (.slice oW nW cW) (.slice oF nF cF) (.slice oL mL cL) (.slice oP mP cP) (rcL (L, false)) E (wc.setCell ⟨gp, 3, none⟩ (.slice oL mL cL))) := by
    unfold Hid
    rw [hQ.out, hM.out]
    exact hD.out.rules hE2 hE1
  clear hD hE hE1 hE2 hQ hM
  go_upto_region 21 with fail
  generalize wc.setCell ⟨gp, 3, none⟩ (.slice oL mL cL) = W3 at *
  clear f3 q3
  have KC : Hid (∀ V, Rf w (rcP (L, false)) gp (.slice oW nW cW) (.slice oF nF cF) (.slice oL mL cL) (.slice oP mP cP) (rcL (L, false)) E V → Calls Try.prog 20 #[.agg #[.int .i64 (rcP (L, false)).users, .slice oW nW cW, .slice oF nF cF, .slice oL mL cL]] V fun e w' => e = .returned (.int .i64 (chkN (rcP (L, false)) : Int)) ∧ Below V.heap.size V w') := fun V hV => rCheckF (rcP (L, false)) _ _ _ V hV.pv hOk.out
  have KF : Hid (chkN (rcP (L, false)) = 0 → ∀ V, Rf w (rcP (L, false)) gp (.slice oW nW cW) (.slice oF nF cF) (.slice oL mL cL) (.slice oP mP cP) (rcL (L, false)) E V → Calls Try.prog 21 #[.agg #[.int .i64 (rcP (L, false)).users, .slice oW nW cW, .slice oF nF cF, .slice oL mL cL], .slice oP mP cP] V fun e w' => ∃ v, e = .returned v ∧ Hid (w'.ownsRow V.heap.size 60 3 v (flwL (rcP (L, false)) (rcL (L, false))).length (cellsF (flwL (rcP (L, false)) (rcL (L, false))))) ∧ Hid (Below V.heap.size V w')) := fun hC V hV => rFlawsF (rcP (L, false)) _ _ _ (rcL (L, false)) _ V hV.pv (RowI.of_owns hV.rp) hLl.out hOk.out hC
  have hrd : RdY L (rcP (L, false)) (rcL (L, false)) := ⟨fun hC => flw_hol hC _, rfl, fun q => ⟨by unfold rdP; rw [if_pos q], by unfold rdL; rw [if_pos q]⟩⟩
  clear hOk hLl
  generalize rcP (L, false) = Q at *
  generalize rcL (L, false) = M at *
  have q0 := hRf.out.qb.c0
  have q1 := hRf.out.qb.c1
  have q2 := hRf.out.qb.c2
  have q3 := hRf.out.qb.c3
  by_cases hC : chkN Q = 0
  case neg =>
    as_aux_lemma =>
    have hP := RdB.mk (rd_bad (L := L) (e := 3) (by rw [hrd.rd.1, if_neg (fun q => hC q.2)]) (by decide))
    have hne : (((chkN Q : Nat) : Int) != 0) = true := by rw [bne_iff_ne]; omega
    have hne2 : ¬ ((chkN Q : Nat) : Int) = 0 := by omega
    generalize chkN Q = cc at *
    clear KF hrd
    go_wp2_with fail
    refine (KC.out _ hRf.out).mono ?_
    rintro e W4 ⟨rfl, hb4⟩
    have hz := hide' (hRf.out.over hb4).dz
    clear hRf hb4 KC q0 q1 q2 q3 hC
    have f0 := hz.out.z0.frz 0
    have y0 := hz.out.z0.c0
    have f1 := (hz.out.z0.s0 0).frz 1
    have y1 := (hz.out.z0.s0 0).c1
    have f2 := ((hz.out.z0.s0 0).s1 (.slice none 0 0)).frz 2
    have y2 := ((hz.out.z0.s0 0).s1 (.slice none 0 0)).c2
    have f3 := (((hz.out.z0.s0 0).s1 (.slice none 0 0)).s2 (.slice none 0 0)).frz 3
    have y3 := (((hz.out.z0.s0 0).s1 (.slice none 0 0)).s2 (.slice none 0 0)).c3
    have x0 := ((((hz.out.z0.s0 0).s1 (.slice none 0 0)).s2 (.slice none 0 0)).s3 (.slice none 0 0)).c0
    have x1 := ((((hz.out.z0.s0 0).s1 (.slice none 0 0)).s2 (.slice none 0 0)).s3 (.slice none 0 0)).c1
    have x2 := ((((hz.out.z0.s0 0).s1 (.slice none 0 0)).s2 (.slice none 0 0)).s3 (.slice none 0 0)).c2
    have x3 := ((((hz.out.z0.s0 0).s1 (.slice none 0 0)).s2 (.slice none 0 0)).s3 (.slice none 0 0)).c3
    have n0 := hz.out.z1.c0
    have n1 := hz.out.z1.c1
    have n2 := hz.out.z1.c2
    have n3 := hz.out.z1.c3
    have hF := hide' (zero_fin hz.out.be (.int .i64 0) (.slice none 0 0) (.slice none 0 0) (.slice none 0 0))
    clear hz
    go_wp2
    refine bodyPost_ret (v := .tuple #[.agg #[.int .i64 0, .slice none 0 0, .slice none 0 0, .slice none 0 0], .slice none 0 0, .int .i64 3]) (by simp [results, Try.results7, go_sem, x0, x1, x2, x3]) rfl ?_
    unfold ReP
    rw [hP.p.1, hP.p.2.1, hP.p.2.2]
    exact ⟨_, _, _, _, rfl, nil_pv _, hF.out⟩
  case pos =>
  rw [hC] at KC
  go_wp2_with fail
  refine (KC.out _ hRf.out).mono ?_
  rintro e W4 ⟨rfl, hb4⟩
  have hR4 := hide' (hRf.out.over hb4)
  clear hRf hb4 KC q0 q1 q2 q3
  have q0 := hR4.out.qb.c0
  have q1 := hR4.out.qb.c1
  have q2 := hR4.out.qb.c2
  have q3 := hR4.out.qb.c3
  go_upto_region 23 with fail
  go_wp2_with fail
  refine (KF.out hC _ hR4.out).mono ?_
  rintro e W5 ⟨v5, rfl, hO5, hb5⟩
  obtain ⟨o5, c5, rfl⟩ := own_shp hO5.out
  have hR5 := hide' (hR4.out.over hb5.out)
  clear hR4 hb5 KF q0 q1 q2 q3 hO5
  have hfl2 := hrd.fl hC
  by_cases hH2 : holP Q M = true
  case neg =>
    as_aux_lemma =>
    have hP := RdB.mk (rd_bad (L := L) (e := 52) (by rw [hrd.rd.1, if_pos ⟨hok, hC⟩, if_neg hH2]) (by decide))
    have hn0 : (0 : Int) < ((flwL Q M).length : Int) := by
      rw [not_true hH2, decide_eq_false_iff_not] at hfl2
      omega
    have hn0' : 0 < (flwL Q M).length := by omega
    generalize (flwL Q M).length = nf at *
    have hz := hide' hR5.out.dz
    clear hR5 hfl2 hrd hC hok
    have f0 := hz.out.z0.frz 0
    have y0 := hz.out.z0.c0
    have f1 := (hz.out.z0.s0 0).frz 1
    have y1 := (hz.out.z0.s0 0).c1
    have f2 := ((hz.out.z0.s0 0).s1 (.slice none 0 0)).frz 2
    have y2 := ((hz.out.z0.s0 0).s1 (.slice none 0 0)).c2
    have f3 := (((hz.out.z0.s0 0).s1 (.slice none 0 0)).s2 (.slice none 0 0)).frz 3
    have y3 := (((hz.out.z0.s0 0).s1 (.slice none 0 0)).s2 (.slice none 0 0)).c3
    have x0 := ((((hz.out.z0.s0 0).s1 (.slice none 0 0)).s2 (.slice none 0 0)).s3 (.slice none 0 0)).c0
    have x1 := ((((hz.out.z0.s0 0).s1 (.slice none 0 0)).s2 (.slice none 0 0)).s3 (.slice none 0 0)).c1
    have x2 := ((((hz.out.z0.s0 0).s1 (.slice none 0 0)).s2 (.slice none 0 0)).s3 (.slice none 0 0)).c2
    have x3 := ((((hz.out.z0.s0 0).s1 (.slice none 0 0)).s2 (.slice none 0 0)).s3 (.slice none 0 0)).c3
    have n0 := hz.out.z1.c0
    have n1 := hz.out.z1.c1
    have n2 := hz.out.z1.c2
    have n3 := hz.out.z1.c3
    have hF := hide' (zero_fin hz.out.be (.int .i64 0) (.slice none 0 0) (.slice none 0 0) (.slice none 0 0))
    clear hz
    go_wp2
    refine bodyPost_ret (v := .tuple #[.agg #[.int .i64 0, .slice none 0 0, .slice none 0 0, .slice none 0 0], .slice none 0 0, .int .i64 52]) (by simp [results, Try.results7, go_sem, x0, x1, x2, x3]) rfl ?_
    unfold ReP
    rw [hP.p.1, hP.p.2.1, hP.p.2.2]
    exact ⟨_, _, _, _, rfl, nil_pv _, hF.out⟩
  case pos =>
  as_aux_lemma =>
  have hn0 : (flwL Q M).length = 0 := by
    rw [hH2, decide_eq_true_iff] at hfl2
    exact hfl2
  have q : rdN L = 0 := by rw [hrd.rd.1, if_pos ⟨hok, hC⟩, if_pos hH2]
  have hP : RdG0 L Q M := ⟨⟨q, hrd.rd.2 q⟩⟩
  clear q
  rw [hn0]
  have q0 := hR5.out.qb.c0
  have q1 := hR5.out.qb.c1
  have q2 := hR5.out.qb.c2
  have q3 := hR5.out.qb.c3
  have f0 := hR5.out.z0.frz 0
  have y0 := hR5.out.z0.c0
  have f1 := (hR5.out.z0.s0 Q.users).frz 1
  have y1 := (hR5.out.z0.s0 Q.users).c1
  have f2 := ((hR5.out.z0.s0 Q.users).s1 (.slice oW nW cW)).frz 2
  have y2 := ((hR5.out.z0.s0 Q.users).s1 (.slice oW nW cW)).c2
  have f3 := (((hR5.out.z0.s0 Q.users).s1 (.slice oW nW cW)).s2 (.slice oF nF cF)).frz 3
  have y3 := (((hR5.out.z0.s0 Q.users).s1 (.slice oW nW cW)).s2 (.slice oF nF cF)).c3
  have x0 := ((((hR5.out.z0.s0 Q.users).s1 (.slice oW nW cW)).s2 (.slice oF nF cF)).s3 (.slice oL mL cL)).c0
  have x1 := ((((hR5.out.z0.s0 Q.users).s1 (.slice oW nW cW)).s2 (.slice oF nF cF)).s3 (.slice oL mL cL)).c1
  have x2 := ((((hR5.out.z0.s0 Q.users).s1 (.slice oW nW cW)).s2 (.slice oF nF cF)).s3 (.slice oL mL cL)).c2
  have x3 := ((((hR5.out.z0.s0 Q.users).s1 (.slice oW nW cW)).s2 (.slice oF nF cF)).s3 (.slice oL mL cL)).c3
  have hF := hide' (hR5.out.fin (.int .i64 Q.users) (.slice oW nW cW) (.slice oF nF cF) (.slice oL mL cL))
  clear hR5 hfl2 hrd hC hok hn0 hH2
  go_wp2
  refine bodyPost_ret (v := .tuple #[.agg #[.int .i64 Q.users, .slice oW nW cW, .slice oF nF cF, .slice oL mL cL], .slice oP mP cP, .int .i64 0]) (by simp [results, Try.results7, go_sem, x0, x1, x2, x3]) rfl ?_
  unfold ReP
  rw [hP.p.1, hP.p.2.1, hP.p.2.2]
  exact ⟨_, _, _, _, rfl, ⟨hF.out.1, hF.out.2.1⟩, hF.out.2.2⟩
end Go.Proofs.Ytfajgbdnfphajaa.S

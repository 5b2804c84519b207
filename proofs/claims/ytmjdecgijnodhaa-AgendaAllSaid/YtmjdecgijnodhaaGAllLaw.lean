/- AgendaAll answers true. -/
import Derived.Test.YtmjdecgijnodhaaGAllR
import Derived.Test.YtmjdecgijnodhaaGExLaw
import Derived.Test.YtmjdecgijnodhaaGBridge
import Derived.Test.YtmjdecgijnodhaaGRefAll
import Derived.Deep.CutBlock
import Derived.Deep.CutRange
import Derived.Deep.RegionHeld3
namespace Go.Proofs.Ytmjdecgijnodhaa
open Go.RowKit Go.Maps Go.Shelf
attribute [local go_sem] Oper.semAt_some
theorem eql_fn_g (lb : Array Value) (w : World) : (binOp .eql 34 (.func (.func 21) #[] lb) .nilFunc).run Try.prog w = .ok (.bool false) w := by
  kernel_rfl
set_option maxRecDepth 100000 in
set_option maxHeartbeats 8000000 in
theorem agendaAll_walk (L Lt : List OpA) (v vt : Value) (stop : Int) (w : World) (hr : RowOpA w v L) (ht : RowOpA w vt Lt) :
    CallsIn Fence.wide 9 Try.prog 3 #[v, vt, .int .i64 stop] w fun e w' => e = .returned (.bool true) ∧ Below w.heap.size w w' := by
  have hmx : Try.prog.follows Departure.mixedOrders = true := by kernel_rfl
  have hnil := eql_fn_g
  obtain ⟨oa, cap, rfl, hcap, hrow⟩ := hr
  obtain ⟨ot, capt, rfl, hcapt, hrowt⟩ := ht
  have hrow' := hide' hrow
  have hrowt' := hide' hrowt
  clear hrow hrowt
  refine callsIn_of_wp_marks Try.func3 rfl trivial ?_ rfl
  simp only [Try.ntmps3, List.size_toArray, List.length_cons, List.length_nil, Nat.reduceAdd, Nat.reduceSub, Array.replicate_succ, Array.replicate_zero, List.push_toArray, List.append_toArray, List.nil_append, List.cons_append]
  refine wpIn_wide.2 ?_
  go_wp2_with fail
  refine (twoFn _).mono ?_
  rintro e w2 ⟨p0, r0, p1, r1, Fs, vs, Ms, ss, rfl, hb2, wa, la2, B, hB, hT2, hss⟩
  have hz3 : (((w.alloc (.cells #[.slice ot Lt.length capt] 22)).alloc (.cells #[.int .i64 stop] 3)).alloc (.cells #[.bool false] 4)).heap.size = w.heap.size + 3 := by simp
  have f0 : Bx (((w.alloc (.cells #[.slice ot Lt.length capt] 22)).alloc (.cells #[.int .i64 stop] 3)).alloc (.cells #[.bool false] 4)) w.heap.size 22 (.slice ot Lt.length capt) := (Below.heap_alloc _ _ _ (by simp; omega)).trans ((Below.heap_alloc _ _ _ (by simp)).trans (Bx.new _ _ _))
  have f1 : Bx (((w.alloc (.cells #[.slice ot Lt.length capt] 22)).alloc (.cells #[.int .i64 stop] 3)).alloc (.cells #[.bool false] 4)) (w.heap.size + 1) 3 (.int .i64 stop) := (Below.heap_alloc _ _ _ (by simp)).trans (by have := Bx.new (w.alloc (.cells #[.slice ot Lt.length capt] 22)) 3 (.int .i64 stop); rw [World.size_alloc] at this; exact this)
  have f2 : Bx (((w.alloc (.cells #[.slice ot Lt.length capt] 22)).alloc (.cells #[.int .i64 stop] 3)).alloc (.cells #[.bool false] 4)) (w.heap.size + 1 + 1) 4 (.bool false) := by have := Bx.new ((w.alloc (.cells #[.slice ot Lt.length capt] 22)).alloc (.cells #[.int .i64 stop] 3)) 4 (.bool false); rw [World.size_alloc, World.size_alloc] at this; exact this
  have hB0 : Below w.heap.size w (((w.alloc (.cells #[.slice ot Lt.length capt] 22)).alloc (.cells #[.int .i64 stop] 3)).alloc (.cells #[.bool false] 4)) := (((Below.refl _ w).alloc (Nat.le_refl _) _).alloc (by simp) _).alloc (by simp; omega) _
  have hBw2 : Below w.heap.size w w2 := hB0.trans (hb2.mono hB0.size)
  have g0 : Bx w2 w.heap.size 22 (.slice ot Lt.length capt) := f0.same (hb2.block _ (by rw [hz3]; omega))
  have g1 : Bx w2 (w.heap.size + 1) 3 (.int .i64 stop) := f1.same (hb2.block _ (by rw [hz3]; omega))
  have g2 : Bx w2 (w.heap.size + 1 + 1) 4 (.bool false) := f2.same (hb2.block _ (by rw [hz3]; omega))
  have sd2 : SdA w2 p0 r0 0 (fun g => g < w.heap.size + 3) := by
    obtain ⟨q1, q2, q3⟩ := hT2.far 0 (by omega)
    have hz := hb2.size
    rw [hz3] at hz hB
    refine ⟨Fs 0, vs 0, Ms 0, ss 0, hT2.sa 0 (by omega), by rw [hss 0 (by omega)]; exact Nat.le_refl _, fun g hg => ⟨by omega, fun hF => ?_, fun e => ?_, fun e => ?_⟩⟩
    · have := (q1 g hF).1; omega
    · have q2' : B ≤ r0 := q2.1
      omega
    · have := (q3 g e).1; omega
  clear f0 f1 f2 hB0 hb2 hT2 hss hB hz3
  go_upto_block 0 with fail
  have hBb : Below w2.heap.size w2 ((w2.alloc (.cells #[.pointer (some ⟨p0, 0, none⟩), .pointer (some ⟨r0, 0, none⟩), .pointer (some ⟨p1, 0, none⟩), .pointer (some ⟨r1, 0, none⟩)] 27)).alloc (.cells #[.pointer (some ⟨p0, 0, none⟩), .pointer (some ⟨r0, 0, none⟩)] 26)) := ((Below.refl _ _).alloc (Nat.le_refl _) _).alloc (by simp) _
  have h9 : ((w2.alloc (.cells #[.pointer (some ⟨p0, 0, none⟩), .pointer (some ⟨r0, 0, none⟩), .pointer (some ⟨p1, 0, none⟩), .pointer (some ⟨r1, 0, none⟩)] 27)).alloc (.cells #[.pointer (some ⟨p0, 0, none⟩), .pointer (some ⟨r0, 0, none⟩)] 26)).heap[w2.heap.size + 1]? = some (.cells #[.pointer (some ⟨p0, 0, none⟩), .pointer (some ⟨r0, 0, none⟩)] 26 (0, 0)) := by have := heap_newG (w2.alloc (.cells #[.pointer (some ⟨p0, 0, none⟩), .pointer (some ⟨r0, 0, none⟩), .pointer (some ⟨p1, 0, none⟩), .pointer (some ⟨r1, 0, none⟩)] 27)) (.cells #[.pointer (some ⟨p0, 0, none⟩), .pointer (some ⟨r0, 0, none⟩)] 26); rw [World.size_alloc] at this; exact this
  have hzb : ((w2.alloc (.cells #[.pointer (some ⟨p0, 0, none⟩), .pointer (some ⟨r0, 0, none⟩), .pointer (some ⟨p1, 0, none⟩), .pointer (some ⟨r1, 0, none⟩)] 27)).alloc (.cells #[.pointer (some ⟨p0, 0, none⟩), .pointer (some ⟨r0, 0, none⟩)] 26)).heap.size = w2.heap.size + 2 := by simp
  have hz2 := hBw2.size
  have hl2 := g2.lt
  have sdb := sd2.grow (U' := fun g => g < w.heap.size + 3 ∨ g = w2.heap.size + 1) hBb (fun g hg => hg.elim (fun h => .inl h) (fun h => .inr ⟨by omega, by omega⟩))
  have i0 := g0.same (hBb.block _ (by omega))
  have i1 := g1.same (hBb.block _ (by omega))
  have i2 := g2.same (hBb.block _ hl2)
  have hBwb : Below w.heap.size w _ := hBw2.trans (hBb.mono hBw2.size)
  generalize (w2.alloc (.cells #[.pointer (some ⟨p0, 0, none⟩), .pointer (some ⟨r0, 0, none⟩), .pointer (some ⟨p1, 0, none⟩), .pointer (some ⟨r1, 0, none⟩)] 27)).alloc (.cells #[.pointer (some ⟨p0, 0, none⟩), .pointer (some ⟨r0, 0, none⟩)] 26) = Wb at *
  have hb93 : w.heap.size + 3 ≤ w2.heap.size + 1 := by omega
  generalize w2.heap.size + 1 = b9 at *
  clear hBb hzb g0 g1 g2 sd2 hBw2
  have hrw : Hid (∀ V, Below w.heap.size w V → ∀ (i : Nat) (p : OpA), L[i]? = some p → (∃ g o, oa = some ⟨g, o, none⟩ ∧ g < w.heap.size ∧ V.cell? ⟨g, o + i * 4, none⟩ = some (.int .i64 p.on) ∧ V.cell? ⟨g, o + i * 4 + 1, none⟩ = some (.int .i64 p.op) ∧ V.cell? ⟨g, o + i * 4 + 2, none⟩ = some (.int .i64 p.id) ∧ V.cell? ⟨g, o + i * 4 + 3, none⟩ = some (.int .i64 p.n)) ∧ (Lit.int .i64 p.id).wf = true) := fun V hV i p hp => by
    obtain ⟨⟨g, o, e, c0, c1, c2, c3⟩, hs⟩ := hrow'.out i p hp
    exact ⟨⟨g, o, e, cell_lt c0, cell_over c0 hV, cell_over c1 hV, cell_over c2 hV, cell_over c3 hV⟩, hs⟩
  have hrt : Hid (∀ V, Below w.heap.size w V → ∀ (i : Nat) (p : OpA), Lt[i]? = some p → (∃ g o, ot = some ⟨g, o, none⟩ ∧ g < w.heap.size ∧ V.cell? ⟨g, o + i * 4, none⟩ = some (.int .i64 p.on) ∧ V.cell? ⟨g, o + i * 4 + 1, none⟩ = some (.int .i64 p.op) ∧ V.cell? ⟨g, o + i * 4 + 2, none⟩ = some (.int .i64 p.id) ∧ V.cell? ⟨g, o + i * 4 + 3, none⟩ = some (.int .i64 p.n)) ∧ (Lit.int .i64 p.id).wf = true) := fun V hV i p hp => by
    obtain ⟨⟨g, o, e, c0, c1, c2, c3⟩, hs⟩ := hrowt'.out i p hp
    exact ⟨⟨g, o, e, cell_lt c0, cell_over c0 hV, cell_over c1 hV, cell_over c2 hV, cell_over c3 hV⟩, hs⟩
  clear hrow' hrowt'
  have hsdb := hide' sdb
  clear sdb
  go_cut [10] from 25 to 41 (fun s wx => Hid (SdA wx p0 r0 400 (fun g => g < w.heap.size + 3 ∨ g = b9) ∧ Uk (fun g => g < w.heap.size + 3 ∨ g = b9) Wb wx))
  case first =>
    as_aux_lemma =>
    go_wp2_with fail
    go_loopw [10] (fun k wr => ∃ c : Nat, k = .int .i64 c ∧ c ≤ L.length ∧ c ≤ 400 ∧ Hid (SdA wr p0 r0 c (fun g => g < w.heap.size + 3 ∨ g = b9) ∧ Uk (fun g => g < w.heap.size + 3 ∨ g = b9) Wb wr)) (fun k _ => ((L.length : Int) - intOf k).toNat)
    case atStart => exact ⟨0, rfl, Nat.zero_le _, by omega, hsdb.out, Uk.refl _ _⟩
    case round =>
      clear hsdb
      obtain ⟨c, rfl, hc, hc4, hT⟩ := hrel
      by_cases h1 : c < L.length
      · by_cases h2 : c < 400
        · obtain ⟨p, hp⟩ : ∃ p, L[c]? = some p := ⟨_, List.getElem?_eq_getElem h1⟩
          have hBw : Below w.heap.size w wr := hBwb.trans (hT.out.2.toBelow (fun g hg => .inl (by omega)))
          obtain ⟨⟨g, o, rfl, hgb, c0, c1, c2, c3⟩, hid⟩ := hrw.out wr hBw c p hp
          have x9 := (hT.out.2.block b9 (.inr rfl)).trans h9
          have a0 : wr.cell? ⟨b9, 0, none⟩ = some (.pointer (some ⟨p0, 0, none⟩)) := by simp [World.cell?, x9]
          have a1 : wr.cell? ⟨b9, 1, none⟩ = some (.pointer (some ⟨r0, 0, none⟩)) := by simp [World.cell?, x9]
          have KP := hide' ((hT.out.1.over ((Below.refl _ wr).drew)).plays (by omega) p.on p.op p.id p.n hid)
          have hgU : g < w.heap.size + 3 := by omega
          have hT' := hT
          clear hp hcap hrw hrt hBw hid x9 hT i0 i1 i2 h9 hBwb hnil hcapt
          generalize p.on = on at *
          generalize p.op = d at *
          generalize p.id = pid at *
          generalize p.n = pn at *
          have hi0 : Hid (wr.drew.cell? ⟨g, o + c * 4, none⟩ = some (.int .i64 on) ∧ wr.drew.cell? ⟨g, o + c * 4 + 1, none⟩ = some (.int .i64 d) ∧ wr.drew.cell? ⟨g, o + c * 4 + 2, none⟩ = some (.int .i64 pid) ∧ wr.drew.cell? ⟨g, o + c * 4 + 3, none⟩ = some (.int .i64 pn) ∧ wr.drew.cell? ⟨b9, 0, none⟩ = some (.pointer (some ⟨p0, 0, none⟩)) ∧ wr.drew.cell? ⟨b9, 1, none⟩ = some (.pointer (some ⟨r0, 0, none⟩))) := ⟨c0, c1, c2, c3, a0, a1⟩
          have hkp : Hid (∀ V, Uk (fun g => g < w.heap.size + 3 ∨ g = b9) wr.drew V → V.cell? ⟨g, o + c * 4, none⟩ = some (.int .i64 on) ∧ V.cell? ⟨g, o + c * 4 + 1, none⟩ = some (.int .i64 d) ∧ V.cell? ⟨g, o + c * 4 + 2, none⟩ = some (.int .i64 pid) ∧ V.cell? ⟨g, o + c * 4 + 3, none⟩ = some (.int .i64 pn) ∧ V.cell? ⟨b9, 0, none⟩ = some (.pointer (some ⟨p0, 0, none⟩)) ∧ V.cell? ⟨b9, 1, none⟩ = some (.pointer (some ⟨r0, 0, none⟩))) := fun V hN => ⟨hN.cell c0 (.inl hgU), hN.cell c1 (.inl hgU), hN.cell c2 (.inl hgU), hN.cell c3 (.inl hgU), hN.cell a0 (.inr rfl), hN.cell a1 (.inr rfl)⟩
          go_wp2
          go_region_held3 (fun V => V.cell? ⟨g, o + c * 4, none⟩ = some (.int .i64 on) ∧ V.cell? ⟨g, o + c * 4 + 1, none⟩ = some (.int .i64 d) ∧ V.cell? ⟨g, o + c * 4 + 2, none⟩ = some (.int .i64 pid) ∧ V.cell? ⟨g, o + c * 4 + 3, none⟩ = some (.int .i64 pn) ∧ V.cell? ⟨b9, 0, none⟩ = some (.pointer (some ⟨p0, 0, none⟩)) ∧ V.cell? ⟨b9, 1, none⟩ = some (.pointer (some ⟨r0, 0, none⟩))) (first | assumption | (exact hi0.out) | (exact hkp.out _ hN3'.out)) (first | (go_at_call 5; refine KP.out.mono ?_; rintro e w3 ⟨rfl, hT3, hN3⟩; have hN3' := hide' hN3; have hT3' := hide' hT3; clear hT3 hN3))
          go_wp2
          exact ⟨⟨c + 1, by go_num, by omega, by omega, hT3'.out, hT'.out.2.trans ((Uk.below ((Below.refl _ wr).drew) (fun g hg => (hT'.out.1.ltU hg))).trans hN3'.out)⟩, by simp [intOf]; omega⟩
        · go_wp2
          go_meet
          exact ⟨hT.out.1.more hc4, hT.out.2⟩
      · go_wp2
        go_meet
        exact ⟨hT.out.1.more hc4, hT.out.2⟩
  case rest =>
  as_aux_lemma =>
  clear hsdb hrw hcap
  have hS1 := hcut
  clear hcut
  have x9 := (hS1.out.2.block b9 (.inr rfl)).trans h9
  have a0 : wc.cell? ⟨b9, 0, none⟩ = some (.pointer (some ⟨p0, 0, none⟩)) := by simp [World.cell?, x9]
  have a1 : wc.cell? ⟨b9, 1, none⟩ = some (.pointer (some ⟨r0, 0, none⟩)) := by simp [World.cell?, x9]
  have j0 := i0.same (hS1.out.2.block _ (.inl (by omega)))
  have j1 := i1.same (hS1.out.2.block _ (.inl (by omega)))
  have j2 := i2.same (hS1.out.2.block _ (.inl (by omega)))
  have hBwc := hBwb.trans (hS1.out.2.toBelow (fun g hg => .inl (by omega)))
  have hz9 := hS1.out.1.ltU (g := b9) (.inr rfl)
  go_upto_block 2 with (first | (go_at_call 6; refine (allF _ _).mono ?_; rintro e w3 ⟨rfl, rfl⟩))
  have hKI0 : Hid (KI w p0 r0 b9 wc.heap.size (wc.heap.size + 1) (fun _ => False) (.slice ot Lt.length capt) stop 0 400 ((wc.alloc (.cells #[.pointer (some ⟨p0, 0, none⟩)] 23)).alloc (.cells #[.int .i64 0] 3))) := by
    have hB : Below wc.heap.size wc ((wc.alloc (.cells #[.pointer (some ⟨p0, 0, none⟩)] 23)).alloc (.cells #[.int .i64 0] 3)) := ((Below.refl _ _).alloc (Nat.le_refl _) _).alloc (by simp) _
    have hz : ((wc.alloc (.cells #[.pointer (some ⟨p0, 0, none⟩)] 23)).alloc (.cells #[.int .i64 0] 3)).heap.size = wc.heap.size + 2 := by simp
    have l0 := j0.lt
    have l1 := j1.lt
    have l2 := j2.lt
    refine ⟨hS1.out.1.grow hB (fun g hg => ?_), j0.same (hB.block _ l0), j1.same (hB.block _ l1), j2.same (hB.block _ l2), (hB.block _ hz9).trans x9, (Below.heap_alloc _ _ _ (by simp)).trans (Bx.new _ _ _), ?_, hBwc.trans (hB.mono hBwc.size), hb93⟩
    · rcases hg with h | h | h | h | h
      · exact .inl (.inl h)
      · exact .inl (.inr h)
      · exact .inr ⟨by omega, by omega⟩
      · exact .inr ⟨by omega, by omega⟩
      · exact h.elim
    · have := Bx.new (wc.alloc (.cells #[.pointer (some ⟨p0, 0, none⟩)] 23)) 3 (.int .i64 0)
      rw [World.size_alloc] at this
      exact this
  have hab : b9 < wc.heap.size := hz9
  generalize (wc.alloc (.cells #[.pointer (some ⟨p0, 0, none⟩)] 23)).alloc (.cells #[.int .i64 0] 3) = W0 at *
  generalize hkb0 : wc.heap.size + 1 = kb0 at *
  generalize wc.heap.size = ab at *
  clear hS1 x9 a0 a1 j0 j1 j2 hBwc i0 i1 i2 h9 hBwb hz9 hnil
  go_wp2
  refine wp_loop_rounds 3 ?_
  rw [rounds_succ]
  obtain ⟨F, rv, M, sets, hSa, hsets, hUs⟩ := hKI0.out.sd
  have KA := hide' (allR r0 _ rv W0 hSa.rf)
  have ck : W0.cell? ⟨kb0, 0, none⟩ = some (.int .i64 0) := hKI0.out.bk.cell
  obtain ⟨a0, a1⟩ := hKI0.out.c9
  have hag := hide' hSa.ag
  have hti := hide' hSa.ti
  have hml : M.length ≤ 400 := by have := hSa.ag.ltF.2; omega
  have hLE : Hid (allP (M.map prE) = (allE M).map prE) := (allP_map M).symm
  have hlenE : Hid ((allE M).length = M.length) := allE_len M
  clear hSa hUs
  generalize allP (M.map prE) = LW at *
  go_wp2_with (first | (go_at_call 7; refine KA.out.mono ?_; rintro e w4 ⟨v4, rfl, hrow4, hb4⟩; obtain ⟨ow, capw, rfl⟩ := own_shapeG hrow4))
  have zW := hKI0.out.fr.size
  have zk := hKI0.out.bk.lt
  have z4 := hb4.size
  have hBr : Below w4.heap.size w4 ((w4.alloc (.cells #[.slice ow LW.length capw] 36)).alloc (.cells #[.int .i64 0] 3)) := ((Below.refl _ _).alloc (Nat.le_refl _) _).alloc (by simp) _
  have bw : Bx ((w4.alloc (.cells #[.slice ow LW.length capw] 36)).alloc (.cells #[.int .i64 0] 3)) w4.heap.size 36 (.slice ow LW.length capw) := (Below.heap_alloc _ _ _ (by simp)).trans (Bx.new _ _ _)
  have bn : Bx ((w4.alloc (.cells #[.slice ow LW.length capw] 36)).alloc (.cells #[.int .i64 0] 3)) (w4.heap.size + 1) 3 (.int .i64 0) := by
    have := Bx.new (w4.alloc (.cells #[.slice ow LW.length capw] 36)) 3 (.int .i64 0)
    rw [World.size_alloc] at this
    exact this
  have zr : ((w4.alloc (.cells #[.slice ow LW.length capw] 36)).alloc (.cells #[.int .i64 0] 3)).heap.size = w4.heap.size + 2 := by simp
  have hBWr : Below W0.heap.size W0 ((w4.alloc (.cells #[.slice ow LW.length capw] 36)).alloc (.cells #[.int .i64 0] 3)) := hb4.trans (hBr.mono hb4.size)
  have hrowW : Hid (∀ k x, LW[k]? = some x → ∃ g, ow = some ⟨g, 0, none⟩ ∧ W0.heap.size ≤ g ∧ g < w4.heap.size ∧ ((w4.alloc (.cells #[.slice ow LW.length capw] 36)).alloc (.cells #[.int .i64 0] 3)).cell? ⟨g, k * 2, none⟩ = some (.int .i64 x.1) ∧ ((w4.alloc (.cells #[.slice ow LW.length capw] 36)).alloc (.cells #[.int .i64 0] 3)).cell? ⟨g, k * 2 + 1, none⟩ = some (.int .i64 x.2)) := fun k x hx => by
    obtain ⟨g, e, h1, h2⟩ := rowP hrow4 hx
    subst e
    have hl := hrow4.lt g rfl
    exact ⟨g, rfl, hl.1, hl.2, cell_over h1 hBr, cell_over h2 hBr⟩
  generalize (w4.alloc (.cells #[.slice ow LW.length capw] 36)).alloc (.cells #[.int .i64 0] 3) = Wr at *
  have hwb : W0.heap.size ≤ w4.heap.size := z4
  generalize w4.heap.size = wb at *
  clear hBr hrow4 hb4 KA
  have hfr := hKI0.out.fr.trans (hBWr.mono zW)
  have hUlt : ∀ g, UK w.heap.size b9 ab kb0 (fun _ => False) g → g < W0.heap.size := fun g hg => hKI0.out.sd.ltU hg
  refine (wpIn_wide (n := 9)).1 ?_
  refine rangeG4 (gf := 21) (lb := #[.pointer (some ⟨ab, 0, none⟩)]) rfl (enters_of Try.func21 (by kernel_rfl) rfl)
    (allSeq 8 (hag.out.below hBWr) hti.out (hKI0.out.ba.same (hBWr.block _ hKI0.out.ba.lt)).cell) (fun _ => rfl) Ek.trans Ek.put
    (fun T pre V => RI w W0 Wr (UK w.heap.size b9 ab kb0 (fun _ => False)) p0 r0 400 (wb + 1) T pre.length V)
    (fun cd pre V => IxA w W0 Wr (UK w.heap.size b9 ab kb0 (fun _ => False)) p0 r0 400 (wb + 1) 0 stop cd pre.length V)
    (fun T pre X l o h1 h2 hX => hX.put l o h1 h2 hBWr.size hUlt (by omega) zW) (fun T pre X hX => hX.drew)
    (fun cd pre X l o hl hX => ⟨hX.1, hX.2.1, hX.2.2.1, hX.2.2.2.elim fun T hT => ⟨T, hT.1, hT.2.put l o (by omega) (by omega) hBWr.size hUlt (by omega) zW⟩⟩)
    (fun cd pre X hX => hX.1)
    (fun V1 hV1 _ => RI.start hKI0.out.sd hBWr hUlt bn hfr hV1) ?_ ?_ ?_ ?_
  rotate_left 1
  ·
    intro l x X K hK
    have e1 : encE x = #[.int .i64 x.id, .int .i64 x.tm] := rfl
    rw [e1]
    gi_wp2
    exact hK
  ·
    rintro l T pre x V hT hTV hRI hpre
    have hk : (allE M)[pre.length]? = some x := by
      obtain ⟨r, h⟩ := hpre
      rw [← h]; simp
    have hlE := hlenE.out
    have hkl : pre.length < M.length := by have := (List.getElem?_eq_some_iff.1 hk).1; omega
    have hWk : LW[pre.length]? = some (prE x) := by rw [hLE.out, List.getElem?_map, hk]; rfl
    have hLl : LW.length = M.length := by rw [hLE.out, List.length_map, hlE]
    obtain ⟨gw, hgw, hg1, hg2, cw0, cw1⟩ := hrowW.out _ _ hWk
    subst hgw
    have hTr := hRI.hT
    have hpl : Hid ((pre ++ [x]).length = pre.length + 1) := by show _ = _; simp
    have hin : ∀ g, W0.heap.size ≤ g → g < wb + 2 → g ≠ wb + 1 → V.heap[g]? = Wr.heap[g]? := fun g h1 h2 h3 => hRI.eq g (.inr ⟨h1, by omega⟩) h3
    have hold : ∀ g, UK w.heap.size b9 ab kb0 (fun _ => False) g → V.heap[g]? = W0.heap[g]? := fun g hg => (hRI.eq g (.inl hg) (by have := hUlt g hg; omega)).trans (hBWr.block g (hUlt g hg))
    have dw : V.cell? ⟨wb, 0, none⟩ = some (.slice (some ⟨gw, 0, none⟩) LW.length capw) := (World.cell?_of_block (hin wb hwb (by omega) (by omega))).trans bw.cell
    have d0 : V.cell? ⟨gw, pre.length * 2, none⟩ = some (.int .i64 x.id) := (World.cell?_of_block (hin gw hg1 (by omega) (by omega))).trans cw0
    have d1 : V.cell? ⟨gw, pre.length * 2 + 1, none⟩ = some (.int .i64 x.tm) := (World.cell?_of_block (hin gw hg1 (by omega) (by omega))).trans cw1
    have dn := hRI.bn.cell
    have dk := (World.cell?_of_block (hold kb0 (.inr (.inr (.inr (.inl rfl)))))).trans ck
    have ds := (World.cell?_of_block (hold (w.heap.size + 1) (.inl (by omega)))).trans hKI0.out.bs.cell
    have d4 := (World.cell?_of_block (hold w.heap.size (.inl (by omega)))).trans hKI0.out.bt.cell
    have d9 := (World.cell?_of_block (hold b9 (.inr (.inl rfl)))).trans a0
    have d8 := (World.cell?_of_block (hold b9 (.inr (.inl rfl)))).trans a1
    have hklt : (pre.length : Int) < (LW.length : Int) := by omega
    have FIN : Hid (∀ Y, SdA Y p0 r0 (400 + pre.length + 1) (fun g => UK w.heap.size b9 ab kb0 (fun _ => False) g ∨ (W0.heap.size ≤ g ∧ g < T)) → Uk (fun g => UK w.heap.size b9 ab kb0 (fun _ => False) g ∨ (W0.heap.size ≤ g ∧ g < T)) V.drew Y →
        Y.cell? ⟨wb + 1, 0, none⟩ = some (.int .i64 (pre.length : Int)) ∧ Y.frozen? ⟨wb + 1, 0, none⟩ = false ∧ (∀ v, (Y.setCell ⟨wb + 1, 0, none⟩ v).cell? ⟨kb0, 0, none⟩ = some (.int .i64 0) ∧ (Y.setCell ⟨wb + 1, 0, none⟩ v).cell? ⟨w.heap.size + 1, 0, none⟩ = some (.int .i64 stop)) ∧
        (∀ i, Wr.heap.size ≤ i → i < T → (Y.setCell ⟨wb + 1, 0, none⟩ (.int .i64 ((pre.length : Int) + 1))).heap[i]? = V.heap[i]?) ∧ T ≤ (Y.setCell ⟨wb + 1, 0, none⟩ (.int .i64 ((pre.length : Int) + 1))).heap.size ∧ Ek V (Y.setCell ⟨wb + 1, 0, none⟩ (.int .i64 ((pre.length : Int) + 1))) ∧ RI w W0 Wr (UK w.heap.size b9 ab kb0 (fun _ => False)) p0 r0 400 (wb + 1) T (pre.length + 1) (Y.setCell ⟨wb + 1, 0, none⟩ (.int .i64 ((pre.length : Int) + 1)))) := fun Y hs hu => by
      have bY : Bx Y (wb + 1) 3 (.int .i64 (pre.length : Int)) := hRI.bn.same (hu.block _ (.inr ⟨by omega, by omega⟩))
      have hset := Uk.set (U := fun _ => False) Y (wb + 1) 0 (.int .i64 ((pre.length : Int) + 1)) (fun h => h) (bY.ne (by decide))
      have zY := hu.size
      have hE1 : ((pre.length + 1 : Nat) : Int) = (pre.length : Int) + 1 := by omega
      refine ⟨bY.cell, bY.fz, fun v => ⟨?_, ?_⟩, fun i h1 h2 => (Below.heap_setCell _ _ _ _ (by show i ≠ wb + 1; omega)).trans (hu.block i (.inr ⟨by omega, h2⟩)), Nat.le_trans hTV (Nat.le_trans zY (by simp [World.setCell])), Ek.trans _ _ _ hu.ek hset.ek, hE1 ▸ hRI.drew.uk hs hu ⟨by omega, by omega⟩ (fun g hg => .inl (by omega)) zW⟩
      · refine (World.cell?_of_block (Below.heap_setCell _ _ _ _ ?_)).trans (hu.cell dk (.inl (.inr (.inr (.inr (.inl rfl))))))
        show kb0 ≠ wb + 1
        omega
      · refine (World.cell?_of_block (Below.heap_setCell _ _ _ _ ?_)).trans (hu.cell ds (.inl (.inl (by omega))))
        show w.heap.size + 1 ≠ wb + 1
        omega
    have hrt' := hrt.out V hRI.fr
    have hsd := hide' (hRI.sd.over ((Below.refl _ V).drew))
    have hwk : IntKind.i64.wrap ((pre.length : Int) + 1) = (pre.length : Int) + 1 := by rw [IntKind.wrap_i64]; omega
    have hkb : pre.length ≤ 400 := by omega
    clear hRI hpre hk hWk hold hin cw0 cw1 hrowW hLE hlenE hlE bw bn hag hti hg1 hg2 hUlt hBWr ck a0 a1
    generalize pre.length = k at *
    by_cases hth : k < Lt.length
    · obtain ⟨p, hp⟩ : ∃ p, Lt[k]? = some p := ⟨_, List.getElem?_eq_getElem hth⟩
      obtain ⟨⟨gt, o, hot, hgb, c0, c1, c2, c3⟩, hid⟩ := hrt' k p hp
      subst hot
      have KP := hide' (hsd.out.plays (by omega) p.on p.op p.id p.n hid)
      have hthi : (k : Int) < (Lt.length : Int) := by omega
      have hgU : gt < w.heap.size + 3 := by omega
      clear hp hid hrt' hsd
      generalize p.on = on at *
      generalize p.op = d at *
      generalize p.id = pid at *
      generalize p.n = pn at *
      have hS0 : Hid (V.drew.cell? ⟨wb + 1, 0, none⟩ = some (.int .i64 (k : Int)) ∧ V.drew.cell? ⟨w.heap.size, 0, none⟩ = some (.slice (some ⟨gt, o, none⟩) Lt.length capt) ∧ V.drew.cell? ⟨b9, 0, none⟩ = some (.pointer (some ⟨p0, 0, none⟩)) ∧ V.drew.cell? ⟨b9, 1, none⟩ = some (.pointer (some ⟨r0, 0, none⟩)) ∧ V.drew.cell? ⟨gt, o + k * 4, none⟩ = some (.int .i64 on) ∧ V.drew.cell? ⟨gt, o + k * 4 + 1, none⟩ = some (.int .i64 d) ∧ V.drew.cell? ⟨gt, o + k * 4 + 2, none⟩ = some (.int .i64 pid) ∧ V.drew.cell? ⟨gt, o + k * 4 + 3, none⟩ = some (.int .i64 pn)) := ⟨dn, d4, d9, d8, c0, c1, c2, c3⟩
      have hkp : Hid (∀ Y, Uk (fun g => UK w.heap.size b9 ab kb0 (fun _ => False) g ∨ (W0.heap.size ≤ g ∧ g < T)) V.drew Y → Y.cell? ⟨wb + 1, 0, none⟩ = some (.int .i64 (k : Int)) ∧ Y.cell? ⟨w.heap.size, 0, none⟩ = some (.slice (some ⟨gt, o, none⟩) Lt.length capt) ∧ Y.cell? ⟨b9, 0, none⟩ = some (.pointer (some ⟨p0, 0, none⟩)) ∧ Y.cell? ⟨b9, 1, none⟩ = some (.pointer (some ⟨r0, 0, none⟩)) ∧ Y.cell? ⟨gt, o + k * 4, none⟩ = some (.int .i64 on) ∧ Y.cell? ⟨gt, o + k * 4 + 1, none⟩ = some (.int .i64 d) ∧ Y.cell? ⟨gt, o + k * 4 + 2, none⟩ = some (.int .i64 pid) ∧ Y.cell? ⟨gt, o + k * 4 + 3, none⟩ = some (.int .i64 pn)) := fun Y hN => ⟨hN.cell dn (.inr ⟨by omega, by omega⟩), hN.cell d4 (.inl (.inl (by omega))), hN.cell d9 (.inl (.inr (.inl rfl))), hN.cell d8 (.inl (.inr (.inl rfl))), hN.cell c0 (.inl (.inl hgU)), hN.cell c1 (.inl (.inl hgU)), hN.cell c2 (.inl (.inl hgU)), hN.cell c3 (.inl (.inl hgU))⟩
      gi_wp2
      refine region_round (fun Y => Y.cell? ⟨wb + 1, 0, none⟩ = some (.int .i64 (k : Int)) ∧ Y.cell? ⟨w.heap.size, 0, none⟩ = some (.slice (some ⟨gt, o, none⟩) Lt.length capt) ∧ Y.cell? ⟨b9, 0, none⟩ = some (.pointer (some ⟨p0, 0, none⟩)) ∧ Y.cell? ⟨b9, 1, none⟩ = some (.pointer (some ⟨r0, 0, none⟩)) ∧ Y.cell? ⟨gt, o + k * 4, none⟩ = some (.int .i64 on) ∧ Y.cell? ⟨gt, o + k * 4 + 1, none⟩ = some (.int .i64 d) ∧ Y.cell? ⟨gt, o + k * 4 + 2, none⟩ = some (.int .i64 pid) ∧ Y.cell? ⟨gt, o + k * 4 + 3, none⟩ = some (.int .i64 pn)) hmx (noDefer_of (by kernel_rfl)) ?_ (fun hHeld => ?_)
      · exact hS0.out
      refine wpAnyH_take (i := 0) (oi := { dst := some 79, op := Op.load 3 (Operand.tmp 14), type := 3, pos := "law.go:135", after := #[], guard := none }) (v := ?_) rfl (by kernel_rfl) (by kernel_rfl) (by kernel_rfl) (fun _ _ _ h => h) (Or.inl ⟨by rfl, ?_⟩) (by assumption) ?_
      rotate_left
      · intro w hSw; (try dsimp only at hSw); go_simp <;> with_reducible rfl
      simp only [Act.put, List.setIfInBounds_toArray, List.set_cons_zero, List.set_cons_succ]
      refine wpAnyH_take (i := 1) (oi := { dst := some 80, op := Op.load 22 (Operand.tmp 4), type := 22, pos := "law.go:135", after := #[], guard := none }) (v := ?_) rfl (by kernel_rfl) (by kernel_rfl) (by kernel_rfl) (fun _ _ _ h => h) (Or.inl ⟨by rfl, ?_⟩) (by assumption) ?_
      rotate_left
      · intro w hSw; (try dsimp only at hSw); go_simp <;> with_reducible rfl
      simp only [Act.put, List.setIfInBounds_toArray, List.set_cons_zero, List.set_cons_succ]
      refine wpAnyH_ready (rs := [2]) (by kernel_rfl) (by simp) ?_
      refine AllReadyH.cons (o := { dst := some 81, op := Op.call { callee := Callee.builtin Builtin.len, args := #[Operand.tmp 80], argTypes := #[22] }, type := 3, pos := "law.go:135", after := #[{ on := 1, ground := Ground.data }], guard := none }) rfl (fun K hK => ?_) AllReadyH.nil
      go_simp
      refine hK.out _ _ ?_ (fun hHeld => ?_)
      · exact hHeld
      clear hK K
      try simp only [Act.put, List.setIfInBounds_toArray, List.set_cons_zero, List.set_cons_succ]
      refine wpAnyH_take (i := 3) (oi := { dst := some 82, op := Op.binOp BinOp.lss 3 (Operand.tmp 79) (Operand.tmp 81) 3, type := 4, pos := "law.go:135", after := #[{ on := 0, ground := Ground.data }, { on := 2, ground := Ground.data }], guard := none }) (v := ?_) rfl (by kernel_rfl) (by kernel_rfl) (by kernel_rfl) (fun _ _ _ h => h) (Or.inl ⟨by rfl, ?_⟩) (by assumption) ?_
      rotate_left
      · intro w hSw; (try dsimp only at hSw); go_simp <;> with_reducible rfl
      simp only [Act.put, List.setIfInBounds_toArray, List.set_cons_zero, List.set_cons_succ]
      refine wpAnyH_take (i := 4) (oi := { dst := some 83, op := Op.move (Operand.tmp 82), type := 4, pos := "law.go:135", after := #[{ on := 3, ground := Ground.data }], guard := none }) (v := ?_) rfl (by kernel_rfl) (by kernel_rfl) (by kernel_rfl) (fun _ _ _ h => h) (Or.inl ⟨by rfl, ?_⟩) (by assumption) ?_
      rotate_left
      · intro w hSw; (try dsimp only at hSw); go_simp <;> with_reducible rfl
      simp only [Act.put, List.setIfInBounds_toArray, List.set_cons_zero, List.set_cons_succ]
      refine wpAnyH_take (i := 5) (oi := { dst := some 84, op := Op.load 26 (Operand.tmp 9), type := 26, pos := "law.go:135", after := #[{ on := 4, ground := Ground.guard }], guard := some (4, true) }) (v := ?_) rfl (by kernel_rfl) (by kernel_rfl) (by kernel_rfl) (fun _ _ _ h => h) (Or.inl ⟨by rfl, ?_⟩) (by assumption) ?_
      rotate_left
      · intro w hSw; (try dsimp only at hSw); go_simp <;> with_reducible rfl
      simp only [Act.put, List.setIfInBounds_toArray, List.set_cons_zero, List.set_cons_succ]
      refine wpAnyH_take (i := 6) (oi := { dst := some 85, op := Op.load 22 (Operand.tmp 4), type := 22, pos := "law.go:135", after := #[{ on := 4, ground := Ground.guard }], guard := some (4, true) }) (v := ?_) rfl (by kernel_rfl) (by kernel_rfl) (by kernel_rfl) (fun _ _ _ h => h) (Or.inl ⟨by rfl, ?_⟩) (by assumption) ?_
      rotate_left
      · intro w hSw; (try dsimp only at hSw); go_simp <;> with_reducible rfl
      simp only [Act.put, List.setIfInBounds_toArray, List.set_cons_zero, List.set_cons_succ]
      refine wpAnyH_take (i := 7) (oi := { dst := some 86, op := Op.load 3 (Operand.tmp 14), type := 3, pos := "law.go:135", after := #[{ on := 4, ground := Ground.guard }], guard := some (4, true) }) (v := ?_) rfl (by kernel_rfl) (by kernel_rfl) (by kernel_rfl) (fun _ _ _ h => h) (Or.inl ⟨by rfl, ?_⟩) (by assumption) ?_
      rotate_left
      · intro w hSw; (try dsimp only at hSw); go_simp <;> with_reducible rfl
      simp only [Act.put, List.setIfInBounds_toArray, List.set_cons_zero, List.set_cons_succ]
      refine wpAnyH_take (i := 8) (oi := { dst := some 87, op := Op.indexAddr 22 (Operand.tmp 85) (Operand.tmp 86), type := 0, pos := "law.go:135", after := #[{ on := 6, ground := Ground.data }, { on := 7, ground := Ground.data }, { on := 4, ground := Ground.guard }], guard := some (4, true) }) (v := ?_) rfl (by kernel_rfl) (by kernel_rfl) (by kernel_rfl) (fun _ _ _ h => h) (Or.inl ⟨by rfl, ?_⟩) (by assumption) ?_
      rotate_left
      · intro w hSw; (try dsimp only at hSw); go_simp <;> with_reducible rfl
      simp only [Act.put, List.setIfInBounds_toArray, List.set_cons_zero, List.set_cons_succ]
      refine wpAnyH_take (i := 9) (oi := { dst := some 88, op := Op.load 32 (Operand.tmp 87), type := 32, pos := "law.go:135", after := #[{ on := 8, ground := Ground.data }, { on := 4, ground := Ground.guard }], guard := some (4, true) }) (v := ?_) rfl (by kernel_rfl) (by kernel_rfl) (by kernel_rfl) (fun _ _ _ h => h) (Or.inl ⟨by rfl, ?_⟩) (by assumption) ?_
      rotate_left
      · intro w hSw; (try dsimp only at hSw); go_simp <;> with_reducible rfl
      simp only [Act.put, List.setIfInBounds_toArray, List.set_cons_zero, List.set_cons_succ]
      refine wpAnyH_ready (rs := [10]) (by kernel_rfl) (by simp) ?_
      refine AllReadyH.cons (o := { dst := some 89, op := Op.call { callee := Callee.value (Operand.func 5), args := #[Operand.tmp 84, Operand.tmp 88], argTypes := #[26, 32] }, type := 4, pos := "law.go:135", after := #[{ on := 5, ground := Ground.data }, { on := 9, ground := Ground.data }, { on := 4, ground := Ground.chain }, { on := 4, ground := Ground.guard }], guard := some (4, true) }) rfl (fun K hK => ?_) AllReadyH.nil
      go_simp
      refine KP.out.mono ?_; rintro e w7 ⟨rfl, hT7, hN7⟩; (try dsimp only); have hN7' := hide' hN7; have hT7' := hide' hT7; clear hT7 hN7
      refine hK.out _ _ ?_ (fun hHeld => ?_)
      · exact hkp.out _ hN7'.out
      clear hK K
      try simp only [Act.put, List.setIfInBounds_toArray, List.set_cons_zero, List.set_cons_succ]
      refine wpAnyH_take (i := 11) (oi := { dst := some 90, op := Op.unOp UnOp.not 4 (Operand.tmp 89), type := 4, pos := "law.go:135", after := #[{ on := 10, ground := Ground.data }, { on := 4, ground := Ground.guard }], guard := some (4, true) }) (v := ?_) rfl (by kernel_rfl) (by kernel_rfl) (by kernel_rfl) (fun _ _ _ h => h) (Or.inl ⟨by rfl, ?_⟩) (by assumption) ?_
      rotate_left
      · intro w hSw; (try dsimp only at hSw); go_simp <;> with_reducible rfl
      simp only [Act.put, List.setIfInBounds_toArray, List.set_cons_zero, List.set_cons_succ]
      refine wpAnyH_take (i := 12) (oi := { dst := some 91, op := Op.pick (Operand.tmp 83) (Operand.tmp 90) (Operand.const (Value.bool false)), type := 4, pos := "law.go:135", after := #[{ on := 4, ground := Ground.data }, { on := 11, ground := Ground.data }], guard := none }) (v := ?_) rfl (by kernel_rfl) (by kernel_rfl) (by kernel_rfl) (fun _ _ _ h => h) (Or.inl ⟨by rfl, ?_⟩) (by assumption) ?_
      rotate_left
      · intro w hSw; (try dsimp only at hSw); go_simp <;> with_reducible rfl
      simp only [Act.put, List.setIfInBounds_toArray, List.set_cons_zero, List.set_cons_succ]
      refine wpAnyH_done (by kernel_rfl) ?_ _
      unfold onlyNormal
      obtain ⟨y1, y2, y3, y4, y5, y6, y7⟩ := FIN.out w7 hT7'.out hN7'.out
      have y8 := fun v => (y3 v).1
      have y9 := fun v => (y3 v).2
      have y7' := hide' y7
      have y4' := hide' y4
      have y6' := hide' y6
      clear y7 y4 y6 y3 FIN KP hkp hS0 hHeld hT7' hN7' dw d0 d1 dn dk ds d4 d9 d8 c0 c1 c2 c3
      cases hq : decide ((k : Int) + 1 = stop) with
      | true =>
        have hq0 := hide' (of_decide_eq_true hq)
        have hq1 : ((k : Int) + 1 == stop) = true := by have := hq0.out; simpa using this
        clear hq
        gi_wp2
        refine ⟨fun i h1 h2 => y4'.out i (by omega) h2, ?_⟩
        show IxA _ _ _ _ _ _ _ _ _ _ _ (pre ++ [x]).length _
        rw [hpl.out]
        exact ⟨rfl, rfl, by have := hq0.out; omega, T, by omega, y7'.out⟩
      | false =>
        have hq0 := hide' (of_decide_eq_false hq)
        have hq1 : ((k : Int) + 1 == stop) = false := by have := hq0.out; simpa using this
        clear hq
        gi_wp2
        refine ⟨fun i h1 h2 => y4'.out i (by omega) h2, y5, y6'.out, ?_⟩
        show RI _ _ _ _ _ _ _ _ _ (pre ++ [x]).length _
        rw [hpl.out]
        exact y7'.out
    · have hthi : ¬ (k : Int) < (Lt.length : Int) := by omega
      have hS0 : Hid (V.drew.cell? ⟨wb + 1, 0, none⟩ = some (.int .i64 (k : Int)) ∧ V.drew.cell? ⟨w.heap.size, 0, none⟩ = some (.slice ot Lt.length capt) ∧ V.drew.cell? ⟨b9, 0, none⟩ = some (.pointer (some ⟨p0, 0, none⟩)) ∧ V.drew.cell? ⟨b9, 1, none⟩ = some (.pointer (some ⟨r0, 0, none⟩))) := ⟨dn, d4, d9, d8⟩
      clear hrt'
      gi_wp2
      refine region_round (fun Y => Y.cell? ⟨wb + 1, 0, none⟩ = some (.int .i64 (k : Int)) ∧ Y.cell? ⟨w.heap.size, 0, none⟩ = some (.slice ot Lt.length capt) ∧ Y.cell? ⟨b9, 0, none⟩ = some (.pointer (some ⟨p0, 0, none⟩)) ∧ Y.cell? ⟨b9, 1, none⟩ = some (.pointer (some ⟨r0, 0, none⟩))) hmx (noDefer_of (by kernel_rfl)) ?_ (fun hHeld => ?_)
      · exact hS0.out
      refine wpAnyH_take (i := 0) (oi := { dst := some 79, op := Op.load 3 (Operand.tmp 14), type := 3, pos := "law.go:135", after := #[], guard := none }) (v := ?_) rfl (by kernel_rfl) (by kernel_rfl) (by kernel_rfl) (fun _ _ _ h => h) (Or.inl ⟨by rfl, ?_⟩) (by assumption) ?_
      rotate_left
      · intro w hSw; (try dsimp only at hSw); go_simp <;> with_reducible rfl
      simp only [Act.put, List.setIfInBounds_toArray, List.set_cons_zero, List.set_cons_succ]
      refine wpAnyH_take (i := 1) (oi := { dst := some 80, op := Op.load 22 (Operand.tmp 4), type := 22, pos := "law.go:135", after := #[], guard := none }) (v := ?_) rfl (by kernel_rfl) (by kernel_rfl) (by kernel_rfl) (fun _ _ _ h => h) (Or.inl ⟨by rfl, ?_⟩) (by assumption) ?_
      rotate_left
      · intro w hSw; (try dsimp only at hSw); go_simp <;> with_reducible rfl
      simp only [Act.put, List.setIfInBounds_toArray, List.set_cons_zero, List.set_cons_succ]
      refine wpAnyH_ready (rs := [2]) (by kernel_rfl) (by simp) ?_
      refine AllReadyH.cons (o := { dst := some 81, op := Op.call { callee := Callee.builtin Builtin.len, args := #[Operand.tmp 80], argTypes := #[22] }, type := 3, pos := "law.go:135", after := #[{ on := 1, ground := Ground.data }], guard := none }) rfl (fun K hK => ?_) AllReadyH.nil
      go_simp
      refine hK.out _ _ ?_ (fun hHeld => ?_)
      · exact hHeld
      clear hK K
      try simp only [Act.put, List.setIfInBounds_toArray, List.set_cons_zero, List.set_cons_succ]
      refine wpAnyH_take (i := 3) (oi := { dst := some 82, op := Op.binOp BinOp.lss 3 (Operand.tmp 79) (Operand.tmp 81) 3, type := 4, pos := "law.go:135", after := #[{ on := 0, ground := Ground.data }, { on := 2, ground := Ground.data }], guard := none }) (v := ?_) rfl (by kernel_rfl) (by kernel_rfl) (by kernel_rfl) (fun _ _ _ h => h) (Or.inl ⟨by rfl, ?_⟩) (by assumption) ?_
      rotate_left
      · intro w hSw; (try dsimp only at hSw); go_simp <;> with_reducible rfl
      simp only [Act.put, List.setIfInBounds_toArray, List.set_cons_zero, List.set_cons_succ]
      refine wpAnyH_take (i := 4) (oi := { dst := some 83, op := Op.move (Operand.tmp 82), type := 4, pos := "law.go:135", after := #[{ on := 3, ground := Ground.data }], guard := none }) (v := ?_) rfl (by kernel_rfl) (by kernel_rfl) (by kernel_rfl) (fun _ _ _ h => h) (Or.inl ⟨by rfl, ?_⟩) (by assumption) ?_
      rotate_left
      · intro w hSw; (try dsimp only at hSw); go_simp <;> with_reducible rfl
      simp only [Act.put, List.setIfInBounds_toArray, List.set_cons_zero, List.set_cons_succ]
      refine wpAnyH_take (i := 5) (oi := { dst := some 84, op := Op.load 26 (Operand.tmp 9), type := 26, pos := "law.go:135", after := #[{ on := 4, ground := Ground.guard }], guard := some (4, true) }) (v := undef) rfl (by kernel_rfl) (by kernel_rfl) (by kernel_rfl) (fun _ _ _ h => h) (Or.inr ⟨by rfl, rfl⟩) (by assumption) ?_
      simp only [Act.put, List.setIfInBounds_toArray, List.set_cons_zero, List.set_cons_succ]
      refine wpAnyH_take (i := 6) (oi := { dst := some 85, op := Op.load 22 (Operand.tmp 4), type := 22, pos := "law.go:135", after := #[{ on := 4, ground := Ground.guard }], guard := some (4, true) }) (v := undef) rfl (by kernel_rfl) (by kernel_rfl) (by kernel_rfl) (fun _ _ _ h => h) (Or.inr ⟨by rfl, rfl⟩) (by assumption) ?_
      simp only [Act.put, List.setIfInBounds_toArray, List.set_cons_zero, List.set_cons_succ]
      refine wpAnyH_take (i := 7) (oi := { dst := some 86, op := Op.load 3 (Operand.tmp 14), type := 3, pos := "law.go:135", after := #[{ on := 4, ground := Ground.guard }], guard := some (4, true) }) (v := undef) rfl (by kernel_rfl) (by kernel_rfl) (by kernel_rfl) (fun _ _ _ h => h) (Or.inr ⟨by rfl, rfl⟩) (by assumption) ?_
      simp only [Act.put, List.setIfInBounds_toArray, List.set_cons_zero, List.set_cons_succ]
      refine wpAnyH_take (i := 8) (oi := { dst := some 87, op := Op.indexAddr 22 (Operand.tmp 85) (Operand.tmp 86), type := 0, pos := "law.go:135", after := #[{ on := 6, ground := Ground.data }, { on := 7, ground := Ground.data }, { on := 4, ground := Ground.guard }], guard := some (4, true) }) (v := undef) rfl (by kernel_rfl) (by kernel_rfl) (by kernel_rfl) (fun _ _ _ h => h) (Or.inr ⟨by rfl, rfl⟩) (by assumption) ?_
      simp only [Act.put, List.setIfInBounds_toArray, List.set_cons_zero, List.set_cons_succ]
      refine wpAnyH_take (i := 9) (oi := { dst := some 88, op := Op.load 32 (Operand.tmp 87), type := 32, pos := "law.go:135", after := #[{ on := 8, ground := Ground.data }, { on := 4, ground := Ground.guard }], guard := some (4, true) }) (v := undef) rfl (by kernel_rfl) (by kernel_rfl) (by kernel_rfl) (fun _ _ _ h => h) (Or.inr ⟨by rfl, rfl⟩) (by assumption) ?_
      simp only [Act.put, List.setIfInBounds_toArray, List.set_cons_zero, List.set_cons_succ]
      refine wpAnyH_take (i := 10) (oi := { dst := some 89, op := Op.call { callee := Callee.value (Operand.func 5), args := #[Operand.tmp 84, Operand.tmp 88], argTypes := #[26, 32] }, type := 4, pos := "law.go:135", after := #[{ on := 5, ground := Ground.data }, { on := 9, ground := Ground.data }, { on := 4, ground := Ground.chain }, { on := 4, ground := Ground.guard }], guard := some (4, true) }) (v := undef) rfl (by kernel_rfl) (by kernel_rfl) (by kernel_rfl) (fun _ _ _ h => h) (Or.inr ⟨by rfl, rfl⟩) (by assumption) ?_
      simp only [Act.put, List.setIfInBounds_toArray, List.set_cons_zero, List.set_cons_succ]
      refine wpAnyH_take (i := 11) (oi := { dst := some 90, op := Op.unOp UnOp.not 4 (Operand.tmp 89), type := 4, pos := "law.go:135", after := #[{ on := 10, ground := Ground.data }, { on := 4, ground := Ground.guard }], guard := some (4, true) }) (v := undef) rfl (by kernel_rfl) (by kernel_rfl) (by kernel_rfl) (fun _ _ _ h => h) (Or.inr ⟨by rfl, rfl⟩) (by assumption) ?_
      simp only [Act.put, List.setIfInBounds_toArray, List.set_cons_zero, List.set_cons_succ]
      refine wpAnyH_take (i := 12) (oi := { dst := some 91, op := Op.pick (Operand.tmp 83) (Operand.tmp 90) (Operand.const (Value.bool false)), type := 4, pos := "law.go:135", after := #[{ on := 4, ground := Ground.data }, { on := 11, ground := Ground.data }], guard := none }) (v := ?_) rfl (by kernel_rfl) (by kernel_rfl) (by kernel_rfl) (fun _ _ _ h => h) (Or.inl ⟨by rfl, ?_⟩) (by assumption) ?_
      rotate_left
      · intro w hSw; (try dsimp only at hSw); go_simp <;> with_reducible rfl
      simp only [Act.put, List.setIfInBounds_toArray, List.set_cons_zero, List.set_cons_succ]
      refine wpAnyH_done (by kernel_rfl) ?_ _
      unfold onlyNormal
      obtain ⟨y1, y2, y3, y4, y5, y6, y7⟩ := FIN.out V.drew (hsd.out.more (by omega)) (Uk.refl _ _)
      have y8 := fun v => (y3 v).1
      have y9 := fun v => (y3 v).2
      have y7' := hide' y7
      have y4' := hide' y4
      have y6' := hide' y6
      generalize V.drew = VD at *
      clear y7 y4 y6 y3 FIN hsd hS0 hHeld dw d0 d1 dn dk ds d4 d9 d8
      cases hq : decide ((k : Int) + 1 = stop) with
      | true =>
        have hq0 := hide' (of_decide_eq_true hq)
        have hq1 : ((k : Int) + 1 == stop) = true := by have := hq0.out; simpa using this
        clear hq
        gi_wp2
        refine ⟨fun i h1 h2 => y4'.out i (by omega) h2, ?_⟩
        show IxA _ _ _ _ _ _ _ _ _ _ _ (pre ++ [x]).length _
        rw [hpl.out]
        exact ⟨rfl, rfl, by have := hq0.out; omega, T, by omega, y7'.out⟩
      | false =>
        have hq0 := hide' (of_decide_eq_false hq)
        have hq1 : ((k : Int) + 1 == stop) = false := by have := hq0.out; simpa using this
        clear hq
        gi_wp2
        refine ⟨fun i h1 h2 => y4'.out i (by omega) h2, y5, y6'.out, ?_⟩
        show RI _ _ _ _ _ _ _ _ _ (pre ++ [x]).length _
        rw [hpl.out]
        exact y7'.out
  ·
    intro D V hD hend hdf
    subst hD
    obtain ⟨n, T, hT, hnl, hRI, hn⟩ : ∃ n T, Wr.heap.size + 2 ≤ T ∧ n ≤ M.length ∧ RI w W0 Wr (UK w.heap.size b9 ab kb0 (fun _ => False)) p0 r0 400 (wb + 1) T n V ∧ (n = M.length ∨ (0 = 0 ∧ (n : Int) = stop)) := by
      have hl := hlenE.out
      rcases hend with ⟨T, hT, hR⟩ | ⟨pre, hp, _, h0, h1, T, hT, hR⟩
      · exact ⟨_, T, hT, Nat.le_of_eq hl, hR, .inl hl⟩
      · exact ⟨_, T, hT, by have := hp.length_le; omega, hR, .inr ⟨h0, h1⟩⟩
    have hLl : LW.length = M.length := by rw [hLE.out, List.length_map, hlenE.out]
    have hTr := hRI.hT
    have hin : ∀ g, W0.heap.size ≤ g → g < wb + 2 → g ≠ wb + 1 → V.heap[g]? = Wr.heap[g]? := fun g h1 h2 h3 => hRI.eq g (.inr ⟨h1, by omega⟩) h3
    have hold : ∀ g, UK w.heap.size b9 ab kb0 (fun _ => False) g → V.heap[g]? = W0.heap[g]? := fun g hg => (hRI.eq g (.inl hg) (by have := hUlt g hg; omega)).trans (hBWr.block g (hUlt g hg))
    have dw : V.cell? ⟨wb, 0, none⟩ = some (.slice ow LW.length capw) := (World.cell?_of_block (hin wb hwb (by omega) (by omega))).trans bw.cell
    have dn := hRI.bn.cell
    have dk := (World.cell?_of_block (hold kb0 (.inr (.inr (.inr (.inl rfl)))))).trans ck
    have ds := (World.cell?_of_block (hold (w.heap.size + 1) (.inl (by omega)))).trans hKI0.out.bs.cell
    have hVs : T ≤ V.heap.size := by
      have := hRI.sd.ltU (g := T - 1) (.inr ⟨by omega, by omega⟩)
      omega
    have hDW : V.heap[Wr.heap.size]? = some (.deferred (some [])) := hdf
    have hKN : Hid (KI w p0 r0 b9 ab V.heap.size (fun g => g = Wr.heap.size) (.slice ot Lt.length capt) stop 1 800 (V.alloc (.cells #[.int .i64 1] 3)) ∧ (V.alloc (.cells #[.int .i64 1] 3)).heap[Wr.heap.size]? = some (.deferred (some []))) := by
      have hB : Below V.heap.size V (V.alloc (.cells #[.int .i64 1] 3)) := (Below.refl _ _).alloc (Nat.le_refl _) _
      have hz : (V.alloc (.cells #[.int .i64 1] 3)).heap.size = V.heap.size + 1 := by simp
      have up : ∀ g, UK w.heap.size b9 ab kb0 (fun _ => False) g → (V.alloc (.cells #[.int .i64 1] 3)).heap[g]? = W0.heap[g]? := fun g hg => (hB.block g (by have := hUlt g hg; omega)).trans (hold g hg)
      refine ⟨⟨(hRI.sd.grow hB (fun g hg => ?_)).more (by omega), hKI0.out.bt.same (up _ (.inl (by omega))), hKI0.out.bs.same (up _ (.inl (by omega))), hKI0.out.br.same (up _ (.inl (by omega))), (up _ (.inr (.inl rfl))).trans hKI0.out.s9, hKI0.out.ba.same (up _ (.inr (.inr (.inl rfl)))), Bx.new _ _ _, hRI.fr.trans (hB.mono hRI.fr.size), hKI0.out.o9⟩, (hB.block _ (by omega)).trans hDW⟩
      rcases hg with h | h | h | h | h
      · exact .inl (.inl (.inl h))
      · exact .inl (.inl (.inr (.inl h)))
      · exact .inl (.inl (.inr (.inr (.inl h))))
      · exact .inr ⟨by omega, by omega⟩
      · have h' : g = Wr.heap.size := h
        exact .inl (.inr ⟨by omega, by omega⟩)
    have hz0 := hRI.fr.size
    have hDl0 : Hid (w.heap.size + 3 ≤ Wr.heap.size) := by
      have h1 := hKI0.out.o9
      have h2 := hKI0.out.sd.ltU (g := b9) (.inr (.inl rfl))
      show _ ≤ _
      omega
    clear hend hRI hin hold hdf hDW hBWr hUlt bw bn hrowW hLE hlenE hag hti hfr ck a0 a1 zr
    clear hKI0
    generalize hDD : Wr.heap.size = D0 at *
    have hcase : ((n : Int) != (LW.length : Int)) = false ∨ ((n : Int) != (LW.length : Int)) = true ∧ ((n : Int) == stop) = true := by
      by_cases hnE : n = LW.length
      · exact .inl (by rw [hnE]; simp)
      · have hst : (n : Int) = stop := hn.elim (fun h => absurd (h.trans hLl.symm) hnE) (fun h => h.2)
        exact .inr ⟨by simp; omega, by rw [hst]; simp⟩
    clear hn hLl
    rcases hcase with hne | ⟨hne, hst1⟩
    all_goals go_wp2
    all_goals
      have hKI1 := hide' hKN.out.1
      have hD0 := hide' hKN.out.2
      have hDlo : Hid (w.heap.size + 3 ≤ D0) := hDl0.out
      clear hKN hne dw dn dk ds hDD hT hTr hVs hz0 hwb z4 zW zk hml hsets hnl hkb0
      generalize V.alloc (.cells #[.int .i64 1] 3) = W1 at *
      generalize V.heap.size = kb1 at *
      rw [rounds_succ]
      obtain ⟨F, rv, M, sets, hSa, hsets, hUs⟩ := hKI1.out.sd
      have KA := hide' (allR r0 _ rv W1 hSa.rf)
      have ck : W1.cell? ⟨kb1, 0, none⟩ = some (.int .i64 1) := hKI1.out.bk.cell
      obtain ⟨a0, a1⟩ := hKI1.out.c9
      have hag := hide' hSa.ag
      have hti := hide' hSa.ti
      have hml : M.length ≤ 800 := by have := hSa.ag.ltF.2; omega
      have hLE : Hid (allP (M.map prE) = (allE M).map prE) := (allP_map M).symm
      have hlenE : Hid ((allE M).length = M.length) := allE_len M
      clear hSa hUs
      generalize allP (M.map prE) = LW at *
      go_wp2_with (first | (go_at_call 7; refine KA.out.mono ?_; rintro e w4 ⟨v4, rfl, hrow4, hb4⟩; obtain ⟨ow, capw, rfl⟩ := own_shapeG hrow4))
      have zW := hKI1.out.fr.size
      have zk := hKI1.out.bk.lt
      have z4 := hb4.size
      have hBr : Below w4.heap.size w4 ((w4.alloc (.cells #[.slice ow LW.length capw] 36)).alloc (.cells #[.int .i64 0] 3)) := ((Below.refl _ _).alloc (Nat.le_refl _) _).alloc (by simp) _
      have bw : Bx ((w4.alloc (.cells #[.slice ow LW.length capw] 36)).alloc (.cells #[.int .i64 0] 3)) w4.heap.size 36 (.slice ow LW.length capw) := (Below.heap_alloc _ _ _ (by simp)).trans (Bx.new _ _ _)
      have bn : Bx ((w4.alloc (.cells #[.slice ow LW.length capw] 36)).alloc (.cells #[.int .i64 0] 3)) (w4.heap.size + 1) 3 (.int .i64 0) := by
        have := Bx.new (w4.alloc (.cells #[.slice ow LW.length capw] 36)) 3 (.int .i64 0)
        rw [World.size_alloc] at this
        exact this
      have zr : ((w4.alloc (.cells #[.slice ow LW.length capw] 36)).alloc (.cells #[.int .i64 0] 3)).heap.size = w4.heap.size + 2 := by simp
      have hBWr : Below W1.heap.size W1 ((w4.alloc (.cells #[.slice ow LW.length capw] 36)).alloc (.cells #[.int .i64 0] 3)) := hb4.trans (hBr.mono hb4.size)
      have hrowW : Hid (∀ k x, LW[k]? = some x → ∃ g, ow = some ⟨g, 0, none⟩ ∧ W1.heap.size ≤ g ∧ g < w4.heap.size ∧ ((w4.alloc (.cells #[.slice ow LW.length capw] 36)).alloc (.cells #[.int .i64 0] 3)).cell? ⟨g, k * 2, none⟩ = some (.int .i64 x.1) ∧ ((w4.alloc (.cells #[.slice ow LW.length capw] 36)).alloc (.cells #[.int .i64 0] 3)).cell? ⟨g, k * 2 + 1, none⟩ = some (.int .i64 x.2)) := fun k x hx => by
        obtain ⟨g, e, h1, h2⟩ := rowP hrow4 hx
        subst e
        have hl := hrow4.lt g rfl
        exact ⟨g, rfl, hl.1, hl.2, cell_over h1 hBr, cell_over h2 hBr⟩
      generalize (w4.alloc (.cells #[.slice ow LW.length capw] 36)).alloc (.cells #[.int .i64 0] 3) = Wr at *
      have hwb : W1.heap.size ≤ w4.heap.size := z4
      generalize w4.heap.size = wb at *
      clear hBr hrow4 hb4 KA
      have hfr := hKI1.out.fr.trans (hBWr.mono zW)
      have hUlt : ∀ g, UK w.heap.size b9 ab kb1 (fun g => g = D0) g → g < W1.heap.size := fun g hg => hKI1.out.sd.ltU hg
      refine (wpIn_wide (n := 9)).1 ?_
      refine rangeG4 (gf := 21) (lb := #[.pointer (some ⟨ab, 0, none⟩)]) rfl (enters_of Try.func21 (by kernel_rfl) rfl)
        (allSeq 8 (hag.out.below hBWr) hti.out (hKI1.out.ba.same (hBWr.block _ hKI1.out.ba.lt)).cell) (fun _ => rfl) Ek.trans Ek.put
        (fun T pre V => RI w W1 Wr (UK w.heap.size b9 ab kb1 (fun g => g = D0)) p0 r0 800 (wb + 1) T pre.length V)
        (fun cd pre V => IxA w W1 Wr (UK w.heap.size b9 ab kb1 (fun g => g = D0)) p0 r0 800 (wb + 1) 1 stop cd pre.length V)
        (fun T pre X l o h1 h2 hX => hX.put l o h1 h2 hBWr.size hUlt (by omega) zW) (fun T pre X hX => hX.drew)
        (fun cd pre X l o hl hX => ⟨hX.1, hX.2.1, hX.2.2.1, hX.2.2.2.elim fun T hT => ⟨T, hT.1, hT.2.put l o (by omega) (by omega) hBWr.size hUlt (by omega) zW⟩⟩)
        (fun cd pre X hX => hX.1)
        (fun V1 hV1 _ => RI.start hKI1.out.sd hBWr hUlt bn hfr hV1) ?_ ?_ ?_ ?_
      rotate_left 1
      ·
        intro l x X K hK
        have e1 : encE x = #[.int .i64 x.id, .int .i64 x.tm] := rfl
        rw [e1]
        gi_wp2
        exact hK
      ·
        rintro l T pre x V hT hTV hRI hpre
        have hk : (allE M)[pre.length]? = some x := by
          obtain ⟨r, h⟩ := hpre
          rw [← h]; simp
        have hlE := hlenE.out
        have hkl : pre.length < M.length := by have := (List.getElem?_eq_some_iff.1 hk).1; omega
        have hWk : LW[pre.length]? = some (prE x) := by rw [hLE.out, List.getElem?_map, hk]; rfl
        have hLl : LW.length = M.length := by rw [hLE.out, List.length_map, hlE]
        obtain ⟨gw, hgw, hg1, hg2, cw0, cw1⟩ := hrowW.out _ _ hWk
        subst hgw
        have hTr := hRI.hT
        have hpl : Hid ((pre ++ [x]).length = pre.length + 1) := by show _ = _; simp
        have hin : ∀ g, W1.heap.size ≤ g → g < wb + 2 → g ≠ wb + 1 → V.heap[g]? = Wr.heap[g]? := fun g h1 h2 h3 => hRI.eq g (.inr ⟨h1, by omega⟩) h3
        have hold : ∀ g, UK w.heap.size b9 ab kb1 (fun g => g = D0) g → V.heap[g]? = W1.heap[g]? := fun g hg => (hRI.eq g (.inl hg) (by have := hUlt g hg; omega)).trans (hBWr.block g (hUlt g hg))
        have dw : V.cell? ⟨wb, 0, none⟩ = some (.slice (some ⟨gw, 0, none⟩) LW.length capw) := (World.cell?_of_block (hin wb hwb (by omega) (by omega))).trans bw.cell
        have d0 : V.cell? ⟨gw, pre.length * 2, none⟩ = some (.int .i64 x.id) := (World.cell?_of_block (hin gw hg1 (by omega) (by omega))).trans cw0
        have d1 : V.cell? ⟨gw, pre.length * 2 + 1, none⟩ = some (.int .i64 x.tm) := (World.cell?_of_block (hin gw hg1 (by omega) (by omega))).trans cw1
        have dn := hRI.bn.cell
        have dk := (World.cell?_of_block (hold kb1 (.inr (.inr (.inr (.inl rfl)))))).trans ck
        have ds := (World.cell?_of_block (hold (w.heap.size + 1) (.inl (by omega)))).trans hKI1.out.bs.cell
        have d4 := (World.cell?_of_block (hold w.heap.size (.inl (by omega)))).trans hKI1.out.bt.cell
        have d9 := (World.cell?_of_block (hold b9 (.inr (.inl rfl)))).trans a0
        have d8 := (World.cell?_of_block (hold b9 (.inr (.inl rfl)))).trans a1
        have hklt : (pre.length : Int) < (LW.length : Int) := by omega
        have FIN : Hid (∀ Y, SdA Y p0 r0 (800 + pre.length + 1) (fun g => UK w.heap.size b9 ab kb1 (fun g => g = D0) g ∨ (W1.heap.size ≤ g ∧ g < T)) → Uk (fun g => UK w.heap.size b9 ab kb1 (fun g => g = D0) g ∨ (W1.heap.size ≤ g ∧ g < T)) V.drew Y →
            Y.cell? ⟨wb + 1, 0, none⟩ = some (.int .i64 (pre.length : Int)) ∧ Y.frozen? ⟨wb + 1, 0, none⟩ = false ∧ (∀ v, (Y.setCell ⟨wb + 1, 0, none⟩ v).cell? ⟨kb1, 0, none⟩ = some (.int .i64 1) ∧ (Y.setCell ⟨wb + 1, 0, none⟩ v).cell? ⟨w.heap.size + 1, 0, none⟩ = some (.int .i64 stop)) ∧
            (∀ i, Wr.heap.size ≤ i → i < T → (Y.setCell ⟨wb + 1, 0, none⟩ (.int .i64 ((pre.length : Int) + 1))).heap[i]? = V.heap[i]?) ∧ T ≤ (Y.setCell ⟨wb + 1, 0, none⟩ (.int .i64 ((pre.length : Int) + 1))).heap.size ∧ Ek V (Y.setCell ⟨wb + 1, 0, none⟩ (.int .i64 ((pre.length : Int) + 1))) ∧ RI w W1 Wr (UK w.heap.size b9 ab kb1 (fun g => g = D0)) p0 r0 800 (wb + 1) T (pre.length + 1) (Y.setCell ⟨wb + 1, 0, none⟩ (.int .i64 ((pre.length : Int) + 1)))) := fun Y hs hu => by
          have bY : Bx Y (wb + 1) 3 (.int .i64 (pre.length : Int)) := hRI.bn.same (hu.block _ (.inr ⟨by omega, by omega⟩))
          have hset := Uk.set (U := fun _ => False) Y (wb + 1) 0 (.int .i64 ((pre.length : Int) + 1)) (fun h => h) (bY.ne (by decide))
          have zY := hu.size
          have hE1 : ((pre.length + 1 : Nat) : Int) = (pre.length : Int) + 1 := by omega
          refine ⟨bY.cell, bY.fz, fun v => ⟨?_, ?_⟩, fun i h1 h2 => (Below.heap_setCell _ _ _ _ (by show i ≠ wb + 1; omega)).trans (hu.block i (.inr ⟨by omega, h2⟩)), Nat.le_trans hTV (Nat.le_trans zY (by simp [World.setCell])), Ek.trans _ _ _ hu.ek hset.ek, hE1 ▸ hRI.drew.uk hs hu ⟨by omega, by omega⟩ (fun g hg => .inl (by omega)) zW⟩
          · refine (World.cell?_of_block (Below.heap_setCell _ _ _ _ ?_)).trans (hu.cell dk (.inl (.inr (.inr (.inr (.inl rfl))))))
            show kb1 ≠ wb + 1
            omega
          · refine (World.cell?_of_block (Below.heap_setCell _ _ _ _ ?_)).trans (hu.cell ds (.inl (.inl (by omega))))
            show w.heap.size + 1 ≠ wb + 1
            omega
        have hrt' := hrt.out V hRI.fr
        have hsd := hide' (hRI.sd.over ((Below.refl _ V).drew))
        have hwk : IntKind.i64.wrap ((pre.length : Int) + 1) = (pre.length : Int) + 1 := by rw [IntKind.wrap_i64]; omega
        have hkb : pre.length ≤ 800 := by omega
        clear hRI hpre hk hWk hold hin cw0 cw1 hrowW hLE hlenE hlE bw bn hag hti hg1 hg2 hUlt hBWr ck a0 a1
        generalize pre.length = k at *
        by_cases hth : k < Lt.length
        · obtain ⟨p, hp⟩ : ∃ p, Lt[k]? = some p := ⟨_, List.getElem?_eq_getElem hth⟩
          obtain ⟨⟨gt, o, hot, hgb, c0, c1, c2, c3⟩, hid⟩ := hrt' k p hp
          subst hot
          have KP := hide' (hsd.out.plays (by omega) p.on p.op p.id p.n hid)
          have hthi : (k : Int) < (Lt.length : Int) := by omega
          have hgU : gt < w.heap.size + 3 := by omega
          clear hp hid hrt' hsd
          generalize p.on = on at *
          generalize p.op = d at *
          generalize p.id = pid at *
          generalize p.n = pn at *
          have hS0 : Hid (V.drew.cell? ⟨wb + 1, 0, none⟩ = some (.int .i64 (k : Int)) ∧ V.drew.cell? ⟨w.heap.size, 0, none⟩ = some (.slice (some ⟨gt, o, none⟩) Lt.length capt) ∧ V.drew.cell? ⟨b9, 0, none⟩ = some (.pointer (some ⟨p0, 0, none⟩)) ∧ V.drew.cell? ⟨b9, 1, none⟩ = some (.pointer (some ⟨r0, 0, none⟩)) ∧ V.drew.cell? ⟨gt, o + k * 4, none⟩ = some (.int .i64 on) ∧ V.drew.cell? ⟨gt, o + k * 4 + 1, none⟩ = some (.int .i64 d) ∧ V.drew.cell? ⟨gt, o + k * 4 + 2, none⟩ = some (.int .i64 pid) ∧ V.drew.cell? ⟨gt, o + k * 4 + 3, none⟩ = some (.int .i64 pn)) := ⟨dn, d4, d9, d8, c0, c1, c2, c3⟩
          have hkp : Hid (∀ Y, Uk (fun g => UK w.heap.size b9 ab kb1 (fun g => g = D0) g ∨ (W1.heap.size ≤ g ∧ g < T)) V.drew Y → Y.cell? ⟨wb + 1, 0, none⟩ = some (.int .i64 (k : Int)) ∧ Y.cell? ⟨w.heap.size, 0, none⟩ = some (.slice (some ⟨gt, o, none⟩) Lt.length capt) ∧ Y.cell? ⟨b9, 0, none⟩ = some (.pointer (some ⟨p0, 0, none⟩)) ∧ Y.cell? ⟨b9, 1, none⟩ = some (.pointer (some ⟨r0, 0, none⟩)) ∧ Y.cell? ⟨gt, o + k * 4, none⟩ = some (.int .i64 on) ∧ Y.cell? ⟨gt, o + k * 4 + 1, none⟩ = some (.int .i64 d) ∧ Y.cell? ⟨gt, o + k * 4 + 2, none⟩ = some (.int .i64 pid) ∧ Y.cell? ⟨gt, o + k * 4 + 3, none⟩ = some (.int .i64 pn)) := fun Y hN => ⟨hN.cell dn (.inr ⟨by omega, by omega⟩), hN.cell d4 (.inl (.inl (by omega))), hN.cell d9 (.inl (.inr (.inl rfl))), hN.cell d8 (.inl (.inr (.inl rfl))), hN.cell c0 (.inl (.inl hgU)), hN.cell c1 (.inl (.inl hgU)), hN.cell c2 (.inl (.inl hgU)), hN.cell c3 (.inl (.inl hgU))⟩
          gi_wp2
          refine region_round (fun Y => Y.cell? ⟨wb + 1, 0, none⟩ = some (.int .i64 (k : Int)) ∧ Y.cell? ⟨w.heap.size, 0, none⟩ = some (.slice (some ⟨gt, o, none⟩) Lt.length capt) ∧ Y.cell? ⟨b9, 0, none⟩ = some (.pointer (some ⟨p0, 0, none⟩)) ∧ Y.cell? ⟨b9, 1, none⟩ = some (.pointer (some ⟨r0, 0, none⟩)) ∧ Y.cell? ⟨gt, o + k * 4, none⟩ = some (.int .i64 on) ∧ Y.cell? ⟨gt, o + k * 4 + 1, none⟩ = some (.int .i64 d) ∧ Y.cell? ⟨gt, o + k * 4 + 2, none⟩ = some (.int .i64 pid) ∧ Y.cell? ⟨gt, o + k * 4 + 3, none⟩ = some (.int .i64 pn)) hmx (noDefer_of (by kernel_rfl)) ?_ (fun hHeld => ?_)
          · exact hS0.out
          refine wpAnyH_take (i := 0) (oi := { dst := some 79, op := Op.load 3 (Operand.tmp 14), type := 3, pos := "law.go:135", after := #[], guard := none }) (v := ?_) rfl (by kernel_rfl) (by kernel_rfl) (by kernel_rfl) (fun _ _ _ h => h) (Or.inl ⟨by rfl, ?_⟩) (by assumption) ?_
          rotate_left
          · intro w hSw; (try dsimp only at hSw); go_simp <;> with_reducible rfl
          simp only [Act.put, List.setIfInBounds_toArray, List.set_cons_zero, List.set_cons_succ]
          refine wpAnyH_take (i := 1) (oi := { dst := some 80, op := Op.load 22 (Operand.tmp 4), type := 22, pos := "law.go:135", after := #[], guard := none }) (v := ?_) rfl (by kernel_rfl) (by kernel_rfl) (by kernel_rfl) (fun _ _ _ h => h) (Or.inl ⟨by rfl, ?_⟩) (by assumption) ?_
          rotate_left
          · intro w hSw; (try dsimp only at hSw); go_simp <;> with_reducible rfl
          simp only [Act.put, List.setIfInBounds_toArray, List.set_cons_zero, List.set_cons_succ]
          refine wpAnyH_ready (rs := [2]) (by kernel_rfl) (by simp) ?_
          refine AllReadyH.cons (o := { dst := some 81, op := Op.call { callee := Callee.builtin Builtin.len, args := #[Operand.tmp 80], argTypes := #[22] }, type := 3, pos := "law.go:135", after := #[{ on := 1, ground := Ground.data }], guard := none }) rfl (fun K hK => ?_) AllReadyH.nil
          go_simp
          refine hK.out _ _ ?_ (fun hHeld => ?_)
          · exact hHeld
          clear hK K
          try simp only [Act.put, List.setIfInBounds_toArray, List.set_cons_zero, List.set_cons_succ]
          refine wpAnyH_take (i := 3) (oi := { dst := some 82, op := Op.binOp BinOp.lss 3 (Operand.tmp 79) (Operand.tmp 81) 3, type := 4, pos := "law.go:135", after := #[{ on := 0, ground := Ground.data }, { on := 2, ground := Ground.data }], guard := none }) (v := ?_) rfl (by kernel_rfl) (by kernel_rfl) (by kernel_rfl) (fun _ _ _ h => h) (Or.inl ⟨by rfl, ?_⟩) (by assumption) ?_
          rotate_left
          · intro w hSw; (try dsimp only at hSw); go_simp <;> with_reducible rfl
          simp only [Act.put, List.setIfInBounds_toArray, List.set_cons_zero, List.set_cons_succ]
          refine wpAnyH_take (i := 4) (oi := { dst := some 83, op := Op.move (Operand.tmp 82), type := 4, pos := "law.go:135", after := #[{ on := 3, ground := Ground.data }], guard := none }) (v := ?_) rfl (by kernel_rfl) (by kernel_rfl) (by kernel_rfl) (fun _ _ _ h => h) (Or.inl ⟨by rfl, ?_⟩) (by assumption) ?_
          rotate_left
          · intro w hSw; (try dsimp only at hSw); go_simp <;> with_reducible rfl
          simp only [Act.put, List.setIfInBounds_toArray, List.set_cons_zero, List.set_cons_succ]
          refine wpAnyH_take (i := 5) (oi := { dst := some 84, op := Op.load 26 (Operand.tmp 9), type := 26, pos := "law.go:135", after := #[{ on := 4, ground := Ground.guard }], guard := some (4, true) }) (v := ?_) rfl (by kernel_rfl) (by kernel_rfl) (by kernel_rfl) (fun _ _ _ h => h) (Or.inl ⟨by rfl, ?_⟩) (by assumption) ?_
          rotate_left
          · intro w hSw; (try dsimp only at hSw); go_simp <;> with_reducible rfl
          simp only [Act.put, List.setIfInBounds_toArray, List.set_cons_zero, List.set_cons_succ]
          refine wpAnyH_take (i := 6) (oi := { dst := some 85, op := Op.load 22 (Operand.tmp 4), type := 22, pos := "law.go:135", after := #[{ on := 4, ground := Ground.guard }], guard := some (4, true) }) (v := ?_) rfl (by kernel_rfl) (by kernel_rfl) (by kernel_rfl) (fun _ _ _ h => h) (Or.inl ⟨by rfl, ?_⟩) (by assumption) ?_
          rotate_left
          · intro w hSw; (try dsimp only at hSw); go_simp <;> with_reducible rfl
          simp only [Act.put, List.setIfInBounds_toArray, List.set_cons_zero, List.set_cons_succ]
          refine wpAnyH_take (i := 7) (oi := { dst := some 86, op := Op.load 3 (Operand.tmp 14), type := 3, pos := "law.go:135", after := #[{ on := 4, ground := Ground.guard }], guard := some (4, true) }) (v := ?_) rfl (by kernel_rfl) (by kernel_rfl) (by kernel_rfl) (fun _ _ _ h => h) (Or.inl ⟨by rfl, ?_⟩) (by assumption) ?_
          rotate_left
          · intro w hSw; (try dsimp only at hSw); go_simp <;> with_reducible rfl
          simp only [Act.put, List.setIfInBounds_toArray, List.set_cons_zero, List.set_cons_succ]
          refine wpAnyH_take (i := 8) (oi := { dst := some 87, op := Op.indexAddr 22 (Operand.tmp 85) (Operand.tmp 86), type := 0, pos := "law.go:135", after := #[{ on := 6, ground := Ground.data }, { on := 7, ground := Ground.data }, { on := 4, ground := Ground.guard }], guard := some (4, true) }) (v := ?_) rfl (by kernel_rfl) (by kernel_rfl) (by kernel_rfl) (fun _ _ _ h => h) (Or.inl ⟨by rfl, ?_⟩) (by assumption) ?_
          rotate_left
          · intro w hSw; (try dsimp only at hSw); go_simp <;> with_reducible rfl
          simp only [Act.put, List.setIfInBounds_toArray, List.set_cons_zero, List.set_cons_succ]
          refine wpAnyH_take (i := 9) (oi := { dst := some 88, op := Op.load 32 (Operand.tmp 87), type := 32, pos := "law.go:135", after := #[{ on := 8, ground := Ground.data }, { on := 4, ground := Ground.guard }], guard := some (4, true) }) (v := ?_) rfl (by kernel_rfl) (by kernel_rfl) (by kernel_rfl) (fun _ _ _ h => h) (Or.inl ⟨by rfl, ?_⟩) (by assumption) ?_
          rotate_left
          · intro w hSw; (try dsimp only at hSw); go_simp <;> with_reducible rfl
          simp only [Act.put, List.setIfInBounds_toArray, List.set_cons_zero, List.set_cons_succ]
          refine wpAnyH_ready (rs := [10]) (by kernel_rfl) (by simp) ?_
          refine AllReadyH.cons (o := { dst := some 89, op := Op.call { callee := Callee.value (Operand.func 5), args := #[Operand.tmp 84, Operand.tmp 88], argTypes := #[26, 32] }, type := 4, pos := "law.go:135", after := #[{ on := 5, ground := Ground.data }, { on := 9, ground := Ground.data }, { on := 4, ground := Ground.chain }, { on := 4, ground := Ground.guard }], guard := some (4, true) }) rfl (fun K hK => ?_) AllReadyH.nil
          go_simp
          refine KP.out.mono ?_; rintro e w7 ⟨rfl, hT7, hN7⟩; (try dsimp only); have hN7' := hide' hN7; have hT7' := hide' hT7; clear hT7 hN7
          refine hK.out _ _ ?_ (fun hHeld => ?_)
          · exact hkp.out _ hN7'.out
          clear hK K
          try simp only [Act.put, List.setIfInBounds_toArray, List.set_cons_zero, List.set_cons_succ]
          refine wpAnyH_take (i := 11) (oi := { dst := some 90, op := Op.unOp UnOp.not 4 (Operand.tmp 89), type := 4, pos := "law.go:135", after := #[{ on := 10, ground := Ground.data }, { on := 4, ground := Ground.guard }], guard := some (4, true) }) (v := ?_) rfl (by kernel_rfl) (by kernel_rfl) (by kernel_rfl) (fun _ _ _ h => h) (Or.inl ⟨by rfl, ?_⟩) (by assumption) ?_
          rotate_left
          · intro w hSw; (try dsimp only at hSw); go_simp <;> with_reducible rfl
          simp only [Act.put, List.setIfInBounds_toArray, List.set_cons_zero, List.set_cons_succ]
          refine wpAnyH_take (i := 12) (oi := { dst := some 91, op := Op.pick (Operand.tmp 83) (Operand.tmp 90) (Operand.const (Value.bool false)), type := 4, pos := "law.go:135", after := #[{ on := 4, ground := Ground.data }, { on := 11, ground := Ground.data }], guard := none }) (v := ?_) rfl (by kernel_rfl) (by kernel_rfl) (by kernel_rfl) (fun _ _ _ h => h) (Or.inl ⟨by rfl, ?_⟩) (by assumption) ?_
          rotate_left
          · intro w hSw; (try dsimp only at hSw); go_simp <;> with_reducible rfl
          simp only [Act.put, List.setIfInBounds_toArray, List.set_cons_zero, List.set_cons_succ]
          refine wpAnyH_done (by kernel_rfl) ?_ _
          unfold onlyNormal
          obtain ⟨y1, y2, y3, y4, y5, y6, y7⟩ := FIN.out w7 hT7'.out hN7'.out
          have y8 := fun v => (y3 v).1
          have y9 := fun v => (y3 v).2
          have y7' := hide' y7
          have y4' := hide' y4
          have y6' := hide' y6
          clear y7 y4 y6 y3 FIN KP hkp hS0 hHeld hT7' hN7' dw d0 d1 dn dk ds d4 d9 d8 c0 c1 c2 c3
          gi_wp2
          refine ⟨fun i h1 h2 => y4'.out i (by omega) h2, y5, y6'.out, ?_⟩
          show RI _ _ _ _ _ _ _ _ _ (pre ++ [x]).length _
          rw [hpl.out]
          exact y7'.out
        · have hthi : ¬ (k : Int) < (Lt.length : Int) := by omega
          have hS0 : Hid (V.drew.cell? ⟨wb + 1, 0, none⟩ = some (.int .i64 (k : Int)) ∧ V.drew.cell? ⟨w.heap.size, 0, none⟩ = some (.slice ot Lt.length capt) ∧ V.drew.cell? ⟨b9, 0, none⟩ = some (.pointer (some ⟨p0, 0, none⟩)) ∧ V.drew.cell? ⟨b9, 1, none⟩ = some (.pointer (some ⟨r0, 0, none⟩))) := ⟨dn, d4, d9, d8⟩
          clear hrt'
          gi_wp2
          refine region_round (fun Y => Y.cell? ⟨wb + 1, 0, none⟩ = some (.int .i64 (k : Int)) ∧ Y.cell? ⟨w.heap.size, 0, none⟩ = some (.slice ot Lt.length capt) ∧ Y.cell? ⟨b9, 0, none⟩ = some (.pointer (some ⟨p0, 0, none⟩)) ∧ Y.cell? ⟨b9, 1, none⟩ = some (.pointer (some ⟨r0, 0, none⟩))) hmx (noDefer_of (by kernel_rfl)) ?_ (fun hHeld => ?_)
          · exact hS0.out
          refine wpAnyH_take (i := 0) (oi := { dst := some 79, op := Op.load 3 (Operand.tmp 14), type := 3, pos := "law.go:135", after := #[], guard := none }) (v := ?_) rfl (by kernel_rfl) (by kernel_rfl) (by kernel_rfl) (fun _ _ _ h => h) (Or.inl ⟨by rfl, ?_⟩) (by assumption) ?_
          rotate_left
          · intro w hSw; (try dsimp only at hSw); go_simp <;> with_reducible rfl
          simp only [Act.put, List.setIfInBounds_toArray, List.set_cons_zero, List.set_cons_succ]
          refine wpAnyH_take (i := 1) (oi := { dst := some 80, op := Op.load 22 (Operand.tmp 4), type := 22, pos := "law.go:135", after := #[], guard := none }) (v := ?_) rfl (by kernel_rfl) (by kernel_rfl) (by kernel_rfl) (fun _ _ _ h => h) (Or.inl ⟨by rfl, ?_⟩) (by assumption) ?_
          rotate_left
          · intro w hSw; (try dsimp only at hSw); go_simp <;> with_reducible rfl
          simp only [Act.put, List.setIfInBounds_toArray, List.set_cons_zero, List.set_cons_succ]
          refine wpAnyH_ready (rs := [2]) (by kernel_rfl) (by simp) ?_
          refine AllReadyH.cons (o := { dst := some 81, op := Op.call { callee := Callee.builtin Builtin.len, args := #[Operand.tmp 80], argTypes := #[22] }, type := 3, pos := "law.go:135", after := #[{ on := 1, ground := Ground.data }], guard := none }) rfl (fun K hK => ?_) AllReadyH.nil
          go_simp
          refine hK.out _ _ ?_ (fun hHeld => ?_)
          · exact hHeld
          clear hK K
          try simp only [Act.put, List.setIfInBounds_toArray, List.set_cons_zero, List.set_cons_succ]
          refine wpAnyH_take (i := 3) (oi := { dst := some 82, op := Op.binOp BinOp.lss 3 (Operand.tmp 79) (Operand.tmp 81) 3, type := 4, pos := "law.go:135", after := #[{ on := 0, ground := Ground.data }, { on := 2, ground := Ground.data }], guard := none }) (v := ?_) rfl (by kernel_rfl) (by kernel_rfl) (by kernel_rfl) (fun _ _ _ h => h) (Or.inl ⟨by rfl, ?_⟩) (by assumption) ?_
          rotate_left
          · intro w hSw; (try dsimp only at hSw); go_simp <;> with_reducible rfl
          simp only [Act.put, List.setIfInBounds_toArray, List.set_cons_zero, List.set_cons_succ]
          refine wpAnyH_take (i := 4) (oi := { dst := some 83, op := Op.move (Operand.tmp 82), type := 4, pos := "law.go:135", after := #[{ on := 3, ground := Ground.data }], guard := none }) (v := ?_) rfl (by kernel_rfl) (by kernel_rfl) (by kernel_rfl) (fun _ _ _ h => h) (Or.inl ⟨by rfl, ?_⟩) (by assumption) ?_
          rotate_left
          · intro w hSw; (try dsimp only at hSw); go_simp <;> with_reducible rfl
          simp only [Act.put, List.setIfInBounds_toArray, List.set_cons_zero, List.set_cons_succ]
          refine wpAnyH_take (i := 5) (oi := { dst := some 84, op := Op.load 26 (Operand.tmp 9), type := 26, pos := "law.go:135", after := #[{ on := 4, ground := Ground.guard }], guard := some (4, true) }) (v := undef) rfl (by kernel_rfl) (by kernel_rfl) (by kernel_rfl) (fun _ _ _ h => h) (Or.inr ⟨by rfl, rfl⟩) (by assumption) ?_
          simp only [Act.put, List.setIfInBounds_toArray, List.set_cons_zero, List.set_cons_succ]
          refine wpAnyH_take (i := 6) (oi := { dst := some 85, op := Op.load 22 (Operand.tmp 4), type := 22, pos := "law.go:135", after := #[{ on := 4, ground := Ground.guard }], guard := some (4, true) }) (v := undef) rfl (by kernel_rfl) (by kernel_rfl) (by kernel_rfl) (fun _ _ _ h => h) (Or.inr ⟨by rfl, rfl⟩) (by assumption) ?_
          simp only [Act.put, List.setIfInBounds_toArray, List.set_cons_zero, List.set_cons_succ]
          refine wpAnyH_take (i := 7) (oi := { dst := some 86, op := Op.load 3 (Operand.tmp 14), type := 3, pos := "law.go:135", after := #[{ on := 4, ground := Ground.guard }], guard := some (4, true) }) (v := undef) rfl (by kernel_rfl) (by kernel_rfl) (by kernel_rfl) (fun _ _ _ h => h) (Or.inr ⟨by rfl, rfl⟩) (by assumption) ?_
          simp only [Act.put, List.setIfInBounds_toArray, List.set_cons_zero, List.set_cons_succ]
          refine wpAnyH_take (i := 8) (oi := { dst := some 87, op := Op.indexAddr 22 (Operand.tmp 85) (Operand.tmp 86), type := 0, pos := "law.go:135", after := #[{ on := 6, ground := Ground.data }, { on := 7, ground := Ground.data }, { on := 4, ground := Ground.guard }], guard := some (4, true) }) (v := undef) rfl (by kernel_rfl) (by kernel_rfl) (by kernel_rfl) (fun _ _ _ h => h) (Or.inr ⟨by rfl, rfl⟩) (by assumption) ?_
          simp only [Act.put, List.setIfInBounds_toArray, List.set_cons_zero, List.set_cons_succ]
          refine wpAnyH_take (i := 9) (oi := { dst := some 88, op := Op.load 32 (Operand.tmp 87), type := 32, pos := "law.go:135", after := #[{ on := 8, ground := Ground.data }, { on := 4, ground := Ground.guard }], guard := some (4, true) }) (v := undef) rfl (by kernel_rfl) (by kernel_rfl) (by kernel_rfl) (fun _ _ _ h => h) (Or.inr ⟨by rfl, rfl⟩) (by assumption) ?_
          simp only [Act.put, List.setIfInBounds_toArray, List.set_cons_zero, List.set_cons_succ]
          refine wpAnyH_take (i := 10) (oi := { dst := some 89, op := Op.call { callee := Callee.value (Operand.func 5), args := #[Operand.tmp 84, Operand.tmp 88], argTypes := #[26, 32] }, type := 4, pos := "law.go:135", after := #[{ on := 5, ground := Ground.data }, { on := 9, ground := Ground.data }, { on := 4, ground := Ground.chain }, { on := 4, ground := Ground.guard }], guard := some (4, true) }) (v := undef) rfl (by kernel_rfl) (by kernel_rfl) (by kernel_rfl) (fun _ _ _ h => h) (Or.inr ⟨by rfl, rfl⟩) (by assumption) ?_
          simp only [Act.put, List.setIfInBounds_toArray, List.set_cons_zero, List.set_cons_succ]
          refine wpAnyH_take (i := 11) (oi := { dst := some 90, op := Op.unOp UnOp.not 4 (Operand.tmp 89), type := 4, pos := "law.go:135", after := #[{ on := 10, ground := Ground.data }, { on := 4, ground := Ground.guard }], guard := some (4, true) }) (v := undef) rfl (by kernel_rfl) (by kernel_rfl) (by kernel_rfl) (fun _ _ _ h => h) (Or.inr ⟨by rfl, rfl⟩) (by assumption) ?_
          simp only [Act.put, List.setIfInBounds_toArray, List.set_cons_zero, List.set_cons_succ]
          refine wpAnyH_take (i := 12) (oi := { dst := some 91, op := Op.pick (Operand.tmp 83) (Operand.tmp 90) (Operand.const (Value.bool false)), type := 4, pos := "law.go:135", after := #[{ on := 4, ground := Ground.data }, { on := 11, ground := Ground.data }], guard := none }) (v := ?_) rfl (by kernel_rfl) (by kernel_rfl) (by kernel_rfl) (fun _ _ _ h => h) (Or.inl ⟨by rfl, ?_⟩) (by assumption) ?_
          rotate_left
          · intro w hSw; (try dsimp only at hSw); go_simp <;> with_reducible rfl
          simp only [Act.put, List.setIfInBounds_toArray, List.set_cons_zero, List.set_cons_succ]
          refine wpAnyH_done (by kernel_rfl) ?_ _
          unfold onlyNormal
          obtain ⟨y1, y2, y3, y4, y5, y6, y7⟩ := FIN.out V.drew (hsd.out.more (by omega)) (Uk.refl _ _)
          have y8 := fun v => (y3 v).1
          have y9 := fun v => (y3 v).2
          have y7' := hide' y7
          have y4' := hide' y4
          have y6' := hide' y6
          generalize V.drew = VD at *
          clear y7 y4 y6 y3 FIN hsd hS0 hHeld dw d0 d1 dn dk ds d4 d9 d8
          gi_wp2
          refine ⟨fun i h1 h2 => y4'.out i (by omega) h2, y5, y6'.out, ?_⟩
          show RI _ _ _ _ _ _ _ _ _ (pre ++ [x]).length _
          rw [hpl.out]
          exact y7'.out
      ·
        intro D V hD hend hdf
        subst hD
        obtain ⟨n, T, hT, hnl, hRI, hn⟩ : ∃ n T, Wr.heap.size + 2 ≤ T ∧ n ≤ M.length ∧ RI w W1 Wr (UK w.heap.size b9 ab kb1 (fun g => g = D0)) p0 r0 800 (wb + 1) T n V ∧ (n = M.length ∨ (1 = 0 ∧ (n : Int) = stop)) := by
          have hl := hlenE.out
          rcases hend with ⟨T, hT, hR⟩ | ⟨pre, hp, _, h0, h1, T, hT, hR⟩
          · exact ⟨_, T, hT, Nat.le_of_eq hl, hR, .inl hl⟩
          · exact ⟨_, T, hT, by have := hp.length_le; omega, hR, .inr ⟨h0, h1⟩⟩
        have hLl : LW.length = M.length := by rw [hLE.out, List.length_map, hlenE.out]
        have hTr := hRI.hT
        have hin : ∀ g, W1.heap.size ≤ g → g < wb + 2 → g ≠ wb + 1 → V.heap[g]? = Wr.heap[g]? := fun g h1 h2 h3 => hRI.eq g (.inr ⟨h1, by omega⟩) h3
        have hold : ∀ g, UK w.heap.size b9 ab kb1 (fun g => g = D0) g → V.heap[g]? = W1.heap[g]? := fun g hg => (hRI.eq g (.inl hg) (by have := hUlt g hg; omega)).trans (hBWr.block g (hUlt g hg))
        have dw : V.cell? ⟨wb, 0, none⟩ = some (.slice ow LW.length capw) := (World.cell?_of_block (hin wb hwb (by omega) (by omega))).trans bw.cell
        have dn := hRI.bn.cell
        have dk := (World.cell?_of_block (hold kb1 (.inr (.inr (.inr (.inl rfl)))))).trans ck
        have ds := (World.cell?_of_block (hold (w.heap.size + 1) (.inl (by omega)))).trans hKI1.out.bs.cell
        have hVs : T ≤ V.heap.size := by
          have := hRI.sd.ltU (g := T - 1) (.inr ⟨by omega, by omega⟩)
          omega
        have hDW : V.heap[Wr.heap.size]? = some (.deferred (some [])) := hdf
        have hKN : Hid (KI w p0 r0 b9 ab V.heap.size (fun g => g = D0 ∨ g = Wr.heap.size) (.slice ot Lt.length capt) stop 2 1600 (V.alloc (.cells #[.int .i64 2] 3)) ∧ (V.alloc (.cells #[.int .i64 2] 3)).heap[Wr.heap.size]? = some (.deferred (some []))) := by
          have hB : Below V.heap.size V (V.alloc (.cells #[.int .i64 2] 3)) := (Below.refl _ _).alloc (Nat.le_refl _) _
          have hz : (V.alloc (.cells #[.int .i64 2] 3)).heap.size = V.heap.size + 1 := by simp
          have up : ∀ g, UK w.heap.size b9 ab kb1 (fun g => g = D0) g → (V.alloc (.cells #[.int .i64 2] 3)).heap[g]? = W1.heap[g]? := fun g hg => (hB.block g (by have := hUlt g hg; omega)).trans (hold g hg)
          refine ⟨⟨(hRI.sd.grow hB (fun g hg => ?_)).more (by omega), hKI1.out.bt.same (up _ (.inl (by omega))), hKI1.out.bs.same (up _ (.inl (by omega))), hKI1.out.br.same (up _ (.inl (by omega))), (up _ (.inr (.inl rfl))).trans hKI1.out.s9, hKI1.out.ba.same (up _ (.inr (.inr (.inl rfl)))), Bx.new _ _ _, hRI.fr.trans (hB.mono hRI.fr.size), hKI1.out.o9⟩, (hB.block _ (by omega)).trans hDW⟩
          rcases hg with h | h | h | h | h
          · exact .inl (.inl (.inl h))
          · exact .inl (.inl (.inr (.inl h)))
          · exact .inl (.inl (.inr (.inr (.inl h))))
          · exact .inr ⟨by omega, by omega⟩
          · rcases h with h | h
            · exact .inl (.inl (.inr (.inr (.inr (.inr h)))))
            · exact .inl (.inr ⟨by omega, by omega⟩)
        have hUl0 := hUlt D0 (.inr (.inr (.inr (.inr rfl))))
        have hD0' : Hid ((V.alloc (.cells #[.int .i64 2] 3)).heap[D0]? = some (.deferred (some []))) := ((Below.heap_alloc _ _ _ (by have := hUlt D0 (.inr (.inr (.inr (.inr rfl)))); omega)).trans (hold D0 (.inr (.inr (.inr (.inr rfl)))))).trans hD0.out
        have hz0 := hRI.fr.size
        have hD01 : D0 < Wr.heap.size := by
          have := hUl0
          omega
        clear hend hRI hin hold hdf hDW hBWr hUlt bw bn hrowW hLE hlenE hag hti hfr ck a0 a1 zr
        clear hKI1
        generalize hDD : Wr.heap.size = D1 at *
        have hLn : n = LW.length := hn.elim (fun h => h.trans hLl.symm) (fun h => absurd h.1 (by decide))
        have hne : ((n : Int) != (LW.length : Int)) = false := by rw [hLn]; simp
        clear hn hLl
        go_wp2
        have hD1' := hKN.out.2
        have bR := hKN.out.1.br
        have cR := bR.cell
        have fR := bR.fz
        have ck2 : (V.alloc (.cells #[.int .i64 2] 3)).cell? ⟨V.heap.size, 0, none⟩ = some (.int .i64 2) := hKN.out.1.bk.cell
        have hfr := hKN.out.1.fr
        have o9 := hKN.out.1.o9
        have hz9 := hfr.size
        have hDw : w.heap.size + 3 ≤ D0 := hDlo.out
        clear hKN dw dn dk ds hne
        generalize V.alloc (.cells #[.int .i64 2] 3) = W2 at *
        generalize V.heap.size = kb2 at *
        rw [rounds_succ]
        go_wp2
        have k2 := (Below.heap_setCell W2 ⟨w.heap.size + 1 + 1, 0, none⟩ (.bool true) D1 (by show D1 ≠ w.heap.size + 1 + 1; omega)).trans hD1'
        have k1 := (Below.heap_setCell W2 ⟨w.heap.size + 1 + 1, 0, none⟩ (.bool true) D0 (by show D0 ≠ w.heap.size + 1 + 1; omega)).trans hD0'.out
        have k1' := (World.putObj_heap_other (o := .deferred none) (show D0 ≠ D1 by omega)).trans k1
        have bE := ((bR.set (.bool true)).same (World.putObj_heap_other (o := .deferred none) (show w.heap.size + 1 + 1 ≠ D1 by omega))).same (World.putObj_heap_other (o := .deferred none) (show w.heap.size + 1 + 1 ≠ D0 by omega))
        have cE := bE.cell
        refine ⟨by simp, .inl ⟨_, _, rfl, run_takeDeferred k2, ⟨by simp, .inl ⟨_, _, rfl, run_takeDeferred k1', ?_⟩⟩⟩⟩
        refine ⟨.bool true, by simp [results, Try.results3, go_sem, cE], rfl, ?_⟩
        have e1 := hfr.setCell (p := ⟨w.heap.size + 1 + 1, 0, none⟩) (by show w.heap.size ≤ w.heap.size + 1 + 1; omega) (.bool true)
        have e2 := e1.grown (grownBy_putObj' _ D1 (.deferred none)) e1.size (fun r e => by injection e; omega)
        exact e2.grown (grownBy_putObj' _ D0 (.deferred none)) e2.size (fun r e => by injection e; omega)
end Go.Proofs.Ytmjdecgijnodhaa

/- Downs, ranged over: the Down sets, each the next of the one ahead, the empty one first. -/
import Derived.Test.YtmdeljldmehefaaDoorOSeq
import Derived.Test.YtmdeljldmehefaaDoorODownsB
import Derived.Sort.LoopGhostIn
namespace Go.Proofs.YtmdeljldmehefaaDoor
open Go.RowKit Go.Shelf
attribute [local go_sem] Oper.semAt_some
/-- The next of those that came. -/
def HxD (n : Nat) (R : Nat → Nat → Bool) (pre : List Nat) (x : Nat) : Prop :=
  isDown n R x ∧ match pre.getLast? with
    | none => x = 0
    | some y => y < x ∧ ∀ t, isDown n R t → y < t → x ≤ t
/-- All came. -/
def DoneD (n : Nat) (R : Nat → Nat → Bool) (xs : List Nat) : Prop := ∃ y, xs.getLast? = some y ∧ ∀ t, isDown n R t → t ≤ y
theorem downsFn (go : Nat) (w : World) :
    Calls Tryd.prog 5 #[.pointer (some ⟨go, 0, none⟩)] w fun e w' => e = .returned (.func (.func 11) #[] #[.pointer (some ⟨w.heap.size, 0, none⟩)]) ∧ w' = w.alloc (.cells #[.pointer (some ⟨go, 0, none⟩)] 27) := by
  go_enter Tryd.func5, Tryd.ntmps5
  go_wp2
  go_ret
  exact ⟨rfl, rfl⟩
theorem eql_fnD (lb : Array Value) (w : World) : (binOp .eql 32 (.func (.func 11) #[] lb) .nilFunc).run Tryd.prog w = .ok (.bool false) w := by
  kernel_rfl
theorem OrdAt.low {w V V' : World} {go gp gs n B : Nat} {Pf Sf : Nat → Nat} (h : OrdAt w go gp gs n Pf Sf) (h2 : OrdAt V go gp gs n Pf Sf) (hB : w.heap.size ≤ B) (hb : Below B V V') : OrdAt V' go gp gs n Pf Sf :=
  ⟨(hb.cell (p := ⟨go, 0, none⟩) (Nat.lt_of_lt_of_le (cell_lt h.o0) hB)).trans h2.o0, (hb.cell (p := ⟨go, 1, none⟩) (Nat.lt_of_lt_of_le (cell_lt h.o0) hB)).trans h2.o1,
    fun i hi => (hb.cell (p := ⟨gp, i, none⟩) (Nat.lt_of_lt_of_le (cell_lt (h.pc i hi)) hB)).trans (h2.pc i hi), fun i hi => (hb.cell (p := ⟨gs, i, none⟩) (Nat.lt_of_lt_of_le (cell_lt (h.sc i hi)) hB)).trans (h2.sc i hi)⟩
/-- Where the iterator stands. -/
def DownSt (n : Nat) (R : Nat → Nat → Bool) (M s g : Nat) (pre : List Nat) : Bool → Prop
  | true => HxD n R pre s ∧ g = M - s
  | false => DoneD n R pre ∧ g = 0
set_option maxRecDepth 100000 in
set_option maxHeartbeats 4000000 in
theorem downs_seq (k Bn : Nat) {go gp gs n : Nat} {R : Nat → Nat → Bool} {Pf Sf : Nat → Nat} (Kp : World → World → Prop) (hO : Ord n R Pf Sf)
    (hKp : ∀ V V', Kp V V' → V'.cell? ⟨Bn, 0, none⟩ = V.cell? ⟨Bn, 0, none⟩ ∧ (OrdAt V go gp gs n Pf Sf → OrdAt V' go gp gs n Pf Sf) ∧ (Tab V → Tab V'))
    (w : World) (hc : w.cell? ⟨Bn, 0, none⟩ = some (.pointer (some ⟨go, 0, none⟩))) (ho : OrdAt w go gp gs n Pf Sf) (ht : Tab w) :
    SeqD k Tryd.prog 11 #[.pointer (some ⟨Bn, 0, none⟩)] (fun x : Nat => #[.int .u64 (x : Int)]) (HxD n R) Kp (DoneD n R) (fun _ => True) w := by
  intro l J Jx W hW hJ hY h0
  have hc1 := cell_over hc hW
  have ho1 := ho.over hW
  have ht1 := ht.over hW
  have hn := hO.n64
  have hP : Hid (∀ a, a < n → Pf a < 18446744073709551616) := fun a ha => hO.pre_lt ha
  obtain ⟨M, hM⟩ : ∃ M : Nat, ∀ s, s < 18446744073709551616 → s < M := ⟨18446744073709551616, fun _ h => h⟩
  have hBn := cell_lt hc
  have hWs := hW.size
  have h3 := ht.2
  have ho0 := hide' ho
  clear hc ho ht
  refine callsIn_of_wp Tryd.func11 rfl trivial ?_ rfl
  simp only [Tryd.ntmps11, List.size_toArray, List.length_cons, List.length_nil, Nat.reduceAdd, Nat.reduceSub, Array.replicate_succ, Array.replicate_zero, List.push_toArray, List.append_toArray, List.nil_append, List.cons_append]
  gi_wp2
  have hB1 : Below W.heap.size W (W.alloc (.cells #[.int .u64 0] 44)) := (Below.refl _ W).alloc (Nat.le_refl _) _
  have bS := Boxed.new W 44 (.int .u64 0)
  have hJ1 : J [] (W.alloc (.cells #[.int .u64 0] 44)) := hJ _ _ _ h0 (World.grownBy_alloc W _ _)
  have ho2 := ho1.over hB1
  have ht2 := ht1.over hB1
  have hc2 := cell_over hc1 hB1
  generalize W.alloc (.cells #[.int .u64 0] 44) = W1 at *
  clear hc1 ho1 ht1 h0
  gi_loopg [4] M (fun g m wr => ∃ (pre : List Nat) (s : Nat) (b : Bool), m = .bool b ∧ J pre wr ∧ Boxed wr W.heap.size 44 (.int .u64 (s : Int)) ∧ wr.cell? ⟨Bn, 0, none⟩ = some (.pointer (some ⟨go, 0, none⟩)) ∧ OrdAt wr go gp gs n Pf Sf ∧ Tab wr ∧ Hid (DownSt n R M s g pre b))
  case atStart =>
    exact ⟨[], 0, true, rfl, hJ1, bS, hc2, ho2, ht2, ⟨⟨down_zero, rfl⟩, rfl⟩⟩
  case round =>
    clear hJ1 bS hc2 ho2 ht2
    obtain ⟨pre, s, b, rfl, hJp, bs, hcr, hor, htr, hst⟩ := hrel
    cases b with
    | false =>
      have hf := hide' hst.out.1
      clear hst
      gi_wp2
      go_end0
      exact ⟨⟨_, rfl⟩, .inl ⟨pre, hf.out, hJp⟩⟩
    | true =>
      have hx := hide' hst.out.1
      have hg := hide' hst.out.2
      have hsl := down_lt hn hx.out.1
      have hsn : Hid (∀ j ∈ nums s, j.val < n) := fun j hj => hx.out.1.1 j.val ((mem_nums s j).1 hj)
      have cs := bs.cell
      clear hst
      gi_wp2_with (refine ⟨trivial, fun h => absurd h (by decide), ?_⟩; gi_at_call 13; refine (callsIn_wide.2 (word64 _ _)).mono ?_; rintro e w2 ⟨rfl, hb2⟩; have bs2 := bxb bs hb2 bs.lt; obtain ⟨fn, tmps, assign, body, hy, hR⟩ := hY pre s w2 (hJ _ _ _ hJp ((grown_none hb2).but _)) bs2.lt hx.out)
      refine ⟨fun h => absurd h (by decide), hR.mono ?_⟩
      have hc2 := cell_over hcr hb2
      have ho2 := hor.over hb2
      have ht2 := htr.over hb2
      rintro e W3 (⟨rfl, hJ3, hk3, hr3⟩ | ⟨rfl, hJx3⟩)
      · obtain ⟨k1, k2, k3⟩ := hKp _ _ hk3
        have hc3 := k1.trans hc2
        have ho3 := k2 ho2
        have ht3 := k3 ht2
        have bs3 : Boxed W3 W.heap.size 44 (.int .u64 (s : Int)) := hr3.trans bs2
        have cs3 := bs3.cell
        have KF := hide' (afterO ho3 hn hP.out s hsl hsn.out ht3)
        clear hc2 ho2 ht2 bs2 bs hcr hor htr k1 k2 k3 hr3 hR cs
        gi_wp2_with (refine ⟨trivial, fun h => absurd h (by decide), ?_⟩; gi_at_call 12; refine (callsIn_wide.2 KF.out).mono ?_; rintro e w4 ⟨u, b, rfl, haft, hb4⟩; have bs4 := bxb bs3 hb4 bs3.lt; have cs4 := bs4.cell; have fs4 := bs4.frozen)
        have hnx := hO.aft_next hx.out.1 haft
        have hJ4 : J (pre ++ [s]) (w4.setCell ⟨W.heap.size, 0, none⟩ (.int .u64 (u : Int))) := hJ _ _ _ (hJ _ _ _ hJ3 ((grown_none hb4).but _)) (grownBy_setCell' w4 W.heap.size _)
        have hbS : Below W.heap.size w4 (w4.setCell ⟨W.heap.size, 0, none⟩ (.int .u64 (u : Int))) := (Below.refl _ w4).setCell (p := ⟨W.heap.size, 0, none⟩) (Nat.le_refl _) _
        have ho4 := hide' (ho0.out.low (ho3.over hb4) hWs hbS)
        have ht4 := hide' ((ht3.over hb4).below (by omega) hbS)
        have hc4 := hide' ((hbS.cell (p := ⟨Bn, 0, none⟩) (by show Bn < W.heap.size; omega)).trans (cell_over hc3 hb4))
        have bs5 := hide' (bs4.set (.int .u64 (u : Int)))
        have hsM := hM s hsl
        rcases hnx with ⟨rfl, hd, hlt, hmin⟩ | ⟨rfl, rfl, hall⟩
        · have huM := hM u (down_lt hn hd)
          have hF : Hid (HxD n R (pre ++ [s]) u) := ⟨hd, by rw [List.getLast?_concat]; exact ⟨hlt, hmin⟩⟩
          clear hmin hd haft KF ho3 ht3 hc3 bs3 bs4 hbS
          gi_wp2
          go_roundg (M - u)
          case measure => rw [hg.out]; omega
          case rel => exact ⟨pre ++ [s], u, true, rfl, hJ4, bs5.out, hc4.out, ho4.out, ht4.out, ⟨hF.out, rfl⟩⟩
        · have hF : Hid (DoneD n R (pre ++ [s])) := ⟨s, List.getLast?_concat, hall⟩
          clear hall haft KF ho3 ht3 hc3 bs3 bs4 hbS
          gi_wp2
          go_roundg 0
          case measure => rw [hg.out]; omega
          case rel => exact ⟨pre ++ [s], 0, false, rfl, hJ4, bs5.out, hc4.out, ho4.out, ht4.out, ⟨hF.out, rfl⟩⟩
      · gi_wp2
        refine bodyPost_ret (results_none rfl _ _ _) rfl ?_
        exact ⟨⟨_, rfl⟩, .inr ⟨pre ++ [s], trivial, hJx3⟩⟩
end Go.Proofs.YtmdeljldmehefaaDoor

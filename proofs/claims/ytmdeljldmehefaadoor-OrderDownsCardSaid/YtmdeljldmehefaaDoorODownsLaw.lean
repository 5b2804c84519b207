/- OrderDowns answers true. -/
import Derived.Test.YtmdeljldmehefaaDoorOBoth
import Derived.Test.YtmdeljldmehefaaDoorOExactM
import Derived.Test.YtmdeljldmehefaaDoorODownsS
namespace Go.Proofs.YtmdeljldmehefaaDoor
open Go.RowKit Go.Shelf
attribute [local go_sem] Oper.semAt_some
/-- Where the law stands behind those that came. -/
def atOf (pre : List Nat) : Nat := match pre.getLast? with
  | none => 0
  | some y => y + 1
theorem atOf_snoc (pre : List Nat) (x : Nat) : atOf (pre ++ [x]) = x + 1 := by unfold atOf; rw [List.getLast?_concat]
theorem HxD.at {n : Nat} {R : Nat → Nat → Bool} {pre : List Nat} {x : Nat} (h : HxD n R pre x) : atOf pre ≤ x ∧ ∀ t, isDown n R t → atOf pre ≤ t → x ≤ t := by
  obtain ⟨_, h2⟩ := h
  unfold atOf
  cases e : pre.getLast? with
  | none => rw [e] at h2; simp only at h2; subst h2; exact ⟨Nat.le_refl _, fun t _ _ => Nat.zero_le _⟩
  | some y => rw [e] at h2; simp only at h2; exact ⟨h2.1, fun t ht hy => h2.2 t ht hy⟩
/-- What the rounds keep. -/
def KpL (w1 : World) (V V' : World) : Prop := Below w1.heap.size V V' ∧ V'.heap[w1.heap.size + 1]? = V.heap[w1.heap.size + 1]?
theorem KpL.t {w1 X Y Z : World} (h : KpL w1 X Y) (k : KpL w1 Y Z) : KpL w1 X Z := ⟨h.1.trans k.1, k.2.trans h.2⟩
/-- Between two rounds. -/
structure DI (w1 : World) (pr : Addr) (go : Nat) (at' k : Nat) (W : World) : Prop where
  bl : Below w1.heap.size w1 W
  br : Boxed W w1.heap.size 28 (.pointer (some pr))
  bo : Boxed W (w1.heap.size + 1) 27 (.pointer (some ⟨go, 0, none⟩))
  ba : Boxed W (w1.heap.size + 2) 23 (.int .u64 (at' : Int))
  bn : Boxed W (w1.heap.size + 3) 3 (.int .i64 (k : Int))
theorem DI.grown {w1 : World} {pr : Addr} {go at' k : Nat} {X Y : World} {row : Option Nat} (h : DI w1 pr go at' k X) (hr : ∀ r, row = some r → w1.heap.size + 4 ≤ r) (hg : X.grownBy Y row) : DI w1 pr go at' k Y :=
  ⟨h.bl.grown hg h.bl.size (fun r e => by have := hr r e; omega), h.br.kept hg (by intro e; have := hr _ e.symm; omega), h.bo.kept hg (by intro e; have := hr _ e.symm; omega), h.ba.kept hg (by intro e; have := hr _ e.symm; omega), h.bn.kept hg (by intro e; have := hr _ e.symm; omega)⟩
/-- What one round may change: the two variables. -/
structure St (w1 W V : World) : Prop where
  sz : W.heap.size ≤ V.heap.size
  blk : ∀ k, k ≠ w1.heap.size + 2 → k ≠ w1.heap.size + 3 → k < W.heap.size → V.heap[k]? = W.heap[k]?
theorem St.refl (w1 W : World) : St w1 W W := ⟨Nat.le_refl _, fun _ _ _ _ => rfl⟩
theorem St.setA {w1 W V : World} (h : St w1 W V) (v : Value) : St w1 W (V.setCell ⟨w1.heap.size + 2, 0, none⟩ v) :=
  ⟨Nat.le_trans h.sz (grownBy_setCell' V _ v).size, fun k h1 h2 hk => (Below.heap_setCell V ⟨w1.heap.size + 2, 0, none⟩ v k h1).trans (h.blk k h1 h2 hk)⟩
theorem St.setN {w1 W V : World} (h : St w1 W V) (v : Value) : St w1 W (V.setCell ⟨w1.heap.size + 3, 0, none⟩ v) :=
  ⟨Nat.le_trans h.sz (grownBy_setCell' V _ v).size, fun k h1 h2 hk => (Below.heap_setCell V ⟨w1.heap.size + 3, 0, none⟩ v k h2).trans (h.blk k h1 h2 hk)⟩
section
variable {w1 : World} {pr : Addr} {go at' k : Nat} {V : World}
theorem DI.setA (h : DI w1 pr go at' k V) (c : Nat) : DI w1 pr go c k (V.setCell ⟨w1.heap.size + 2, 0, none⟩ (.int .u64 (c : Int))) :=
  ⟨h.bl.setCell (p := ⟨w1.heap.size + 2, 0, none⟩) (by show w1.heap.size ≤ w1.heap.size + 2; omega) _, h.br.other (by omega) _, h.bo.other (by omega) _, h.ba.set _, h.bn.other (by omega) _⟩
theorem DI.setN (h : DI w1 pr go at' k V) (c : Nat) : DI w1 pr go at' c (V.setCell ⟨w1.heap.size + 3, 0, none⟩ (.int .i64 (c : Int))) :=
  ⟨h.bl.setCell (p := ⟨w1.heap.size + 3, 0, none⟩) (by show w1.heap.size ≤ w1.heap.size + 3; omega) _, h.br.other (by omega) _, h.bo.other (by omega) _, h.ba.other (by omega) _, h.bn.set _⟩
theorem DI.kp {pr' : Addr} {go' at2 k' : Nat} {W : World} (h : DI w1 pr go at' k W) (h' : DI w1 pr' go' at2 k' V) (hs : St w1 W V) : KpL w1 W V :=
  ⟨⟨h'.bl.os.trans h.bl.os.symm, h'.bl.tape.trans h.bl.tape.symm, h'.bl.output.trans h.bl.output.symm, hs.sz, fun i hi => (h'.bl.block i hi).trans (h.bl.block i hi).symm⟩, hs.blk _ (by omega) (by omega) h.bo.lt⟩
end
set_option maxRecDepth 100000 in
set_option maxHeartbeats 4000000 in
theorem orderDowns_walk (n : Int) (v : Value) (L : List (Int × Int)) (A B s : Int) (ob : Option Addr) (lb cb : Nat) (mo : Int) (w : World) (hv : PairsAt w v L) (hn : L.length * 16 ≤ 140737488351232) (ht : Tab w) :
    CallsIn Fence.wide 9 Tryd.prog 3 #[.agg #[.int .i64 n, v, .int .i64 A, .int .i64 B, .int .u64 s, .slice ob lb cb, .int .u64 mo]] w fun e w' => e = .returned (.bool true) ∧ Below w.heap.size w w' := by
  obtain ⟨oa, cap, hve, _⟩ := id hv
  subst hve
  have hnil := eql_fnD
  have hB0 : Below w.heap.size w ((w.alloc (.cells #[.int .i64 n, .slice oa L.length cap, .int .i64 A, .int .i64 B, .int .u64 s, .slice ob lb cb, .int .u64 mo] 26)).alloc (.cells #[.bool false] 4)) := ((Below.refl _ w).alloc (Nat.le_refl _) _).alloc (by simp) _
  have bF := Boxed.new (w.alloc (.cells #[.int .i64 n, .slice oa L.length cap, .int .i64 A, .int .i64 B, .int .u64 s, .slice ob lb cb, .int .u64 mo] 26)) 4 (.bool false)
  have KB := hide' (bothP n _ L A B s ob lb cb mo _ (hv.over hB0) hn (ht.over hB0))
  refine callsIn_of_wp_marks Tryd.func3 rfl trivial (wpIn_wide.2 ?_) rfl
  simp only [Tryd.ntmps3, List.size_toArray, List.length_cons, List.length_nil, Nat.reduceAdd, Nat.reduceSub, Array.replicate_succ, Array.replicate_zero, List.push_toArray, List.append_toArray, List.nil_append, List.cons_append]
  rw [World.size_alloc] at bF
  go_wp2_with fail
  refine KB.out.mono ?_
  rintro e w1 ⟨hb1, po, pr, rfl, hor⟩
  have B1 := hB0.trans (hb1.mono hB0.size)
  have bF1 := bxb bF hb1 bF.lt
  clear KB bF
  rcases hor with ⟨rfl, rfl⟩ | ⟨m, go, gp, gs, Pf, Sf, gr, ov, rr, w0, rfl, hok, rfl, rfl, ho, hO, hM⟩
  · have bF2 := bF1.alloc (.cells #[.pointer none] 28)
    have cF := bF2.cell
    have fF := bF2.frozen
    go_wp2
    have bE := bF2.set (.bool true)
    have cE := bE.cell
    have hBE : Below w.heap.size w ((w1.alloc (.cells #[.pointer none] 28)).setCell ⟨w.heap.size + 1, 0, none⟩ (.bool true)) := (B1.alloc B1.size _).setCell (p := ⟨w.heap.size + 1, 0, none⟩) (by show w.heap.size ≤ w.heap.size + 1; omega) _
    exact ⟨.bool true, by simp [results, Tryd.results3, go_sem, cE], rfl, hBE⟩
  · have hm := hO.n64
    have hin := hO.inn
    have hq := bF1.lt
    have t1 := ht.over B1
    have hRef : Hid (∀ (c : Nat) V, c < 18446744073709551616 → Below w1.heap.size w1 V → Calls Tryd.prog 6 #[.pointer (some ⟨gr, 0, none⟩), .int .u64 (c : Int)] V fun e V' => e = .returned (.bool (dnB m Pf c)) ∧ V' = V) := fun c V hc hV => by
      have := refDown (hM.over hV) hm hin (fun a ha => hO.accPn ha) c hc
      rwa [hO.accD hc] at this
    have KT : Hid (∀ (c : Nat) V, isDown m (ordL m L) c → Below w1.heap.size w1 V → Calls Tryd.prog 6 #[.pointer (some ⟨gr, 0, none⟩), .int .u64 (c : Int)] V fun e V' => e = .returned (.bool true) ∧ V' = V) := fun c V hc hV => by
      have := hRef.out c V (down_lt hm hc) hV
      rwa [(hO.dn_iff (down_lt hm hc)).2 hc] at this
    have KF : Hid (∀ (c : Nat) V, c < 18446744073709551616 → ¬ isDown m (ordL m L) c → Below w1.heap.size w1 V → Calls Tryd.prog 6 #[.pointer (some ⟨gr, 0, none⟩), .int .u64 (c : Int)] V fun e V' => e = .returned (.bool false) ∧ V' = V) := fun c V hc hd hV => by
      have := hRef.out c V hc hV
      rwa [show dnB m Pf c = false by cases e : dnB m Pf c with | false => rfl | true => exact absurd ((hO.dn_iff hc).1 e) hd] at this
    have hsq : Hid (∀ wB : World, Below w1.heap.size w1 wB → wB.cell? ⟨w1.heap.size + 1, 0, none⟩ = some (.pointer (some ⟨go, 0, none⟩)) → SeqD 8 Tryd.prog 11 #[.pointer (some ⟨w1.heap.size + 1, 0, none⟩)] (fun x : Nat => #[.int .u64 (x : Int)]) (HxD m (ordL m L)) (KpL w1) (DoneD m (ordL m L)) (fun _ => True) wB) := fun wB hB hc =>
      downs_seq 8 (w1.heap.size + 1) (KpL w1) hO (fun V V' hk => ⟨World.cell?_of_block (w := V) hk.2, fun h => ho.low h (Nat.le_refl _) hk.1, fun h => h.below t1.2 hk.1⟩) wB hc (ho.over hB) (t1.over hB)
    clear hRef
    generalize ordL m L = R at *
    have hO' := hide' hO
    clear hO ho hM hin hok hv ht
    go_wp2_with (go_at_call 5; refine (downsFn _ _).mono ?_; rintro e w' ⟨rfl, rfl⟩)
    have x0 := (((Boxed.new w1 28 (.pointer (some ⟨gr, 0, none⟩))).alloc (.cells #[.pointer (some ⟨go, 0, none⟩)] 27)).alloc (.cells #[.int .u64 0] 23)).alloc (.cells #[.int .i64 0] 3)
    have x1 := ((Boxed.new (w1.alloc (.cells #[.pointer (some ⟨gr, 0, none⟩)] 28)) 27 (.pointer (some ⟨go, 0, none⟩))).alloc (.cells #[.int .u64 0] 23)).alloc (.cells #[.int .i64 0] 3)
    have x2 := (Boxed.new ((w1.alloc (.cells #[.pointer (some ⟨gr, 0, none⟩)] 28)).alloc (.cells #[.pointer (some ⟨go, 0, none⟩)] 27)) 23 (.int .u64 0)).alloc (.cells #[.int .i64 0] 3)
    have x3 := Boxed.new (((w1.alloc (.cells #[.pointer (some ⟨gr, 0, none⟩)] 28)).alloc (.cells #[.pointer (some ⟨go, 0, none⟩)] 27)).alloc (.cells #[.int .u64 0] 23)) 3 (.int .i64 0)
    simp only [World.size_alloc] at x1 x2 x3
    have hbB : Below w1.heap.size w1 ((((w1.alloc (.cells #[.pointer (some ⟨gr, 0, none⟩)] 28)).alloc (.cells #[.pointer (some ⟨go, 0, none⟩)] 27)).alloc (.cells #[.int .u64 0] 23)).alloc (.cells #[.int .i64 0] 3)) := ((((Below.refl _ w1).alloc (Nat.le_refl _) _).alloc (by simp) _).alloc (by simp; omega) _).alloc (by simp; omega) _
    have hsz : w1.heap.size + 4 ≤ ((((w1.alloc (.cells #[.pointer (some ⟨gr, 0, none⟩)] 28)).alloc (.cells #[.pointer (some ⟨go, 0, none⟩)] 27)).alloc (.cells #[.int .u64 0] 23)).alloc (.cells #[.int .i64 0] 3)).heap.size := by simp
    have hDI : DI w1 ⟨gr, 0, none⟩ go 0 0 ((((w1.alloc (.cells #[.pointer (some ⟨gr, 0, none⟩)] 28)).alloc (.cells #[.pointer (some ⟨go, 0, none⟩)] 27)).alloc (.cells #[.int .u64 0] 23)).alloc (.cells #[.int .i64 0] 3)) := ⟨hbB, x0, x1, x2, x3⟩
    generalize ((((w1.alloc (.cells #[.pointer (some ⟨gr, 0, none⟩)] 28)).alloc (.cells #[.pointer (some ⟨go, 0, none⟩)] 27)).alloc (.cells #[.int .u64 0] 23)).alloc (.cells #[.int .i64 0] 3)) = wB at *
    have hseq := hide' (hsq.out wB hbB x1.cell)
    clear x0 x1 x2 x3 hsq hbB
    refine (wpIn_wide (n := 9)).1 ?_
    refine rangeD (gf := 11) (lb := #[.pointer (some ⟨w1.heap.size + 1, 0, none⟩)]) rfl (enters_of Tryd.func11 (by kernel_rfl) rfl) hseq.out (fun _ => rfl) (fun _ _ _ => KpL.t)
      (fun V l o o' hl h1 h2 h3 => ⟨belowK_b (w := wB) (by omega) V l o o' hl h1 h2 h3, World.putObj_heap_other (by omega)⟩)
      (fun pre W => DI w1 ⟨gr, 0, none⟩ go (atOf pre) pre.length W ∧ Hid (pre.length < 500 ∧ atOf pre < 18446744073709551616))
      (fun c _ W => c = .ret ∧ Below w.heap.size w W ∧ Boxed W (w.heap.size + 1) 4 (.bool true))
      (fun s X Y row hr h hg => ⟨h.1.grown (fun r e => by have := (hr r e).1; omega) hg, h.2⟩)
      (fun c s X Y row hr h hg => ⟨h.1, h.2.1.grown hg h.2.1.size (fun r e => by have := (hr r e).1; have := B1.size; omega), h.2.2.kept hg (by intro e; have := (hr _ e.symm).1; omega)⟩)
      ⟨hDI, by show _ ∧ _; exact ⟨by decide, by decide⟩⟩ ?a1 ?assign ?body ?done ?stop
    case assign =>
      intro l x W K hK
      gi_wp2
      exact hK
    case body =>
      rintro l pre x W hsW ⟨hI, hpl⟩ hHx
      obtain ⟨ha1, ha2⟩ := hHx.at
      have hxd := hide' hHx.1
      have hxl := down_lt hm hHx.1
      have ha2' := hide' ha2
      have hp5 := hpl.out.1
      have hfin : Hid ((pre ++ [x]).length = pre.length + 1 ∧ atOf (pre ++ [x]) = x + 1) := ⟨by simp, atOf_snoc pre x⟩
      have bFW := hide' (bxb bF1 hI.bl hq)
      clear hHx ha2 hseq hDI hpl
      generalize pre.length = k at *
      generalize atOf pre = a0 at *
      have hI' := hide' hI
      clear hI
      gi_wp2
      gi_loopg [] (x - a0 + 1) (fun g wr => ∃ c : Nat, DI w1 ⟨gr, 0, none⟩ go c k wr ∧ St w1 W wr ∧ a0 ≤ c ∧ c ≤ x ∧ Hid (g = x - c + 1))
      case atStart => exact ⟨a0, hI'.out, St.refl _ _, Nat.le_refl _, ha1, rfl⟩
      case round =>
        obtain ⟨c, hc, hst, hc1, hc2, hg⟩ := hrel
        have cr := hc.br.cell
        have ca := hc.ba.cell
        have fa := hc.ba.frozen
        have cn := hc.bn.cell
        have fn' := hc.bn.frozen
        have hbl := hc.bl
        have hc' := hide' hc
        have hst' := hide' hst
        clear hc hst
        by_cases hgo : c < x ∧ c < 4096
        · obtain ⟨h1, h2⟩ := hgo
          have hnd : Hid (¬ isDown m R c) := fun h => by have := ha2'.out c h hc1; omega
          have KD := hide' (KF.out c _ (by omega) hnd.out hbl)
          gi_wp2_with (refine ⟨trivial, ?_⟩; gi_at_call 6; refine (CallsIn.inRound l (callsIn_wide.2 KD.out)).mono ?_; rintro e w2 ⟨rfl, rfl⟩)
          go_roundg (x - (c + 1) + 1)
          case measure => rw [hg.out]; omega
          case rel => exact ⟨c + 1, hc'.out.setA (c + 1), hst'.out.setA _, by omega, by omega, rfl⟩
        · have KD := hide' (KT.out x _ hxd.out hbl)
          have bFr := hide' (bxb bF1 hbl hq)
          have hkc : k = 0 ∨ (0 < k ∧ k + 1 < 500) ∨ k = 499 := by omega
          have hxc : x = 18446744073709551615 ∨ x < 18446744073709551615 := by omega
          have hcc : (c = x ∧ x < 4096) ∨ (c = x ∧ 4096 ≤ x) ∨ (c < x ∧ 4096 ≤ c) := by omega
          have FIN : Hid (x + 1 < 18446744073709551616 → k + 1 < 500 → (∀ i, wB.heap.size ≤ i → i ≤ wB.heap.size + 2 → ((wr.setCell ⟨w1.heap.size + 1 + 1, 0, none⟩ (.int .u64 ((x + 1 : Nat) : Int))).setCell ⟨w1.heap.size + 1 + 1 + 1, 0, none⟩ (.int .i64 ((k + 1 : Nat) : Int))).heap[i]? = W.heap[i]?) ∧ KpL w1 W ((wr.setCell ⟨w1.heap.size + 1 + 1, 0, none⟩ (.int .u64 ((x + 1 : Nat) : Int))).setCell ⟨w1.heap.size + 1 + 1 + 1, 0, none⟩ (.int .i64 ((k + 1 : Nat) : Int))) ∧ DI w1 ⟨gr, 0, none⟩ go (atOf (pre ++ [x])) (pre ++ [x]).length ((wr.setCell ⟨w1.heap.size + 1 + 1, 0, none⟩ (.int .u64 ((x + 1 : Nat) : Int))).setCell ⟨w1.heap.size + 1 + 1 + 1, 0, none⟩ (.int .i64 ((k + 1 : Nat) : Int))) ∧ Hid ((pre ++ [x]).length < 500 ∧ atOf (pre ++ [x]) < 18446744073709551616)) := fun h1 h2 => by
            have hs2 := (hst'.out.setA (.int .u64 ((x + 1 : Nat) : Int))).setN (.int .i64 ((k + 1 : Nat) : Int))
            have hd2 := (hc'.out.setA (x + 1)).setN (k + 1)
            refine ⟨fun i h3 h4 => hs2.blk i (by omega) (by omega) (by omega), hI'.out.kp hd2 hs2, ?_, ?_⟩
            · rw [hfin.out.1, hfin.out.2]; exact hd2
            · show _ ∧ _; rw [hfin.out.1, hfin.out.2]; exact ⟨h2, h1⟩
          have RET : Hid (∀ u t : Value, (∀ i, wB.heap.size ≤ i → i ≤ wB.heap.size + 2 → (((wr.setCell ⟨w1.heap.size + 1 + 1, 0, none⟩ u).setCell ⟨w1.heap.size + 1 + 1 + 1, 0, none⟩ t).setCell ⟨w.heap.size + 1, 0, none⟩ (.bool true)).heap[i]? = W.heap[i]?) ∧ Below w.heap.size w (((wr.setCell ⟨w1.heap.size + 1 + 1, 0, none⟩ u).setCell ⟨w1.heap.size + 1 + 1 + 1, 0, none⟩ t).setCell ⟨w.heap.size + 1, 0, none⟩ (.bool true)) ∧ Boxed (((wr.setCell ⟨w1.heap.size + 1 + 1, 0, none⟩ u).setCell ⟨w1.heap.size + 1 + 1 + 1, 0, none⟩ t).setCell ⟨w.heap.size + 1, 0, none⟩ (.bool true)) (w.heap.size + 1) 4 (.bool true)) := fun u t => by
            have hs2 := (hst'.out.setA u).setN t
            refine ⟨fun i h3 h4 => (Below.heap_setCell _ ⟨w.heap.size + 1, 0, none⟩ (.bool true) i (by show i ≠ w.heap.size + 1; omega)).trans (hs2.blk i (by omega) (by omega) (by omega)), ?_, ?_⟩
            · exact (((B1.trans (hbl.mono B1.size)).setCell (p := ⟨w1.heap.size + 1 + 1, 0, none⟩) (by show w.heap.size ≤ w1.heap.size + 1 + 1; omega) u).setCell (p := ⟨w1.heap.size + 1 + 1 + 1, 0, none⟩) (by show w.heap.size ≤ w1.heap.size + 1 + 1 + 1; omega) t).setCell (p := ⟨w.heap.size + 1, 0, none⟩) (by show w.heap.size ≤ w.heap.size + 1; omega) _
            · exact ((bFr.out.other (by omega) u).other (by omega) t).set _
          have cF : ∀ u t : Value, ((wr.setCell ⟨w1.heap.size + 1 + 1, 0, none⟩ u).setCell ⟨w1.heap.size + 1 + 1 + 1, 0, none⟩ t).cell? ⟨w.heap.size + 1, 0, none⟩ = some (.bool false) := fun u t => ((bFr.out.other (by omega) u).other (by omega) t).cell
          have fF : ∀ u t : Value, ((wr.setCell ⟨w1.heap.size + 1 + 1, 0, none⟩ u).setCell ⟨w1.heap.size + 1 + 1 + 1, 0, none⟩ t).frozen? ⟨w.heap.size + 1, 0, none⟩ = false := fun u t => ((bFr.out.other (by omega) u).other (by omega) t).frozen
          clear hgo KT KF hg hp5
          rcases hcc with ⟨rfl, h1⟩ | ⟨rfl, h1⟩ | ⟨h1, h2⟩
          · rcases hkc with h0 | ⟨h0, h5⟩ | h5
            · subst h0
              gi_wp2_with (refine ⟨trivial, ?_⟩; gi_at_call 6; refine (CallsIn.inRound l (callsIn_wide.2 KD.out)).mono ?_; rintro e w2 ⟨rfl, rfl⟩)
              refine ⟨trivial, ?_⟩
              gi_wp2_with (refine ⟨trivial, ?_⟩; gi_at_call 6; refine (CallsIn.inRound l (callsIn_wide.2 KD.out)).mono ?_; rintro e w2 ⟨rfl, rfl⟩)
              refine ⟨trivial, ?_⟩
              gi_wp2_with (refine ⟨trivial, ?_⟩; gi_at_call 6; refine (CallsIn.inRound l (callsIn_wide.2 KD.out)).mono ?_; rintro e w2 ⟨rfl, rfl⟩)
              exact FIN.out (by omega) (by omega)
            · have hk5 : ((k : Int) + 1 == 500) = false := by simp; omega
              gi_wp2_with (refine ⟨trivial, ?_⟩; gi_at_call 6; refine (CallsIn.inRound l (callsIn_wide.2 KD.out)).mono ?_; rintro e w2 ⟨rfl, rfl⟩)
              refine ⟨trivial, ?_⟩
              gi_wp2_with (refine ⟨trivial, ?_⟩; gi_at_call 6; refine (CallsIn.inRound l (callsIn_wide.2 KD.out)).mono ?_; rintro e w2 ⟨rfl, rfl⟩)
              refine ⟨trivial, ?_⟩
              gi_wp2_with (refine ⟨trivial, ?_⟩; gi_at_call 6; refine (CallsIn.inRound l (callsIn_wide.2 KD.out)).mono ?_; rintro e w2 ⟨rfl, rfl⟩)
              exact FIN.out (by omega) (by omega)
            · subst h5
              gi_wp2_with (refine ⟨trivial, ?_⟩; gi_at_call 6; refine (CallsIn.inRound l (callsIn_wide.2 KD.out)).mono ?_; rintro e w2 ⟨rfl, rfl⟩)
              refine ⟨trivial, ?_⟩
              gi_wp2_with (refine ⟨trivial, ?_⟩; gi_at_call 6; refine (CallsIn.inRound l (callsIn_wide.2 KD.out)).mono ?_; rintro e w2 ⟨rfl, rfl⟩)
              refine ⟨trivial, ?_⟩
              gi_wp2_with (refine ⟨trivial, ?_⟩; gi_at_call 6; refine (CallsIn.inRound l (callsIn_wide.2 KD.out)).mono ?_; rintro e w2 ⟨rfl, rfl⟩)
              exact ⟨(RET.out _ _).1, rfl, (RET.out _ _).2⟩
          · rcases hkc with h0 | ⟨h0, h5⟩ | h5
            · subst h0
              rcases hxc with hx | hx
              · subst hx
                gi_wp2_with (refine ⟨trivial, ?_⟩; gi_at_call 6; refine (CallsIn.inRound l (callsIn_wide.2 KD.out)).mono ?_; rintro e w2 ⟨rfl, rfl⟩)
                refine ⟨trivial, ?_⟩
                gi_wp2_with (refine ⟨trivial, ?_⟩; gi_at_call 6; refine (CallsIn.inRound l (callsIn_wide.2 KD.out)).mono ?_; rintro e w2 ⟨rfl, rfl⟩)
                refine ⟨trivial, ?_⟩
                gi_wp2_with (refine ⟨trivial, ?_⟩; gi_at_call 6; refine (CallsIn.inRound l (callsIn_wide.2 KD.out)).mono ?_; rintro e w2 ⟨rfl, rfl⟩)
                exact ⟨(RET.out _ _).1, rfl, (RET.out _ _).2⟩
              · gi_wp2_with (refine ⟨trivial, ?_⟩; gi_at_call 6; refine (CallsIn.inRound l (callsIn_wide.2 KD.out)).mono ?_; rintro e w2 ⟨rfl, rfl⟩)
                refine ⟨trivial, ?_⟩
                gi_wp2_with (refine ⟨trivial, ?_⟩; gi_at_call 6; refine (CallsIn.inRound l (callsIn_wide.2 KD.out)).mono ?_; rintro e w2 ⟨rfl, rfl⟩)
                refine ⟨trivial, ?_⟩
                gi_wp2_with (refine ⟨trivial, ?_⟩; gi_at_call 6; refine (CallsIn.inRound l (callsIn_wide.2 KD.out)).mono ?_; rintro e w2 ⟨rfl, rfl⟩)
                exact FIN.out (by omega) (by omega)
            · have hk5 : ((k : Int) + 1 == 500) = false := by simp; omega
              rcases hxc with hx | hx
              · subst hx
                gi_wp2_with (refine ⟨trivial, ?_⟩; gi_at_call 6; refine (CallsIn.inRound l (callsIn_wide.2 KD.out)).mono ?_; rintro e w2 ⟨rfl, rfl⟩)
                refine ⟨trivial, ?_⟩
                gi_wp2_with (refine ⟨trivial, ?_⟩; gi_at_call 6; refine (CallsIn.inRound l (callsIn_wide.2 KD.out)).mono ?_; rintro e w2 ⟨rfl, rfl⟩)
                refine ⟨trivial, ?_⟩
                gi_wp2_with (refine ⟨trivial, ?_⟩; gi_at_call 6; refine (CallsIn.inRound l (callsIn_wide.2 KD.out)).mono ?_; rintro e w2 ⟨rfl, rfl⟩)
                exact ⟨(RET.out _ _).1, rfl, (RET.out _ _).2⟩
              · gi_wp2_with (refine ⟨trivial, ?_⟩; gi_at_call 6; refine (CallsIn.inRound l (callsIn_wide.2 KD.out)).mono ?_; rintro e w2 ⟨rfl, rfl⟩)
                refine ⟨trivial, ?_⟩
                gi_wp2_with (refine ⟨trivial, ?_⟩; gi_at_call 6; refine (CallsIn.inRound l (callsIn_wide.2 KD.out)).mono ?_; rintro e w2 ⟨rfl, rfl⟩)
                refine ⟨trivial, ?_⟩
                gi_wp2_with (refine ⟨trivial, ?_⟩; gi_at_call 6; refine (CallsIn.inRound l (callsIn_wide.2 KD.out)).mono ?_; rintro e w2 ⟨rfl, rfl⟩)
                exact FIN.out (by omega) (by omega)
            · subst h5
              gi_wp2_with (refine ⟨trivial, ?_⟩; gi_at_call 6; refine (CallsIn.inRound l (callsIn_wide.2 KD.out)).mono ?_; rintro e w2 ⟨rfl, rfl⟩)
              refine ⟨trivial, ?_⟩
              gi_wp2_with (refine ⟨trivial, ?_⟩; gi_at_call 6; refine (CallsIn.inRound l (callsIn_wide.2 KD.out)).mono ?_; rintro e w2 ⟨rfl, rfl⟩)
              refine ⟨trivial, ?_⟩
              gi_wp2_with (refine ⟨trivial, ?_⟩; gi_at_call 6; refine (CallsIn.inRound l (callsIn_wide.2 KD.out)).mono ?_; rintro e w2 ⟨rfl, rfl⟩)
              exact ⟨(RET.out _ _).1, rfl, (RET.out _ _).2⟩
          · have i1 : ¬ ((x : Int) < 4096) := by omega
            have i2 : ¬ ((c : Int) < 4096) := by omega
            have i3 : (c : Int) < (x : Int) := by omega
            have q3 : Hid (decide ((x : Int) < 4096) = false) := by show decide ((x : Int) < 4096) = false; simp; omega
            have q4 : Hid (decide ((c : Int) < 4096) = false) := by show decide ((c : Int) < 4096) = false; simp; omega
            have q5 : Hid ((c : Int) ≤ (x : Int)) := by show (c : Int) ≤ (x : Int); omega
            clear h1 h2 hc1 hc2 ha1
            rcases hkc with h0 | ⟨h0, h5⟩ | h5
            · subst h0
              rcases hxc with hx | hx
              · have hwx : Hid (IntKind.u64.wrap ((x : Int) + 1) = 0)   := by show IntKind.u64.wrap ((x : Int) + 1) = 0; rw [show (x : Int) = 18446744073709551615 by omega]; decide
                have hxe : Hid (((x : Int) == 18446744073709551615) = true) := by show ((x : Int) == 18446744073709551615) = true; rw [show (x : Int) = 18446744073709551615 by omega]; rfl
                clear hx
                gi_wp2_with (refine ⟨trivial, ?_⟩; gi_at_call 6; refine (CallsIn.inRound l (callsIn_wide.2 KD.out)).mono ?_; rintro e w2 ⟨rfl, rfl⟩)
                refine ⟨trivial, ?_⟩
                have q3' := q3.out
                have q4' := q4.out
                have q5' := q5.out
                clear i1 i2 q3 q4 q5
                gi_wp2_with (refine ⟨trivial, ?_⟩; gi_at_call 6; refine (CallsIn.inRound l (callsIn_wide.2 KD.out)).mono ?_; rintro e w2 ⟨rfl, rfl⟩)
                refine ⟨trivial, ?_⟩
                have hwx' := hwx.out
                have hxe' := hxe.out
                clear hwx hxe
                gi_wp2_with (refine ⟨trivial, ?_⟩; gi_at_call 6; refine (CallsIn.inRound l (callsIn_wide.2 KD.out)).mono ?_; rintro e w2 ⟨rfl, rfl⟩)
                exact ⟨(RET.out _ _).1, rfl, (RET.out _ _).2⟩
              · gi_wp2_with (refine ⟨trivial, ?_⟩; gi_at_call 6; refine (CallsIn.inRound l (callsIn_wide.2 KD.out)).mono ?_; rintro e w2 ⟨rfl, rfl⟩)
                refine ⟨trivial, ?_⟩
                have q3' := q3.out
                have q4' := q4.out
                have q5' := q5.out
                clear i1 i2 q3 q4 q5
                gi_wp2_with (refine ⟨trivial, ?_⟩; gi_at_call 6; refine (CallsIn.inRound l (callsIn_wide.2 KD.out)).mono ?_; rintro e w2 ⟨rfl, rfl⟩)
                refine ⟨trivial, ?_⟩
                gi_wp2_with (refine ⟨trivial, ?_⟩; gi_at_call 6; refine (CallsIn.inRound l (callsIn_wide.2 KD.out)).mono ?_; rintro e w2 ⟨rfl, rfl⟩)
                exact FIN.out (by omega) (by omega)
            · have hk5 : ((k : Int) + 1 == 500) = false := by simp; omega
              rcases hxc with hx | hx
              · have hwx : Hid (IntKind.u64.wrap ((x : Int) + 1) = 0)   := by show IntKind.u64.wrap ((x : Int) + 1) = 0; rw [show (x : Int) = 18446744073709551615 by omega]; decide
                have hxe : Hid (((x : Int) == 18446744073709551615) = true) := by show ((x : Int) == 18446744073709551615) = true; rw [show (x : Int) = 18446744073709551615 by omega]; rfl
                clear hx
                gi_wp2_with (refine ⟨trivial, ?_⟩; gi_at_call 6; refine (CallsIn.inRound l (callsIn_wide.2 KD.out)).mono ?_; rintro e w2 ⟨rfl, rfl⟩)
                refine ⟨trivial, ?_⟩
                have q3' := q3.out
                have q4' := q4.out
                have q5' := q5.out
                clear i1 i2 q3 q4 q5
                gi_wp2_with (refine ⟨trivial, ?_⟩; gi_at_call 6; refine (CallsIn.inRound l (callsIn_wide.2 KD.out)).mono ?_; rintro e w2 ⟨rfl, rfl⟩)
                refine ⟨trivial, ?_⟩
                have hwx' := hwx.out
                have hxe' := hxe.out
                clear hwx hxe
                gi_wp2_with (refine ⟨trivial, ?_⟩; gi_at_call 6; refine (CallsIn.inRound l (callsIn_wide.2 KD.out)).mono ?_; rintro e w2 ⟨rfl, rfl⟩)
                exact ⟨(RET.out _ _).1, rfl, (RET.out _ _).2⟩
              · gi_wp2_with (refine ⟨trivial, ?_⟩; gi_at_call 6; refine (CallsIn.inRound l (callsIn_wide.2 KD.out)).mono ?_; rintro e w2 ⟨rfl, rfl⟩)
                refine ⟨trivial, ?_⟩
                have q3' := q3.out
                have q4' := q4.out
                have q5' := q5.out
                clear i1 i2 q3 q4 q5
                gi_wp2_with (refine ⟨trivial, ?_⟩; gi_at_call 6; refine (CallsIn.inRound l (callsIn_wide.2 KD.out)).mono ?_; rintro e w2 ⟨rfl, rfl⟩)
                refine ⟨trivial, ?_⟩
                gi_wp2_with (refine ⟨trivial, ?_⟩; gi_at_call 6; refine (CallsIn.inRound l (callsIn_wide.2 KD.out)).mono ?_; rintro e w2 ⟨rfl, rfl⟩)
                exact FIN.out (by omega) (by omega)
            · subst h5
              gi_wp2_with (refine ⟨trivial, ?_⟩; gi_at_call 6; refine (CallsIn.inRound l (callsIn_wide.2 KD.out)).mono ?_; rintro e w2 ⟨rfl, rfl⟩)
              refine ⟨trivial, ?_⟩
              have q3' := q3.out
              have q4' := q4.out
              have q5' := q5.out
              clear i1 i2 q3 q4 q5
              gi_wp2_with (refine ⟨trivial, ?_⟩; gi_at_call 6; refine (CallsIn.inRound l (callsIn_wide.2 KD.out)).mono ?_; rintro e w2 ⟨rfl, rfl⟩)
              refine ⟨trivial, ?_⟩
              gi_wp2_with (refine ⟨trivial, ?_⟩; gi_at_call 6; refine (CallsIn.inRound l (callsIn_wide.2 KD.out)).mono ?_; rintro e w2 ⟨rfl, rfl⟩)
              exact ⟨(RET.out _ _).1, rfl, (RET.out _ _).2⟩
    case done =>
      rintro D xs W hD ⟨y, hy, hall⟩ ⟨hI, hpl⟩ hK
      have hat : atOf xs = y + 1 := by unfold atOf; rw [hy]
      have hk0 : 0 < xs.length := by
        cases xs with
        | nil => cases hy
        | cons a t => simp
      have hp5 := hpl.out.1
      have ha5 := hpl.out.2
      rw [hat] at hI ha5
      have hall' := hide' hall
      clear hall hpl hat hy hseq hDI KT
      generalize xs.length = k at *
      have hI' := hide' hI
      clear hI
      go_wp2
      go_loopg [] (4096 - (y + 1)) (fun g wr => ∃ c : Nat, DI w1 ⟨gr, 0, none⟩ go c k wr ∧ St w1 W wr ∧ y < c ∧ c < 18446744073709551616 ∧ Hid (g = 4096 - c))
      case atStart => exact ⟨y + 1, hI'.out, St.refl _ _, by omega, ha5, rfl⟩
      case round =>
        obtain ⟨c, hc, hst, hc1, hc2, hg⟩ := hrel
        have cr := hc.br.cell
        have ca := hc.ba.cell
        have fa := hc.ba.frozen
        have cn := hc.bn.cell
        have hbl := hc.bl
        have bFr := bxb bF1 hbl hq
        have cF := bFr.cell
        have fF := bFr.frozen
        have hc' := hide' hc
        have hst' := hide' hst
        clear hc hst
        by_cases h4 : c < 4096
        · have hnd : Hid (¬ isDown m R c) := fun h => by have := hall'.out c h; omega
          have KD := hide' (KF.out c _ hc2 hnd.out hbl)
          go_wp2_with (go_at_call 6; refine KD.out.mono ?_; rintro e w2 ⟨rfl, rfl⟩)
          go_roundg (4096 - (c + 1))
          case measure => rw [hg.out]; omega
          case rel => exact ⟨c + 1, hc'.out.setA (c + 1), hst'.out.setA _, by omega, by omega, rfl⟩
        · have hKr : wr.heap[D]? = some (.deferred (some [])) := (hst'.out.blk D (by omega) (by omega) (Array.getElem?_eq_some_iff.1 hK).1).trans hK
          have hKr' := hide' hKr
          have g1 : (0 : Int) < (k : Int) := by omega
          have g2 : (1 : Int) ≤ (c : Int) := by omega
          clear hKr hK
          go_wp2
          have hK1 := (KeepsOthers.setCell wr ⟨w.heap.size + 1, 0, none⟩ (.bool true)).same D _ hKr'.out rfl
          have bE := (bFr.set (.bool true)).kept (grownBy_putObj' _ D (.deferred none)) (by intro e; cases e; omega)
          have cE := bE.cell
          have hBE : Below w.heap.size w (wr.setCell ⟨w.heap.size + 1, 0, none⟩ (.bool true)) := (B1.trans (hbl.mono B1.size)).setCell (p := ⟨w.heap.size + 1, 0, none⟩) (by show w.heap.size ≤ w.heap.size + 1; omega) _
          have hw1s := B1.size
          refine ⟨by simp, .inl ⟨_, _, rfl, run_takeDeferred hK1, ?_⟩⟩
          exact ⟨.bool true, by simp [results, Tryd.results3, go_sem, cE], rfl, hBE.trans (belowK_b (w := w) (Nat.le_refl _) _ D _ _ (by omega) hK1 rfl rfl)⟩
    case stop =>
      rintro D c pre W hD _ ⟨rfl, hB, bT⟩ hK
      have hw1s := B1.size
      gi_wp2
      have bE := bT.kept (grownBy_putObj' _ D (.deferred none)) (by intro e; cases e; omega)
      have cE := bE.cell
      refine ⟨by simp, .inl ⟨_, _, rfl, run_takeDeferred hK, ?_⟩⟩
      exact ⟨.bool true, by simp [results, Tryd.results3, go_sem, cE], rfl, hB.trans (belowK_b (w := w) (Nat.le_refl _) _ D _ _ (by omega) hK rfl rfl)⟩
end Go.Proofs.YtmdeljldmehefaaDoor

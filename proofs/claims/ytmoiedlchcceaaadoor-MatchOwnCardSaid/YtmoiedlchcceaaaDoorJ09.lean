/- Rows of words handed in, cut and copied; what the document's runs tell. -/
import Derived.Test.YtmoiedlchcceaaaDoorJ07
import Derived.Test.YtmoiedlchcceaaaDoorJ08
namespace Go.Proofs.YtmoiedlchcceaaaDoor.M
open Go.RowKit Go.Shelf
/-- The places of the first rows. -/
def plL (pl : Nat → Nat) (n : Nat) : List Int := (List.range n).map fun r => (pl r : Int)
theorem plL_len (pl : Nat → Nat) (n : Nat) : (plL pl n).length = n := by simp [plL]
theorem plL_at {pl : Nat → Nat} {n i : Nat} {z : Int} (h : (plL pl n)[i]? = some z) : i < n ∧ z = (pl i : Int) := by
  have hi := (List.getElem?_eq_some_iff.1 h).1
  rw [plL_len] at hi
  simp only [plL, List.getElem?_map, List.getElem?_range hi, Option.map_some, Option.some.injEq] at h
  exact ⟨hi, h.symm⟩
theorem KAt.mkV {W : World} {g : Nat} {S : Nat → Bool} (h : KAt W g S) : ∃ A, W.heap[g]? = some (.cells A 49 (0, 0)) ∧ MkV A S := by
  obtain ⟨c, h1, h2, h3⟩ := h
  exact ⟨c, h1, h2, h3⟩
theorem owns_lowM {W : World} {B B' : Nat} {e : TypeId} {size : Nat} {v : Value} {n : Nat} {xs : List Value} (h : W.ownsRow B e size v n xs) (hB : B' ≤ B) : W.ownsRow B' e size v n xs := by
  refine ⟨h.1, ?_⟩
  rcases h.2 with hn | ⟨g, cap, cur, rfl, hb0, rest⟩
  · exact .inl hn
  · exact .inr ⟨g, cap, cur, rfl, Nat.le_trans hB hb0, rest⟩
theorem slice12 (gm c : Nat) (hc : c ≤ 12) (w : World) : (Instr.sliceAt 52 (.pointer (some ⟨gm, 1, none⟩)) none (some (.int .i64 (c : Int))) none).run Tryd.prog w = .ok (.slice (some ⟨gm, 1, none⟩) c 12) w := by
  have h1 : (c : Int) ≤ 12 := by omega
  unfold Instr.sliceAt
  go_simp
/-- What Least answers. -/
def LeaP (w : World) (n : Nat) (R : Nat → Nat) (e : Ending) (w' : World) : Prop :=
  Hid (Below w.heap.size w w') ∧ ((n ≤ 12 ∧ ∃ pl v, e = .returned (.tuple #[v, .bool true]) ∧ Hid (Lex n R pl n) ∧ Hid (w'.ownsRow w.heap.size 3 1 v n (I.cellsI (plL pl n)))) ∨
    (e = .returned (.tuple #[.slice none 0 0, .bool false]) ∧ Hid (n ≤ 12 → ¬ Ind R (fun r => r < n))))
/-- What stands between the rows. -/
structure LeI (w : World) (gm gs : Nat) (rv : Value) (n : Nat) (R : Nat → Nat) (k : Nat) (S : Nat → Bool) (ow : Nat → Option Nat) (pl : Nat → Nat) (V : World) : Prop where
  mst : MSt w V gm rv n R ow pl (fun r => r < n)
  mks : KAt V gs S
  set : ∀ v, S v = true ↔ ∃ j, j < k ∧ pl j = v
  lex : Lex n R pl k
  new : w.heap.size ≤ gs
  ne : gs ≠ gm
section
variable {n : Nat} {R : Nat → Nat} {w : World} {oa : Option Addr} {cap : Nat}
set_option maxRecDepth 100000 in
set_option maxHeartbeats 2000000 in
theorem leastF (hA : RwA w (.slice oa n cap) n R) : Calls Tryd.prog 4 #[.slice oa n cap] w (LeaP w n R) := by
  have KF := hide' (fullF hA)
  have hA' := hide' hA
  clear hA
  go_enter Tryd.func4, Tryd.ntmps4
  go_wp2_with fail
  refine KF.out.mono ?_
  rintro e w1 (⟨hn, gm, ow, pl, rfl, hM⟩ | ⟨rfl, hb, hno⟩)
  · have h0 : Hid (LeI w gm w1.heap.size (.slice oa n cap) n R 0 (fun _ => false) ow pl (w1.alloc (.cells (List.replicate 64 (Value.bool false)).toArray 49))) := by
      have hb1 : Below w1.heap.size w1 (w1.alloc (.cells (List.replicate 64 (Value.bool false)).toArray 49)) := (Below.refl _ _).alloc (Nat.le_refl _) _
      have := hM.out.mat.lt
      exact ⟨hM.out.below hb1, mks0 w1, fun v => ⟨fun h => absurd h (by decide), fun ⟨_, h, _⟩ => absurd h (Nat.not_lt_zero _)⟩, ⟨hM.out.st.full, fun j hj => absurd hj (Nat.not_lt_zero _)⟩, hM.out.old.size, by omega⟩
    clear KF hM
    go_wp2
    go_loopw [7, 17] (fun _ p wr => ∃ (c : Nat) (S : Nat → Bool) (ow : Nat → Option Nat) (pl : Nat → Nat), c ≤ n ∧ p = .int .i64 (c : Int) ∧ Hid (LeI w gm w1.heap.size (.slice oa n cap) n R c S ow pl wr)) (fun _ p _ => ((n : Int) - intOf p).toNat)
    case atStart => exact ⟨0, _, ow, pl, Nat.zero_le _, rfl, h0⟩
    case round =>
      clear h0
      obtain ⟨c, S, ow, pl, hc, rfl, hI⟩ := hrel
      by_cases hlt : c < n
      · have hlt' : (c : Int) < (n : Int) := by omega
        obtain ⟨A, hAb, hV⟩ := hI.out.mks.mkV
        have hSr : S (pl c) = false := by
          cases e : S (pl c)
          · rfl
          · obtain ⟨j, hj, hp⟩ := (hI.out.set _).1 e
            have := hI.out.mst.st.full.inj j c (by omega) hlt hp
            omega
        have KS := hide' (settleF w wr gm (.slice oa n cap) n R ow pl S c A hV hA'.out hI.out.mst hn hlt (fun v hv => by
          obtain ⟨j, hj, hp⟩ := (hI.out.set v).1 hv
          exact ⟨j, by omega, hp⟩) hSr)
        have hinf : (Tryd.prog.info? 49).map (·.size) = some A.size := by rw [hV.1]; exact infoMk
        go_wp2_with (refine wpList_load_row rfl 49 _ rfl w1.heap.size rfl _ A _ _ hAb Tryd.underlying49 rfl hinf ?_)
        refine KS.out.mono ?_
        rintro e w3 ⟨ow', pl', rfl, hM3, hP3, hF3⟩
        have hp64 : pl' c < 64 := (hM3.out.st.own _ c id (hM3.out.st.has c hlt).2).1
        have hKs : Hid (KAt w3 w1.heap.size S) := hI.out.mks.of (hF3.out.block _ hI.out.mks.lt hI.out.ne hI.out.ne)
        have hst := settle_step hI.out.mst.st hM3.out.st hlt hI.out.set hI.out.lex hP3.out.1 hP3.out.2
        have hI2 : Hid (LeI w gm w1.heap.size (.slice oa n cap) n R (c + 1) (upd S (pl' c) true) ow' pl' (w3.setCell ⟨w1.heap.size, pl' c, none⟩ (.bool true))) :=
          ⟨⟨hM3.out.old.setCell hI.out.new _, hM3.out.new, hM3.out.mat.setOther hI.out.ne.symm _, hM3.out.st⟩, hKs.out.set _ _, hst.1, hst.2, hI.out.new, hI.out.ne⟩
        have ck := hKs.out.cell hp64
        have fk := hKs.out.frz (pl' c)
        have hp64' : ((pl' c : Nat) : Int) < 64 := by omega
        clear KS hI hM3 hP3 hF3 hKs hst hAb hV
        generalize pl' c = pp at *
        go_wp2
        exact ⟨⟨c + 1, _, _, _, by omega, by go_num, hI2⟩, by simp [intOf]; omega⟩
      · obtain rfl : c = n := by omega
        have hsl := slice12 gm c hn wr
        have hRI : I.RowI wr (.slice (some ⟨gm, 1, none⟩) c 12) (plL pl c) := by
          refine ⟨some ⟨gm, 1, none⟩, 12, by rw [plL_len], ⟨by rw [plL_len]; exact hn, fun e => by cases e⟩, fun i z hz => ?_⟩
          obtain ⟨hi, rfl⟩ := plL_at hz
          exact ⟨gm, 1, rfl, hI.out.mst.mat.cellP (by omega)⟩
        have KC := hide' (I.clone (plL pl c) _ wr hRI (by rw [plL_len]; omega))
        have hold := hide' hI.out.mst.old
        have hlex := hide' hI.out.lex
        clear hI hRI
        go_wp2_with fail
        refine KC.out.mono ?_
        rintro e w3 ⟨v', rfl, hown, hb3⟩
        have hown' := hide' hown
        have hB : Hid (Below w.heap.size w w3) := hold.out.trans (hb3.mono hold.out.size)
        have hs := hold.out.size
        clear KC hown hb3 hold hsl
        go_wp2
        go_ret2
        refine ⟨hB, .inl ⟨hn, pl, v', rfl, hlex, ?_⟩⟩
        have := hown'.out
        rw [plL_len] at this
        exact owns_lowM this hs
  · go_wp2
    go_ret2
    exact ⟨hb, .inr ⟨rfl, hno⟩⟩
end
end Go.Proofs.YtmoiedlchcceaaaDoor.M
namespace Go.Proofs.YtmoiedlchcceaaaDoor.M
open Go.RowKit Go.Shelf
attribute [local go_sem] Oper.semAt_some
theorem shlc (i : Nat) (hi : i < 64) : IntKind.u64.wrap (2 ^ i) = ((2 ^ i : Nat) : Int) := by
  have h := shl64 i hi
  rwa [show IntKind.u64.wrap 1 = 1 by decide, Int.one_mul] at h
set_option maxHeartbeats 400000 in
theorem onlyC (i : Nat) (hi : i < 64) (w : World) :
    Calls Tryd.prog 27 #[.int .i64 i] w fun e w' => e = .returned (.agg #[.int .u64 ((2 ^ i : Nat) : Int)]) ∧ Below w.heap.size w w' := by
  have hsh := shlc i hi
  generalize hq : (2 ^ i : Nat) = p at hsh
  clear hq
  go_enter Tryd.func27, Tryd.ntmps27
  go_wp2_with (go_at_call 23; refine (ofC _ _).mono ?_; rintro e w1 ⟨rfl, hb⟩; obtain ⟨hc, hf⟩ := bcell hb)
  exact bodyPost_ret (v := .agg #[.int .u64 p]) (by simp [results, Tryd.results27, go_sem, hc]) rfl ⟨rfl, (((Below.refl _ w).alloc (Nat.le_refl _) _).trans (hb.mono (by simp))).setCell (by simp) _⟩
theorem mkV0 : MkV (List.replicate 64 (Value.bool false)).toArray (fun _ => false) :=
  ⟨by simp, fun i hi => by
    simp only [List.getElem?_toArray]
    rw [List.getElem?_replicate, if_pos hi]⟩
/-- Which word Free tells. -/
def FreS (n : Nat) (R : Nat → Nat) (i : Int) (F : Nat) : Prop := ∀ u, F.testBit u = true ↔ (n ≤ 12 ∧ 0 ≤ i ∧ i < (n : Int) ∧ ∃ g, FullM n R g ∧ g i.toNat = u)
theorem FreS.one {n : Nat} {R : Nat → Nat} {i : Int} {F G : Nat} (h1 : FreS n R i F) (h2 : FreS n R i G) : F = G :=
  Nat.eq_of_testBit_eq fun u => by
    have a := h1 u
    have b := h2 u
    exact Bool.eq_iff_iff.2 (a.trans b.symm)
theorem FreS.zero {n : Nat} {R : Nat → Nat} {i : Int} (h : ¬ (n ≤ 12 ∧ 0 ≤ i ∧ i < (n : Int) ∧ ∃ g, FullM n R g)) : FreS n R i 0 := fun u =>
  ⟨fun x => by simp at x, fun ⟨h1, h2, h3, g, h4, _⟩ => absurd ⟨h1, h2, h3, g, h4⟩ h⟩
theorem Fr2.own2 {W1 W W' : World} {a b : Nat} {row : Option Nat} (h : Fr2 W1 W a b) (hg : W.grownBy W' row) (hr : ∀ r, row = some r → W1.heap.size ≤ r) : Fr2 W1 W' a b :=
  ⟨hg.os.trans h.os, hg.tape.trans h.tape, hg.output.trans h.output, Nat.le_trans h.size hg.size, fun k hk h1 h2 => (hg.block k (Nat.lt_of_lt_of_le hk h.size) (fun e => by have := hr k e.symm; omega)).trans (h.block k hk h1 h2)⟩
theorem Fr2.wide {W W' : World} {a b : Nat} (h : Fr2 W W' a a) : Fr2 W W' a b := ⟨h.os, h.tape, h.output, h.size, fun k hk h1 _ => h.block k hk h1 h1⟩
theorem Fr2.cell2 {W W' : World} {a b c o : Nat} {v : Value} (h : Fr2 W W' a b) (hc : W.cell? ⟨c, o, none⟩ = some v) (h1 : c ≠ a) (h2 : c ≠ b) : W'.cell? ⟨c, o, none⟩ = some v := by
  rw [← hc]
  have := h.block c (cell_lt hc) h1 h2
  simp only [World.cell?, this]
theorem Fr2.keeps2 {W W' : World} {gm b : Nat} {rv : Value} {pl : Nat → Nat} {ow : Nat → Option Nat} {t : TypeId} {v : Value} (h : Fr2 W W' gm b) (hm : MAt W gm rv pl ow) (hb : Boxed W b t v) : KeepsOthers W W' :=
  ⟨h.size, fun k o hk ho => by
    obtain ⟨c, hc, _⟩ := hm
    have hne : k ≠ gm := fun e => by
      subst e
      rw [hc] at hk
      cases hk
      simp [Obj.isCells] at ho
    have hnb : k ≠ b := fun e => by
      subst e
      have hb' : W.heap[k]? = some (.cells #[v] t) := hb
      rw [hb'] at hk
      cases hk
      simp [Obj.isCells] at ho
    exact (h.block k (Array.getElem?_eq_some_iff.1 hk).1 hne hnb).trans hk⟩
/-- What stands between the tries of Free. -/
structure FrI (W1 : World) (gm b7 : Nat) (rv : Value) (n : Nat) (R : Nat → Nat) (ow : Nat → Option Nat) (pl : Nat → Nat) (F : Nat) (V : World) : Prop where
  fr : Fr2 W1 V gm b7
  mat : MAt V gm rv pl ow
  st : Wst n R ow pl (fun r => r < n) No
  box : Boxed V b7 60 (.int .u64 (F : Int))
theorem FrI.own {W1 : World} {gm b7 : Nat} {rv : Value} {n : Nat} {R : Nat → Nat} {ow : Nat → Option Nat} {pl : Nat → Nat} {F : Nat} (hl : gm < W1.heap.size) (hb : b7 < W1.heap.size) {W W' : World} {row : Option Nat} (h : FrI W1 gm b7 rv n R ow pl F W) (hg : W.grownBy W' row) (hr : ∀ r, row = some r → W1.heap.size ≤ r ∧ ∃ o : Obj, W.heap[r]? = some o ∧ o.isCells = false) : FrI W1 gm b7 rv n R ow pl F W' :=
  ⟨h.fr.own2 hg fun r e => (hr r e).1, h.mat.own hl hg fun r e => (hr r e).1, h.st, (hg.block b7 h.box.lt (fun e => by have := (hr b7 e.symm).1; omega)).trans h.box⟩
section
variable {n : Nat} {R : Nat → Nat} {w : World} {oa : Option Addr} {cap : Nat}
set_option maxRecDepth 100000 in
set_option maxHeartbeats 4000000 in
theorem freeC (hA : RwA w (.slice oa n cap) n R) (i : Int) : CallsIn Fence.wide 9 Tryd.prog 10 #[.slice oa n cap, .int .i64 i] w fun e w' => ∃ F : Nat, e = .returned (.int .u64 (F : Int)) ∧ Hid (F < 18446744073709551616 ∧ FreS n R i F) ∧ Below w.heap.size w w' := by
  have h3 := hA.tab.2
  have hmx : Tryd.prog.follows Departure.mixedOrders = true := by kernel_rfl
  have hBb : Below w.heap.size w (w.alloc (.cells #[.int .i64 i] 3)) := (Below.refl _ _).alloc (Nat.le_refl _) _
  have KF := hide' (fullF (hA.over hBb))
  have q3 := Boxed.new w 3 (.int .i64 i)
  have hA' := hide' hA
  clear hA
  generalize hWb : w.alloc (.cells #[.int .i64 i] 3) = Wb at *
  refine callsIn_of_wp_marks Tryd.func10 rfl trivial ?_ rfl
  refine wpIn_wide.2 ?_
  simp only [Tryd.ntmps10, List.size_toArray, List.length_cons, List.length_nil, Nat.reduceAdd, Nat.reduceSub, Array.replicate_succ, Array.replicate_zero, List.push_toArray, List.append_toArray, List.nil_append, List.cons_append]
  go_wp2_with fail
  refine KF.out.mono ?_
  rintro e w1 (⟨hn, gm, ow, pl, rfl, hM⟩ | ⟨rfl, hb, hno⟩)
  · have c3 := cell_over q3.cell hM.out.old
    have c4 := cell_over c3 ((Below.refl _ w1).alloc (Nat.le_refl _) (.cells #[.pointer (some ⟨gm, 0, none⟩)] 45))
    by_cases hi : 0 ≤ i ∧ i < (n : Int)
    · obtain ⟨iN, rfl⟩ : ∃ k : Nat, i = (k : Int) := ⟨i.toNat, by omega⟩
      have hin : iN < n := by omega
      have hneg : ¬ (iN : Int) < 0 := by omega
      have hge : ¬ (n : Int) ≤ (iN : Int) := by omega
      obtain ⟨oa', cap', e9, hrw⟩ := hA'.out.rw
      cases e9
      obtain ⟨g, o, rfl, hcr⟩ := hrw iN hin
      have hx := hA'.out.word iN
      have hbt := hide' hA'.out.bit
      have hOw : Below w.heap.size w w1 := hBb.trans (hM.out.old.mono hBb.size)
      have hgm := hM.out.mat.lt
      have hgm0 := hM.out.new
      have hBs := hBb.size
      have hB2 : Below w1.heap.size w1 ((w1.alloc (.cells #[.pointer (some ⟨gm, 0, none⟩)] 45)).alloc (.cells #[.int .u64 0] 60)) := ((Below.refl _ w1).alloc (Nat.le_refl _) _).alloc (by simp) _
      have q5 := (Boxed.new w1 45 (.pointer (some ⟨gm, 0, none⟩))).alloc (.cells #[.int .u64 0] 60)
      have q7 := Boxed.new (w1.alloc (.cells #[.pointer (some ⟨gm, 0, none⟩)] 45)) 60 (.int .u64 0)
      simp only [World.size_alloc] at q7
      have c5 := cell_over c3 hB2
      have c6 := cell_over (cell_over hcr hOw) hB2
      obtain ⟨x, hxe⟩ : ∃ x, x = R iN := ⟨_, rfl⟩
      rw [← hxe] at c6 hx
      have hxe' := hide' hxe
      have hinn : (iN : Int) < (n : Int) := by omega
      clear KF hrw hxe hcr
      go_wp2_with (first | (go_at_call 23; refine (ofC _ _).mono ?_; rintro e w2 ⟨rfl, hb2⟩) | (go_at_call 24; refine (allSeq x _).mono ?_; rintro e w3 ⟨bb, rfl, hbox, hbb, hb3⟩))
      have hz2 := hb2.size
      simp only [World.size_alloc] at hz2
      have hB3 : Below w1.heap.size w1 w3 := (hB2.trans (hb2.mono hB2.size)).trans (hb3.mono (by omega))
      have hz3 := hb3.size
      have k3 := bxS q3 (hM.out.old.trans (hB3.mono hM.out.old.size)) q3.lt
      have k5 := bxS q5 (hb2.trans (hb3.mono hb2.size)) (by simp; omega)
      have k7 := bxS q7 (hb2.trans (hb3.mono hb2.size)) (by simp)
      have hI0 : FrI w3 gm (w1.heap.size + 1) (.slice (some ⟨g, o, none⟩) n cap) n R ow pl 0 w3 := ⟨Fr2.refl _ _ _, hM.out.mat.below hB3, hM.out.st, k7⟩
      have hO3 : Below w.heap.size w w3 := hOw.trans (hB3.mono hOw.size)
      have z3 := hbox.lt
      have ht3 : Tab w3 := hA'.out.tab.over hO3
      have hws := hOw.size
      have zq3 := q3.lt
      clear c3 c4 c5 c6 hB2 hb2 hb3 q3 q5 q7 hWb hM
      refine (wpIn_wide (n := 9)).1 ?_
      refine wpIn_rangeFunc_ownG rfl (by decide) (gf := 44) (lb := #[.pointer (some ⟨bb, 0, none⟩)]) rfl trivial (enters_of Tryd.func44 (by kernel_rfl) rfl)
        (all_mem 8 bb x hx w3 z3 ht3 hbox.cell) KpB.t (KpB.b z3 (by omega)) (Below.refl _ _) (fun _ => rfl)
        (fun pre V => ∃ ow pl F, FrI w3 gm (w1.heap.size + 1) (.slice (some ⟨g, o, none⟩) n cap) n R ow pl F V ∧ Hid (F < 18446744073709551616 ∧ ∀ u, F.testBit u = true ↔ (∃ j ∈ pre, j.val.val = u) ∧ ∃ f, FullM n R f ∧ f iN = u))
        (fun _ _ _ => False)
        (fun _ X Y row h hg hr => by
          obtain ⟨ow, pl, F, h1, h2⟩ := h
          exact ⟨ow, pl, F, h1.own (by omega) (by omega) hg hr, h2⟩)
        (fun _ _ _ _ _ hs _ _ => hs)
        ⟨ow, pl, 0, hI0, by decide, fun u => ⟨fun h => by simp at h, fun ⟨⟨j, hj, _⟩, _⟩ => by cases hj⟩⟩
        ?a1 ?assign ?body ?done ?stop
      case assign =>
        intro l j V K hK
        gi_wp2
        exact hK
      case body =>
        rintro l pre k V ⟨ow, pl, F, hI, hF⟩ hlt
        have hk64 := k.val.isLt
        have hbk : (R iN).testBit k.val.val = true := by rw [← hxe'.out]; exact (mem_nums _ _).1 k.property
        have d3 := hI.fr.cell2 k3.cell (by omega) (by omega)
        have d5 := hI.fr.cell2 k5.cell (by omega) (by omega)
        have hMs : MSt w V gm (.slice (some ⟨g, o, none⟩) n cap) n R ow pl (fun r => r < n) := ⟨hI.fr.new hO3 (by omega) (by omega) hO3.size, by omega, hI.mat, hI.st⟩
        have KM := hide' (moveF w V gm (.slice (some ⟨g, o, none⟩) n cap) n R ow pl (fun _ => false) iN k.val.val (List.replicate 64 (Value.bool false)).toArray mkV0 hA'.out hMs hn hin hk64 hbk (fun v hv => absurd hv (by decide)) rfl)
        have hI' := hide' hI
        clear hI hMs hlt
        have hp64 : 2 ^ k.val.val < 18446744073709551616 := Nat.pow_lt_pow_right (a := 2) (m := k.val.val) (n := 64) (by decide) hk64
        have KO := hide' (or64 F (2 ^ k.val.val) hF.out.1 hp64)
        have KN := hide' (onlyC k.val.val hk64)
        have hbb7 : w1.heap.size + 1 ≠ bb := by omega
        have hT : Hid (∀ f, FullM n R f → f iN = k.val.val → ∀ u, (F ||| 2 ^ k.val.val).testBit u = true ↔ (∃ j ∈ pre ++ [k], j.val.val = u) ∧ ∃ f, FullM n R f ∧ f iN = u) := fun f hf1 hf2 u => by
          rw [Nat.testBit_or, Bool.or_eq_true, hF.out.2 u, Nat.testBit_two_pow]
          constructor
          · rintro (⟨⟨j, hj, e⟩, h2⟩ | h)
            · exact ⟨⟨j, List.mem_append_left _ hj, e⟩, h2⟩
            · have h := of_decide_eq_true h
              exact ⟨⟨k, by simp, h⟩, f, hf1, by rw [hf2]; exact h⟩
          · rintro ⟨⟨j, hj, e⟩, h2⟩
            rcases List.mem_append.1 hj with hj | hj
            · exact .inl ⟨⟨j, hj, e⟩, h2⟩
            · rw [List.mem_singleton.1 hj] at e
              exact .inr (by simpa using e)
        have hN : Hid (NoM n R (fun _ => false) pl iN k.val.val → ∀ u, F.testBit u = true ↔ (∃ j ∈ pre ++ [k], j.val.val = u) ∧ ∃ f, FullM n R f ∧ f iN = u) := fun hno u => by
          rw [hF.out.2 u]
          constructor
          · rintro ⟨⟨j, hj, e⟩, h2⟩
            exact ⟨⟨j, List.mem_append_left _ hj, e⟩, h2⟩
          · rintro ⟨⟨j, hj, e⟩, f, h2, h4⟩
            rcases List.mem_append.1 hj with hj | hj
            · exact ⟨⟨j, hj, e⟩, f, h2, h4⟩
            · rw [List.mem_singleton.1 hj] at e
              exact absurd (h4.trans e.symm) (hno f h2 (fun _ _ h => by cases h))
        have hFl : Hid (F ||| 2 ^ k.val.val < 18446744073709551616) := Nat.or_lt_two_pow (n := 64) hF.out.1 hp64
        have hF0 := hide' hF.out.1
        have hkey : Hid (∀ w4 : World, Fr2 V w4 gm (w1.heap.size + 1) → KeepsFrom w3.heap.size V w4 ∧ KpB bb V w4) := fun w4 h => ⟨((h.keeps2 hI'.out.mat hI'.out.box)).from _, by
          have hbl := Nat.lt_of_lt_of_le z3 hI'.out.fr.size
          have := h.block bb hbl (by omega) (by omega)
          simp only [World.cell?, this], fun t => Tab.fr2 t h (by omega) (by omega)⟩
        generalize k.val.val = kk at *
        generalize 2 ^ kk = pk at *
        clear hF
        gi_wp2_with (refine ⟨trivial, ?_⟩; gi_at_call 25; refine (CallsIn.inRound l (callsIn_wide.2 KM.out)).mono ?_; rintro e w4 ⟨hF3, (⟨rfl, ow', pl', hM3, hP3⟩ | ⟨rfl, hM3, hN3⟩)⟩)
        · have b4 : Boxed w4 (w1.heap.size + 1) 60 (.int .u64 (F : Int)) := (hF3.out.block _ hI'.out.box.lt (by omega) (by omega)).trans hI'.out.box
          have c4 := b4.cell
          gi_region_with_o (first | (refine ⟨trivial, ?_⟩; gi_at_call 27; refine (CallsIn.inRound l (callsIn_wide.2 (KN.out _))).mono ?_; rintro e w5 ⟨rfl, hb5⟩; have b5 : Boxed w5 (w1.heap.size + 1) 60 (.int .u64 (F : Int)) := (hb5.block (w1.heap.size + 1) b4.lt).trans b4; have c5 := b5.cell) | (refine ⟨trivial, ?_⟩; gi_at_call 26; refine (CallsIn.inRound l (callsIn_wide.2 (KO.out _))).mono ?_; rintro e w6 ⟨rfl, hb6⟩; have b6 : Boxed w6 (w1.heap.size + 1) 60 (.int .u64 (F : Int)) := (hb6.block (w1.heap.size + 1) b5.lt).trans b5; have c6 := b6.cell; have f6 := b6.frozen))
          all_goals gi_wp2
          all_goals
            have hw5 : Below w4.heap.size w4 w5 := (Below.refl _ w4).drew.trans hb5
            have hX : Fr2 V (w6.setCell ⟨w1.heap.size + 1, 0, none⟩ (.int .u64 ((F ||| pk : Nat) : Int))) gm (w1.heap.size + 1) := ((hF3.out.wide.trans (Fr2.below hw5)).trans (Fr2.below hb6)).trans (Fr2.setB ..)
            exact ⟨(hkey.out _ hX).1, (hkey.out _ hX).2, ow', pl', F ||| pk, ⟨hI'.out.fr.trans hX, ((hM3.out.mat.below hw5).below hb6).setOther (by omega) _, hM3.out.st, b6.set _⟩, hFl.out, hT.out pl' hM3.out.st.full hP3.out.1⟩
        · have hF3' := hF3
          refine ⟨(hkey.out _ hF3.out.wide).1, (hkey.out _ hF3.out.wide).2, ow, pl, F, ⟨hI'.out.fr.trans hF3.out.wide, hM3.out.mat, hM3.out.st, (hF3.out.block _ hI'.out.box.lt (by omega) (by omega)).trans hI'.out.box⟩, hF0.out, hN.out hN3.out⟩
      case done =>
        rintro D ys V hD hys ⟨ow, pl, F, hI, hF⟩ hK
        have c7 := hI.box.cell
        have hend : Hid (F < 18446744073709551616 ∧ FreS n R (iN : Int) F) := ⟨hF.out.1, fun u => by
          rw [hF.out.2 u]
          constructor
          · rintro ⟨_, f, h1, h2⟩
            exact ⟨hn, by omega, by omega, f, h1, h2⟩
          · rintro ⟨_, _, _, f, h1, h2⟩
            have h2' : f iN = u := h2
            refine ⟨?_, f, h1, h2'⟩
            have hb := h1.bit iN hin
            have hm : (⟨f iN, hbt.out iN _ hb⟩ : Fin 64) ∈ plain ys := by rw [hys, mem_nums, hxe'.out]; exact hb
            obtain ⟨j, hj, hje⟩ := List.mem_map.1 hm
            exact ⟨j, hj, by rw [hje]; exact h2'⟩⟩
        have hI2 := hide' (fun (V' : World) (hb : Below V.heap.size V V') (hD' : V'.heap[D]? = some (.deferred (some []))) => (show Below w.heap.size w (V'.putObj D (.deferred none)) from
          ((hI.fr.trans (Fr2.below hb)).own2 (row := some D) (grownBy_putObj' V' D (.deferred none)) (fun r e => by cases e; exact hD)).new hO3 (by omega) (by omega) hO3.size))
        have hK' := hide' hK
        have hDl : D < V.heap.size := (Array.getElem?_eq_some_iff.1 hK).1
        clear hI hF hK hys
        gi_wp2
        go_wp2_with (go_at_call 28; refine (word64 _ _).mono ?_; rintro e w6 ⟨rfl, hb6⟩)
        have hK6 := (hb6.block D hDl).trans hK'.out
        refine ⟨by simp, .inl ⟨_, _, rfl, run_takeDeferred (w := w6) hK6, ?_⟩⟩
        exact ⟨.int .u64 (F : Int), by simp [results, Tryd.results10, go_sem], F, rfl, hend, hI2.out w6 hb6 hK6⟩
      case stop =>
        rintro D c pre W _ _ h _
        exact h.elim
    · have hend : Hid (FreS n R i 0) := FreS.zero fun h => hi ⟨h.2.1, h.2.2.1⟩
      have hB : Hid (Below w.heap.size w (w1.alloc (.cells #[.pointer (some ⟨gm, 0, none⟩)] 45))) := (hBb.trans (hM.out.old.mono hBb.size)).alloc (by have := hM.out.old.size; have := hBb.size; omega) _
      clear KF hM
      by_cases hneg : i < 0
      · go_wp2
        exact ⟨.int .u64 0, by simp [results, Tryd.results10, go_sem], 0, rfl, ⟨by decide, hend.out⟩, hB.out⟩
      · have hge : (n : Int) ≤ i := by omega
        go_wp2
        exact ⟨.int .u64 0, by simp [results, Tryd.results10, go_sem], 0, rfl, ⟨by decide, hend.out⟩, hB.out⟩
  · have hend : Hid (FreS n R i 0) := FreS.zero fun h => hno.out h.1 (full_iff.1 h.2.2.2)
    have hB : Hid (Below w.heap.size w (w1.alloc (.cells #[.pointer none] 45))) := (hBb.trans (hb.out.mono hBb.size)).alloc (by have := hb.out.size; have := hBb.size; omega) _
    clear KF hno
    go_wp2
    exact ⟨.int .u64 0, by simp [results, Tryd.results10, go_sem], 0, rfl, ⟨by decide, hend.out⟩, hB.out⟩
theorem freeF (hA : RwA w (.slice oa n cap) n R) (i : Int) : Calls Tryd.prog 10 #[.slice oa n cap, .int .i64 i] w fun e w' => ∃ F : Nat, e = .returned (.int .u64 (F : Int)) ∧ Hid (F < 18446744073709551616 ∧ FreS n R i F) ∧ Below w.heap.size w w' := callsIn_wide.1 (freeC hA i)
end
end Go.Proofs.YtmoiedlchcceaaaDoor.M
namespace Go.Proofs.YtmoiedlchcceaaaDoor.M
open Go.RowKit Go.Shelf
/-- A row of words, wherever it lies. -/
def RowU (w : World) (v : Value) (L : List Nat) : Prop := ∃ oa cap, v = .slice oa L.length cap ∧ (L.length ≤ cap ∧ (oa = none → cap = 0)) ∧ ∀ (i : Nat) (z : Nat), L[i]? = some z → ∃ g o, oa = some ⟨g, o, none⟩ ∧ w.cell? ⟨g, o + i, none⟩ = some (.int .u64 (z : Int))
theorem RowU.below {w w' : World} {v : Value} {L : List Nat} {n : Nat} (h : RowU w v L) (hb : Below n w w') (hn : w.heap.size ≤ n) : RowU w' v L := by
  obtain ⟨oa, cap, e, e0, h⟩ := h
  refine ⟨oa, cap, e, e0, fun i z hz => ?_⟩
  obtain ⟨g, o, e1, e2⟩ := h i z hz
  exact ⟨g, o, e1, (hb.cell (p := ⟨g, o + i, none⟩) (Nat.lt_of_lt_of_le (cell_lt e2) hn)).trans e2⟩
def cellsU (L : List Nat) : List Value := L.map fun z : Nat => Value.int .u64 (z : Int)
theorem cellsU_at {L : List Nat} {j : Nat} {u : Value} (h : (cellsU L)[j]? = some u) : ∃ z, L[j]? = some z ∧ u = .int .u64 (z : Int) := by
  unfold cellsU at h
  rw [List.getElem?_map] at h
  cases hz : L[j]? with
  | none => rw [hz] at h; cases h
  | some z => rw [hz] at h; cases h; exact ⟨z, rfl, rfl⟩
theorem one_cellsU (L : List Nat) : ∀ u ∈ cellsU L, u.oneCell' = true := fun u hu => by
  obtain ⟨z, _, rfl⟩ := List.mem_map.1 hu
  rfl
theorem infoU : (Tryd.prog.info? 40).map (fun i => (i.zero, i.size, i.bytes)) = some (some (.int .u64 0), 1, 8) := by kernel_rfl
/-- The words of a row as a function. -/
def fn (L : List Nat) : Nat → Nat := fun r => L.getD r 0
theorem fn_at {L : List Nat} {r z : Nat} (h : L[r]? = some z) : fn L r = z := by simp [fn, List.getD_eq_getElem?_getD, h]
theorem fn_get {L : List Nat} {r : Nat} (h : r < L.length) : L[r]? = some (fn L r) := by
  rw [List.getElem?_eq_getElem h]; simp [fn, List.getD_eq_getElem?_getD, List.getElem?_eq_getElem h]
theorem fn_lt {L : List Nat} (h : ∀ z ∈ L, z < 18446744073709551616) (r : Nat) : fn L r < 18446744073709551616 := by
  cases e : L[r]? with
  | none => simp [fn, List.getD_eq_getElem?_getD, e]
  | some z => rw [fn_at e]; exact h z (List.mem_of_getElem? e)
theorem RowU.rwa {w : World} {v : Value} {L : List Nat} (h : RowU w v L) (ht : Tab w) (hw : ∀ z ∈ L, z < 18446744073709551616) : RwA w v L.length (fn L) := by
  obtain ⟨oa, cap, e, _, hc⟩ := h
  exact ⟨⟨oa, cap, e, fun r hr => hc r _ (fn_get hr)⟩, ht, fn_lt hw⟩
theorem RowU.shape {w : World} {v : Value} {L : List Nat} (h : RowU w v L) : ∃ oa cap, v = .slice oa L.length cap := by
  obtain ⟨oa, cap, e, _⟩ := h
  exact ⟨oa, cap, e⟩
theorem RowU.of_owns {w : World} {n₀ e : Nat} {v : Value} {n : Nat} {L : List Nat} (h : w.ownsRow n₀ e 1 v n (cellsU L)) : RowU w v L := by
  have hl : n = L.length := by have := h.1; simp [cellsU] at this; omega
  subst hl
  rcases h.2 with ⟨rfl, h0⟩ | ⟨g, cap, cur, rfl, _, hb, hcap, _, _, hcur⟩
  · refine ⟨none, 0, by rw [h0], ⟨by omega, fun _ => rfl⟩, fun i z hz => ?_⟩
    have := (List.getElem?_eq_some_iff.1 hz).1
    omega
  · refine ⟨_, cap, rfl, ⟨hcap, fun e => by cases e⟩, fun i z hz => ⟨g, 0, rfl, ?_⟩⟩
    have hi := (List.getElem?_eq_some_iff.1 hz).1
    have hcu : (cellsU L)[i]? = some (Value.int .u64 (z : Int)) := by simp [cellsU, hz]
    rw [Nat.zero_add, h.cellAt i (by simp; omega)]
    exact hcu
theorem owns_zeroU (w : World) : (w.alloc (.cells #[] 40)).ownsRow w.heap.size 40 1 (.slice (some ⟨w.heap.size, 0, none⟩) 0 0) 0 (cellsU []) := I.owns_zero w _
theorem RowU.cut {w : World} {oa : Option Addr} {cap : Nat} {L : List Nat} (h : RowU w (.slice oa L.length cap) L) (m : Nat) (hm : m ≤ L.length) : RowU w (.slice oa m cap) (L.take m) := by
  obtain ⟨oa', cap', e, e0, hc⟩ := h
  cases e
  refine ⟨oa, cap, by rw [List.length_take]; congr 1; omega, ⟨by rw [List.length_take]; omega, e0.2⟩, fun i z hz => ?_⟩
  have hi := (List.getElem?_eq_some_iff.1 hz).1
  rw [List.length_take] at hi
  rw [List.getElem?_take_of_lt (by omega)] at hz
  exact hc i z hz
set_option maxRecDepth 100000 in
set_option maxHeartbeats 1000000 in
theorem fewU (L : List Nat) (v : Value) (w : World) (hr : RowU w v L) :
    Calls Tryd.prog 6 #[v] w fun e w' => ∃ v', e = .returned v' ∧ w'.ownsRow w.heap.size 40 1 v' (L.take 20).length (cellsU (L.take 20)) ∧ Below w.heap.size w w' := by
  obtain ⟨oa, cap, rfl, hcap, hc⟩ := hr
  obtain ⟨i0, hi, hz0, hz1, hz2⟩ := info_parts infoU
  have hc' := hide' hc
  clear hc
  go_enter Tryd.func6, Tryd.ntmps6
  by_cases hlong : 20 < L.length
  · obtain ⟨ad, rfl⟩ : ∃ ad, oa = some ad := by
      cases oa with
      | none => have := hcap.2 rfl; omega
      | some ad => exact ⟨ad, rfl⟩
    obtain ⟨g, o, e, _⟩ := hc'.out 0 _ (List.getElem?_eq_getElem (by omega))
    cases e
    have hcap1 := hcap.1
    have hnews : ∀ j u, (cellsU (L.take 20))[j]? = some u → w.cell? (Addr.add ⟨g, o, none⟩ j) = some u := fun j u hu => by
      obtain ⟨z, hz, rfl⟩ := cellsU_at hu
      obtain ⟨hj, _⟩ := List.getElem?_eq_some_iff.1 hz
      rw [List.length_take] at hj
      rw [List.getElem?_take_of_lt (by omega)] at hz
      obtain ⟨g', o', e, hcell⟩ := hc'.out j z hz
      cases e
      rw [Addr.add_lit]; exact hcell
    clear hcap
    go_wp2_with (at_builtin; refine wpList_append_own _ rfl _ _ 22 rfl w.heap.size 40 i0 (.int .u64 0) 1 8 Tryd.underlying22 hi hz0 hz1 hz2 rfl (by decide) _ 0 (cellsU []) rfl (owns_zeroU w) ⟨g, o, none⟩ 20 cap (cellsU (L.take 20)) rfl (by simp [cellsU]; omega) (fun j u hu => I.cell_new (hnews j u hu)) (one_cellsU _) (by unfold maxLen; omega) (by omega) (by simp) ?_; intro v1 w1 hown1 hgrow1 hnil)
    go_ret
    have hown : w1.ownsRow w.heap.size 40 1 v1 (0 + 20) (cellsU (L.take 20)) := hown1
    rw [show 0 + 20 = (L.take 20).length by rw [List.length_take]; omega] at hown
    exact ⟨_, rfl, hown, ((Below.refl _ w).alloc (Nat.le_refl _) _).grown hgrow1 (by simp) (fun j ej => by cases ej; exact Nat.le_refl _)⟩
  · have hle : L.length ≤ 20 := by omega
    rw [List.take_of_length_le hle]
    cases oa with
    | none =>
      obtain ⟨h1, h2⟩ := hcap
      have := h2 rfl
      subst this
      have : L = [] := List.eq_nil_of_length_eq_zero (by omega)
      subst this
      go_wp2_with (at_builtin; refine wpList_append_own_none rfl _ _ 22 rfl w.heap.size 40 i0 1 Tryd.underlying22 hi _ 0 (cellsU []) rfl (owns_zeroU w) rfl ?_)
      go_ret
      exact ⟨_, rfl, owns_zeroU w, (Below.refl _ w).alloc (Nat.le_refl _) _⟩
    | some ad =>
      have hnews : ∀ j u, (cellsU L)[j]? = some u → w.cell? (ad.add j) = some u := fun j u hu => by
        obtain ⟨z, hz, rfl⟩ := cellsU_at hu
        obtain ⟨g, o, e, hcell⟩ := hc'.out j z hz
        cases e
        rw [Addr.add_lit]; exact hcell
      clear hcap
      go_wp2_with (at_builtin; refine wpList_append_own _ rfl _ _ 22 rfl w.heap.size 40 i0 (.int .u64 0) 1 8 Tryd.underlying22 hi hz0 hz1 hz2 rfl (by decide) _ 0 (cellsU []) rfl (owns_zeroU w) ad L.length cap (cellsU L) rfl (by simp [cellsU]) (fun j u hu => I.cell_new (hnews j u hu)) (one_cellsU _) (by unfold maxLen; omega) (by omega) (by simp) ?_; intro v1 w1 hown1 hgrow1 hnil)
      go_ret
      have hown : w1.ownsRow w.heap.size 40 1 v1 (0 + L.length) (cellsU L) := hown1
      rw [Nat.zero_add] at hown
      exact ⟨_, rfl, hown, ((Below.refl _ w).alloc (Nat.le_refl _) _).grown hgrow1 (by simp) (fun j ej => by cases ej; exact Nat.le_refl _)⟩
end Go.Proofs.YtmoiedlchcceaaaDoor.M

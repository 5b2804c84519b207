/- DiskKeeps, walked. -/
import Derived.Test.YtkabileeincjaaaDkO
import Derived.Deep.CutBlock
import Derived.Deep.CutRange
import Derived.Deep.MidRow
import Derived.Deep.QuietTactic
import Derived.BigQuiet
namespace Go.Proofs.Ytkabileeincjaaa
open Go.RowKit
def Z128 : Array Value := (cellsB (List.replicate 128 0)).toArray
def Z16 : Array Value := (cellsB (List.replicate 16 0)).toArray
theorem infoA : (Try.prog.info? 44).map (·.zero) = some (some (.agg Z128)) := by kernel_rfl
theorem infoB : (Try.prog.info? 43).map (·.zero) = some (some (.agg Z16)) := by kernel_rfl
theorem zeroA (w : World) : (zeroValue 44).run Try.prog w = .ok (.agg Z128) w := by
  obtain ⟨i, hi, hz⟩ := Option.map_eq_some_iff.1 infoA
  simp [zeroValue, typeInfo, hi, hz]
theorem zeroB (w : World) : (zeroValue 43).run Try.prog w = .ok (.agg Z16) w := by
  obtain ⟨i, hi, hz⟩ := Option.map_eq_some_iff.1 infoB
  simp [zeroValue, typeInfo, hi, hz]
theorem tmod50 (f : Int) : (f.tmod 50).natAbs < 50 := by
  rw [Int.natAbs_tmod]
  exact Nat.mod_lt _ (by decide)
theorem tmod8 (f : Int) : -8 < f.tmod 8 ∧ f.tmod 8 < 8 := by
  have h : (f.tmod 8).natAbs < 8 := by
    rw [Int.natAbs_tmod]
    exact Nat.mod_lt _ (by decide)
  omega
/-- What stands between the writes: what was written is in the disk and beside it. -/
structure Kq (w : World) (g gb gw k j : Nat) (D : Dk) (W : World) : Prop where
  dk : DkA W g gb D
  ok : DkO D 8
  want : BkT W 44 gw D.bytes
  wr : D.writes = (j : Int)
  fu : D.fuse = (k : Int) - (j : Int)
  le : j ≤ k
  geg : w.heap.size ≤ g
  geb : w.heap.size ≤ gb
  gew : w.heap.size ≤ gw
  bel : Below w.heap.size w W
theorem Kq.nw {w : World} {g gb gw k j : Nat} {D : Dk} {W : World} (h : Kq w g gb gw k j D W) : gw ≠ g ∧ gw ≠ gb := by
  refine ⟨?_, ?_⟩
  · rintro rfl
    have h1 := h.want
    unfold BkT at h1
    rw [h.dk.1] at h1
    injection h1 with h1
    injection h1 with _ h1
    exact absurd h1 (by decide)
  · rintro rfl
    have h1 := h.want
    have h2 := h.dk.2
    unfold BkT at h1
    unfold BkB at h2
    rw [h2] at h1
    injection h1 with h1
    injection h1 with _ h1
    exact absurd h1 (by decide)
theorem Kq.up {w : World} {g gb gw k j : Nat} {D : Dk} {W W' : World} (h : Kq w g gb gw k j D W) (hb : Below W.heap.size W W') : Kq w g gb gw k j D W' :=
  ⟨h.dk.below hb (Nat.le_refl _), h.ok, (hb.block gw (blk_lt h.want)).trans h.want, h.wr, h.fu, h.le, h.geg, h.geb, h.gew, h.bel.trans (hb.mono h.bel.size)⟩
theorem Kq.kp {w : World} {g gb gw k j gx : Nat} {D : Dk} {W W' : World} (h : Kq w g gb gw k j D W) (hk : Kp gx gx W W') (h1 : gx ≠ g) (h2 : gx ≠ gb) (h3 : gx ≠ gw) (h4 : w.heap.size ≤ gx) : Kq w g gb gw k j D W' :=
  ⟨h.dk.kp hk h1.symm h1.symm h2.symm h2.symm, h.ok, (hk.block gw (blk_lt h.want) h3.symm h3.symm).trans h.want, h.wr, h.fu, h.le, h.geg, h.geb, h.gew, h.bel.trans (hk.below h4 h4 h.bel.size)⟩
theorem BkT.cell {W : World} {T : TypeId} {g : Nat} {L : List Nat} (h : BkT W T g L) {i z : Nat} (hz : L[i]? = some z) : W.cell? ⟨g, i, none⟩ = some (.int .u8 (z : Int)) := by
  unfold BkT at h
  simp [World.cell?, h, cellsB, hz]
theorem BkT.free {W : World} {T : TypeId} {g : Nat} {L : List Nat} (h : BkT W T g L) (i : Nat) : W.frozen? ⟨g, i, none⟩ = false := by
  unfold BkT at h
  simp [World.frozen?, h]
theorem BkT.set {W : World} {T : TypeId} {g : Nat} {L : List Nat} (h : BkT W T g L) (i z : Nat) : BkT (W.setCell ⟨g, i, none⟩ (.int .u8 (z : Int))) T g (L.set i z) := by
  have e := set_heap h i (.int .u8 (z : Int))
  unfold BkT
  rw [e]
  simp [cellsB]
theorem BkT.row {W : World} {T : TypeId} {g o n cap : Nat} {L M : List Nat} (h : BkT W T g L) (hM : ∀ i z, M[i]? = some z → L[o + i]? = some z) (hn : n = M.length) (hc : n ≤ cap) : RowC W (.slice (some ⟨g, o, none⟩) n cap) M := by
  subst hn
  exact ⟨_, cap, rfl, ⟨hc, fun e => by cases e⟩, fun i z hz => ⟨g, o, rfl, h.cell (hM i z hz)⟩⟩
theorem Kq.pow {w : World} {g gb gw k j : Nat} {D : Dk} {W : World} (h : Kq w g gb gw k j D W) : D.power = decide (j < k) := by
  rw [h.ok.pow, h.fu]
  have := h.le
  simp only [decide_eq_decide]
  omega
theorem setCells_row {W : World} {g o : Nat} {cur : Array Value} {t : TypeId} (hg : W.heap[g]? = some (.cells cur t (0, 0))) (vs : List Value) (hf : o + vs.length ≤ cur.size) (h1 : ∀ v ∈ vs, v.oneCell' = true) : W.setCells g o vs = W.setRow g (cur.toList.take o ++ vs ++ cur.toList.drop (o + vs.length)).toArray := by
  have e1 := run_storeCells_at Try.prog g o t vs 0 cur W hg (by simpa using hf) h1
  have e2 := run_storeCells_cells (P := Try.prog) g o vs 0 W (fun j hj => by
    have hlt : o + j < cur.size := by omega
    simp [World.cell?, hg, hlt]) (fun j _ => by simp [World.frozen?, hg]) h1
  rw [e2] at e1
  injection e1
theorem infoB2 : (Try.prog.info? 43).map (·.size) = some 16 := by kernel_rfl
/-- An array of bytes, read whole. -/
theorem load_arr {W : World} {ops : Array Oper} {rest : List Oper} {o : Oper} {a : Act} {Q : Exit → Act → World → Prop} (hgd : o.guard = none) (x : Operand) (ho : o.op = .load 43 x) (g : Nat) (hx : a.eval x = .pointer (some ⟨g, 0, none⟩)) (T : TypeId) (P : List Nat) (hg : BkT W T g P) (hP : P.length = 16)
    (h : wpList Try.prog ops Q rest (a.put o.dst (.agg (cellsB P).toArray)) W) : wpList Try.prog ops Q (o :: rest) a W := by
  refine wpList_load_mid hgd 43 x ho g 0 hx (cellsB P) _ (fun j v hv => ?_) Try.underlying43 rfl (by rw [cellsB_len, hP]; exact infoB2) h
  obtain ⟨z, hz, rfl⟩ := cellsB_at hv
  rw [Nat.zero_add]
  exact hg.cell hz
/-- An array of bytes, written into a greater one. -/
theorem store_arr {W : World} {ops : Array Oper} {rest : List Oper} {op : Oper} {a : Act} {Q : Exit → Act → World → Prop} (hgd : op.guard = none) (x y : Operand) (ho : op.op = .store 43 x y) (g o : Nat) (T : TypeId) (L P : List Nat) (hx : a.eval x = .pointer (some ⟨g, o, none⟩)) (hy : a.eval y = .agg (cellsB P).toArray) (hg : BkT W T g L) (hP : P.length = 16) (hf : o + 16 ≤ L.length)
    (h : ∀ w', BkT w' T g (splice L o P) → Kp g g W w' → wpList Try.prog ops Q rest (a.put op.dst undef) w') : wpList Try.prog ops Q (op :: rest) a W := by
  have hs : (cellsB P).toArray.size = 16 := by simp [cellsB_len, hP]
  refine wpList_store_mid hgd 43 x y ho g o (cellsB P).toArray hx hy (fun j hj => ?_) (by rw [hs]; exact infoB2) (all_oneCell_toArray (oneB P)) ?_
  · have hlt : o + j < L.length := by omega
    exact ⟨by rw [hg.cell (List.getElem?_eq_getElem hlt)]; rfl, hg.free _⟩
  · have e := setCells_row (o := o) hg (cellsB P) (by simp [cellsB_len]; omega) (oneB P)
    have e2 : ((cellsB L).toArray.toList.take o ++ cellsB P ++ (cellsB L).toArray.toList.drop (o + (cellsB P).length)).toArray = (cellsB (splice L o P)).toArray := by
      rw [← cellsB_splice]
      simp [splice]
    rw [e2] at e
    show wpList Try.prog ops Q rest (a.put op.dst undef) (W.setCells g o (cellsB P))
    rw [e]
    exact h _ (setRow_heap W g _ _ T _ hg) (kp_setRow _ _ _)
/-- A write that is done. -/
theorem Kq.write {w : World} {g gb gw k j b : Nat} {D : Dk} {W w4 w5 : World} {P : List Nat} (h : Kq w g gb gw k j D W) (hP : P.length = 16) (hb : b < 8) (hj : j < k) (hk : k < 50) (hd : DkA w4 g gb (wrD D b P)) (hw : Kp g gb W w4) (hX : BkT w5 44 gw (splice D.bytes (16 * b) P)) (hw5 : Kp gw gw w4 w5) : Kq w g gb gw k (j + 1) (wrD D b P) w5 := by
  obtain ⟨n1, n2⟩ := h.nw
  have hwr := h.wr
  have hfu := h.fu
  refine ⟨hd.kp hw5 n1.symm n1.symm n2.symm n2.symm, wrD_ok h.ok hb hP (by omega), hX, ?_, ?_, by omega, h.geg, h.geb, h.gew, ?_⟩
  · show D.writes + 1 = _
    omega
  · show max (D.fuse - 1) (-1) = _
    omega
  · have h1 := hw.below h.geg h.geb h.bel.size
    have h2 := hw5.below (B := w.heap.size) h.gew h.gew (Nat.le_trans h.bel.size hw.size)
    exact h.bel.trans (h1.trans h2)
theorem Kq.start {w w2 w' : World} {g gb k : Nat} (hd : DkA w2 g gb (newD 8)) (hb : Below w.heap.size w w2) (hg : w.heap.size ≤ g ∧ w.heap.size ≤ gb) (hk : k < 50) (hD : DkA w' g gb (fuD (newD 8) (k : Int))) (hw : Kp g gb (w2.alloc (.cells Z128 44)) w') : Kq w g gb w2.heap.size k 0 (fuD (newD 8) (k : Int)) w' := by
  have e : fuD (newD 8) (k : Int) = ⟨List.replicate 128 0, 0, decide ((k : Int) ≠ 0), (k : Int)⟩ := by
    unfold fuD
    rw [if_pos (show (newD 8).power = true from rfl), show max (k : Int) (-1) = (k : Int) by omega]
    rfl
  rw [e] at hD ⊢
  have h1 := blk_lt hd.1
  have h2 := blk_lt hd.2
  refine ⟨hD, ⟨by simp, by omega, by omega, by simp, by simp, by show -1 ≤ (k : Int); omega, by show (k : Int) < _; omega, rfl⟩, ?_, rfl, by simp, Nat.zero_le _, hg.1, hg.2, hb.size, ?_⟩
  · refine (hw.block w2.heap.size (by rw [size_alloc]; omega) (by omega) (by omega)).trans ?_
    exact heap_new _ _
  · exact (hb.alloc hb.size _).trans (hw.below hg.1 hg.2 (Nat.le_trans hb.size (by rw [size_alloc]; omega)))
theorem below_drewN {n : Nat} {w w' : World} (h : Below n w w') : ∀ k, Below n w (w'.drewN k) := by
  intro k
  induction k with
  | zero => exact h
  | succ k ih => exact ih.drew
theorem conv_drew {w : World} {v : Value} {L : List Nat} (h : RowC w v L) (q : Nat) : (convert 22 9 v).run Try.prog (w.drewN q) = .ok (.string (strB L)) (w.drewN q) :=
  conv_bytes (h.below (below_drewN (Below.refl w.heap.size w) q) (Nat.le_refl _))
/-- What stands while the blocks are read. -/
structure Ke (w : World) (g gb gw : Nat) (E : Dk) (W : World) : Prop where
  dk : DkA W g gb E
  len : E.bytes.length = 16 * 8
  pw : E.power = true
  want : BkT W 44 gw E.bytes
  bel : Below w.heap.size w W
theorem Ke.up {w : World} {g gb gw : Nat} {E : Dk} {W W' : World} (h : Ke w g gb gw E W) (hb : Below W.heap.size W W') : Ke w g gb gw E W' :=
  ⟨h.dk.below hb (Nat.le_refl _), h.len, h.pw, (hb.block gw (blk_lt h.want)).trans h.want, h.bel.trans (hb.mono h.bel.size)⟩
theorem Kq.re {w : World} {g gb gw k j : Nat} {D : Dk} {W W' : World} (h : Kq w g gb gw k j D W) (hd : DkA W' g gb (reD D)) (hw : Kp g gb W W') : Ke w g gb gw (reD D) W' := by
  obtain ⟨n1, n2⟩ := h.nw
  exact ⟨hd, h.ok.len, rfl, (hw.block gw (blk_lt h.want) n1 n2).trans h.want, h.bel.trans (hw.below h.geg h.geb h.bel.size)⟩
set_option maxRecDepth 100000 in
set_option maxHeartbeats 4000000 in
theorem diskKeeps_walk (O : List Oc) (ov : Value) (f : Int) (w : World) (hr : RowO w ov O) (_ : -9223372036854775808 ≤ f) (_ : f < 9223372036854775808) : Calls Try.prog 4 #[ov, .int .i64 f] w fun e w' => e = .returned (.bool true) ∧ Below w.heap.size w w' := by
  have hO := hide' hr
  obtain ⟨oa, cap, rfl, _, _⟩ := hr
  generalize hm : O.length = m at *
  have hm' := hide' hm
  clear hm
  have K := hide' (newF 8 w (by omega) (by omega))
  unfold NewP at K
  rw [show ((8 : Nat) : Int) = 8 from rfl] at K
  go_enter Try.func4, Try.ntmps4
  go_wp2_with fail
  refine K.out.mono ?_
  rintro e w1 ⟨g, gb, rfl, hd, hge, hb⟩
  have K1 := hide' (wakesF w1)
  go_upto_if 35 with (go_at_call 12; refine K1.out.mono ?_; rintro e w2 ⟨rfl, hw2⟩; have hw2' := hide' hw2; clear hw2)
  go_cut [7] from 36 to 37 (fun kv wx => wx = w2 ∧ ∃ k : Nat, k < 50 ∧ kv = .int .i64 (k : Int))
  case first =>
    have ht := tmod50 f
    by_cases h0 : f.tmod 50 < 0
    · go_wp2
      go_meet
      case rel => exact ⟨rfl, (f.tmod 50).natAbs, ht, by simp only [Value.int.injEq, true_and]; omega⟩
    · go_wp2
      go_meet
      case rel => exact ⟨rfl, (f.tmod 50).natAbs, ht, by simp only [Value.int.injEq, true_and]; omega⟩
  case rest =>
    obtain ⟨rfl, k, hk, rfl⟩ := hcut
    have hd2 := hide' (hd.out.below hw2'.out (Nat.le_refl _))
    have zA := zeroA
    have K2 := hide' (fuseF (hide' (hd2.out.below ((Below.refl wc.heap.size wc).alloc (Nat.le_refl _) (.cells Z128 44)) (Nat.le_refl _))).out (k : Int))
    unfold ChP at K2
    go_wp2_with fail
    refine K2.out.mono ?_
    rintro e w3 ⟨rfl, hd3, hw3⟩
    have hQ := hide' (Kq.start hd2.out (hb.out.trans (hw2'.out.mono hb.out.size)) hge.out hk hd3.out hw3.out)
    clear hd3 hw3 K2 hd2 hw2' K1 hd hge hb K zA
    generalize wc.heap.size = gw at *
    generalize fuD (newD 8) (k : Int) = D at *
    go_upto_block 0 with fail
    go_cut [4, 9, 10, 11, 12, 13, 14] from 41 to 109 (fun _ dv _ _ _ _ _ wx => ∃ (j : Nat) (D : Dk), dv = .int .i64 (j : Int) ∧ Hid (Kq w g gb gw k j D wx))
    case first => as_aux_lemma =>
      go_wp2_with fail
      go_loopw [9, 10, 11, 12, 13, 14] (fun dv iv _ _ _ _ wr => ∃ (j i : Nat) (D : Dk), dv = .int .i64 (j : Int) ∧ iv = .int .i64 (i : Int) ∧ i ≤ 200 ∧ Hid (Kq w g gb gw k j D wr)) (fun _ iv _ _ _ _ _ => ((200 : Int) - intOf iv).toNat)
      case atStart => exact ⟨0, 0, D, rfl, rfl, by omega, hQ⟩
      case round =>
        clear hQ
        obtain ⟨j, i, D, rfl, rfl, hi, hQ⟩ := hrel
        have hjk := hQ.out.le
        by_cases hlt : i < m ∧ i < 200
        · have hlt1 : (i : Int) < (m : Int) := by omega
          have hlt2 : (i : Int) < 200 := by omega
          have zB := zeroB
          obtain ⟨p, hp⟩ : ∃ p, O[i]? = some p := ⟨_, List.getElem?_eq_getElem (by rw [hm'.out]; omega)⟩
          obtain ⟨go, oo, dv, rfl, hcs, hrow⟩ := hO.out.at hp
          obtain ⟨od, cd, rfl, hcd, hcc⟩ := hrow
          have hcc' := hide' hcc
          clear hcc
          generalize hdl : p.data.length = dl at *
          have hdl' := hide' hdl
          clear hdl
          have hQ0 := hide' (hQ.out.up ((Below.refl _ wr).alloc (Nat.le_refl _) (.cells Z16 43)))
          have hX0 : Hid (BkT (wr.alloc (.cells Z16 43)) 43 wr.heap.size (List.replicate 16 0)) := heap_new _ _
          have hgx : Hid (wr.heap.size ≠ g ∧ wr.heap.size ≠ gb ∧ wr.heap.size ≠ gw ∧ w.heap.size ≤ wr.heap.size) := by
            have h1 := blk_lt hQ.out.dk.1
            have h2 := blk_lt hQ.out.dk.2
            have h3 := blk_lt hQ.out.want
            exact ⟨by omega, by omega, by omega, hQ.out.bel.size⟩
          go_upto_block 2 with fail
          clear hQ
          generalize wr.alloc (.cells Z16 43) = W0 at *
          generalize wr.heap.size = gx at *
          go_cut [12] from 41 to 109 (fun _ wx => ∃ P, Hid (P.length = 16) ∧ Hid (BkT wx 43 gx P) ∧ Hid (Kp gx gx W0 wx))
          case first => as_aux_lemma =>
            go_wp2_with fail
            go_loopw [12] (fun cv wx => ∃ (c : Nat) (P : List Nat), cv = .int .i64 (c : Int) ∧ c ≤ 16 ∧ Hid (P.length = 16) ∧ Hid (BkT wx 43 gx P) ∧ Hid (Kp gx gx W0 wx)) (fun cv _ => ((16 : Int) - intOf cv).toNat)
            case atStart => exact ⟨0, _, rfl, by omega, by simp [Hid], hX0, Kp.refl _ _ _⟩
            case round =>
              obtain ⟨c, P, rfl, hc, hP, hX, hK⟩ := hrel
              have hQx := hide' (hQ0.out.kp hK.out hgx.out.1 hgx.out.2.1 hgx.out.2.2.1 hgx.out.2.2.2)
              obtain ⟨c0, c1, c2, c3⟩ := hcs.out wr hQx.out.bel
              by_cases h16 : c < 16
              · have h16' : (c : Int) < 16 := by omega
                by_cases hcd : c < dl
                · have hcd' : (c : Int) < (dl : Int) := by omega
                  obtain ⟨z, hz⟩ : ∃ z, p.data[c]? = some z := ⟨_, List.getElem?_eq_getElem (by rw [hdl'.out]; exact hcd)⟩
                  obtain ⟨gd, o, rfl, hcell⟩ := hcc'.out c z hz
                  have hcell' := (hQx.out.bel.cell (p := ⟨gd, o + c, none⟩) (cell_lt hcell)).trans hcell
                  obtain ⟨y, hy⟩ : ∃ y, P[c]? = some y := ⟨_, List.getElem?_eq_getElem (by rw [hP.out]; exact h16)⟩
                  have hxc := hX.out.cell hy
                  have hxf := hX.out.free
                  go_wp2
                  exact ⟨⟨c + 1, P.set c z, by go_num, by omega, by simpa [Hid] using hP.out, hX.out.set c z, hK.out.set _ _⟩, by simp [intOf]; omega⟩
                · have hcd' : ¬ (c : Int) < (dl : Int) := by omega
                  go_wp2_with fail
                  go_meet
                  case rel => exact ⟨P, hP, hX, hK⟩
              · have h16' : ¬ (c : Int) < 16 := by omega
                go_wp2_with fail
                go_meet
                case rel => exact ⟨P, hP, hX, hK⟩
          case rest =>
            obtain ⟨P, hP, hX, hK⟩ := hcut
            have hQx := hide' (hQ0.out.kp hK.out hgx.out.1 hgx.out.2.1 hgx.out.2.2.1 hgx.out.2.2.2)
            obtain ⟨c0, c1, c2, c3⟩ := hcs.out wc hQx.out.bel
            go_upto_if 82 with fail
            go_cut [13] from 41 to 109 (fun nv wx => wx = wc ∧ ∃ b : Nat, b < 8 ∧ nv = .int .i64 (b : Int))
            case first =>
              have ht := tmod8 p.n
              by_cases h0 : p.n.tmod 8 < 0
              · go_wp2
                go_meet
                case rel => exact ⟨rfl, (p.n.tmod 8 + 8).toNat, by omega, by simp only [Value.int.injEq, true_and]; omega⟩
              · go_wp2
                go_meet
                case rel => exact ⟨rfl, (p.n.tmod 8).toNat, by omega, by simp only [Value.int.injEq, true_and]; omega⟩
            case rest =>
              obtain ⟨rfl, b, hb8, rfl⟩ := hcut
              have hrow := hX.out.row (o := 0) (n := 16) (cap := 16) (M := P) (fun i z hz => by rw [Nat.zero_add]; exact hz) hP.out.symm (Nat.le_refl _)
              by_cases hjk2 : j < k
              · have hjk3 : (j : Int) < (k : Int) := by omega
                have K3 := hide' (writeF hQx.out.dk hQx.out.ok b hb8 (by rw [hQx.out.pow]; simpa using hjk2) P _ hrow hP.out (by rw [hQx.out.wr]; omega))
                unfold ChP at K3
                clear hrow
                go_wp2_with fail
                refine K3.out.mono ?_
                rintro e w4 ⟨rfl, hd4, hw4⟩
                have hX4 : Hid (BkT w4 43 gx P) := (hw4.out.block gx (blk_lt hX.out) hgx.out.1 hgx.out.2.1).trans hX.out
                have hW4 : Hid (BkT w4 44 gw D.bytes) := (hw4.out.block gw (blk_lt hQx.out.want) hQx.out.nw.1 hQx.out.nw.2).trans hQx.out.want
                have hfit : 16 * b + 16 ≤ D.bytes.length := by rw [hQx.out.ok.len]; omega
                go_wp2_with (first | (refine load_arr rfl (.tmp 11) rfl gx rfl _ P hX4.out hP.out ?_) | (refine store_arr rfl (.tmp 107) (.tmp 106) rfl gw (b * 16) _ D.bytes P rfl rfl hW4.out hP.out (by omega) ?_))
                intro w5 hX5 hw5
                rw [show b * 16 = 16 * b by omega] at hX5
                have hQ5 := hide' (hQx.out.write hP.out hb8 hjk2 hk hd4.out hw4.out hX5 hw5)
                clear hX5 hw5
                go_wp2
                exact ⟨⟨j + 1, i + 1, wrD D b P, by go_num, by go_num, by omega, hQ5⟩, by simp [intOf]; omega⟩
              · have hjk3 : ¬ (j : Int) < (k : Int) := by omega
                have K3 := hide' (writeDown hQx.out.dk hQx.out.ok.len hQx.out.ok.most (b : Int) P _ hrow (by omega) hP.out (by rw [hQx.out.pow]; simpa using hjk2))
                clear hrow
                go_wp2_with (go_at_call 19; refine K3.out.mono ?_; rintro e w4 ⟨rfl, hw1⟩; obtain rfl : wc = w4 := hw1.symm)
                exact ⟨⟨j, i + 1, D, by go_num, by go_num, by omega, hQx⟩, by simp [intOf]; omega⟩
        · by_cases h200 : (i : Int) < (m : Int)
          · have h2 : ¬ (i : Int) < 200 := by omega
            go_wp2_with fail
            go_meet
            case rel => exact ⟨j, D, rfl, hQ⟩
          · go_wp2_with fail
            go_meet
            case rel => exact ⟨j, D, rfl, hQ⟩
    case rest =>
      obtain ⟨j, D, rfl, hQ⟩ := hcut
      have K3 := hide' (powerF hQ.out.dk)
      rw [hQ.out.pow] at K3
      have K4 := hide' (writesF hQ.out.dk)
      rw [hQ.out.wr] at K4
      have K5 := hide' (restartF hQ.out.dk)
      unfold ChP at K5
      go_wp2_with (first | (go_at_call 20; refine K3.out.mono ?_; rintro e w4 ⟨rfl, hw1⟩; obtain rfl : wc = w4 := hw1.symm) | (go_at_call 17; refine K4.out.mono ?_; rintro e w4 ⟨rfl, hw1⟩; obtain rfl : wc = w4 := hw1.symm) | (go_at_call 21; refine K5.out.mono ?_; rintro e w4 ⟨rfl, hd4, hw4⟩))
      have hE := hide' (hQ.out.re hd4.out hw4.out)
      clear hQ hd4 hw4 K3 K4 K5
      generalize reD D = E at *
      go_loopw [15, 16, 17] (fun nv _ _ wr => ∃ n : Nat, n ≤ 8 ∧ nv = .int .i64 (n : Int) ∧ Hid (Ke w g gb gw E wr)) (fun nv _ _ _ => ((8 : Int) - intOf nv).toNat)
      case atStart => exact ⟨0, by omega, rfl, hE⟩
      case round =>
        clear hE
        obtain ⟨n, hn, rfl, hE⟩ := hrel
        by_cases h8 : n < 8
        · have h8' : (n : Int) < 8 := by omega
          have K3 := hide' (readF hE.out.dk hE.out.len (by omega) n h8 hE.out.pw)
          unfold RdP at K3
          go_wp2_with fail
          refine K3.out.mono ?_
          rintro e w5 ⟨rfl, hb5, hw5⟩
          have hE5 := hide' (hE.out.up hw5.out)
          have hl := blkB_len (b := n) hE5.out.len h8
          have cb1 := conv_drew (row16 hb5.out hl)
          have cb2 := conv_drew (hE5.out.want.row (o := n * 16) (n := 16) (cap := 16) (M := blkB E.bytes n) (fun i z hz => by rw [show n * 16 = 16 * n by omega]; exact blkB_at hz) hl.symm (Nat.le_refl _))
          generalize wr.heap.size = gr at *
          go_wp2_with fail
          go_quiet (fail)
          have hE6 := hide' (hE5.out.up (below_drewN (Below.refl _ w5) nq))
          go_wp2
          exact ⟨⟨n + 1, by omega, by go_num, hE6⟩, by simp [intOf]; omega⟩
        · have h8' : ¬ (n : Int) < 8 := by omega
          have K3 := hide' (powerF hE.out.dk)
          rw [hE.out.pw] at K3
          go_wp2_with (go_at_call 20; refine K3.out.mono ?_; rintro e w4 ⟨rfl, hw1⟩; obtain rfl : wr = w4 := hw1.symm)
          go_ret
          exact ⟨rfl, hE.out.bel⟩
end Go.Proofs.Ytkabileeincjaaa

/- DiskBack, walked. -/
import Derived.Test.YtkabileeincjaaaDkO
import Derived.Deep.CutBlock
import Derived.Deep.CutRange
import Derived.Deep.QuietTactic
import Derived.BigQuiet
import Derived.Deep.RegionHeld3
namespace Go.Proofs.Ytkabileeincjaaa
open Go.RowKit
theorem below_drewN {n : Nat} {w w' : World} (h : Below n w w') : ∀ k, Below n w (w'.drewN k) := by
  intro k
  induction k with
  | zero => exact h
  | succ k ih => exact ih.drew
theorem conv_drew {w : World} {v : Value} {L : List Nat} (h : RowC w v L) (q : Nat) : (convert 22 9 v).run Try.prog (w.drewN q) = .ok (.string (strB L)) (w.drewN q) :=
  conv_bytes (h.below (below_drewN (Below.refl w.heap.size w) q) (Nat.le_refl _))
/-- A disk of so many blocks in memory of one's own, with at most so many writes. -/
structure Kb (w : World) (g gb n c : Nat) (D : Dk) (W : World) : Prop where
  dk : DkA W g gb D
  ok : DkO D n
  wr : D.writes ≤ (c : Int)
  geg : w.heap.size ≤ g
  geb : w.heap.size ≤ gb
  bel : Below w.heap.size w W
theorem Kb.up {w : World} {g gb n c : Nat} {D : Dk} {W W' : World} (h : Kb w g gb n c D W) (hb : Below W.heap.size W W') : Kb w g gb n c D W' :=
  ⟨h.dk.below hb (Nat.le_refl _), h.ok, h.wr, h.geg, h.geb, h.bel.trans (hb.mono h.bel.size)⟩
theorem Kb.drew {w : World} {g gb n c : Nat} {D : Dk} {W : World} (h : Kb w g gb n c D W) : Kb w g gb n c D W.drew := h.up (Below.refl _ W).drew
/-- Any write. -/
def WaP (w : World) (g gb n c : Nat) (W : World) (e : Ending) (w' : World) : Prop :=
  ∃ (D' : Dk) (x : Int), e = .returned (.int .i64 x) ∧ Hid (Kb w g gb n (c + 1) D' w') ∧ Hid (Kp g gb W w')
theorem writeAny {w : World} {g gb n c : Nat} {D : Dk} {W : World} (h : Kb w g gb n c D W) (hc : c ≤ 100000) (b : Int) (L : List Nat) (v : Value) (hv : RowC W v L) :
    Calls Try.prog 19 #[.pointer (some ⟨g, 0, none⟩), .int .i64 b, v] W (WaP w g gb n c W) := by
  have hw := h.wr
  have hup : Kb w g gb n (c + 1) D W := ⟨h.dk, h.ok, by omega, h.geg, h.geb, h.bel⟩
  by_cases hb : (0 ≤ b ∧ b < (n : Int)) ∧ L.length = 16
  · obtain ⟨b', rfl⟩ : ∃ b' : Nat, b = (b' : Int) := ⟨b.toNat, by omega⟩
    by_cases hp : D.power = true
    · refine (writeF h.dk h.ok b' (by omega) hp L v hv hb.2 (by omega)).mono ?_
      rintro e w' ⟨rfl, h1, h2⟩
      exact ⟨_, _, rfl, ⟨h1.out, wrD_ok h.ok (by omega) hb.2 (by omega), by show D.writes + 1 ≤ _; omega, h.geg, h.geb, h.bel.trans (h2.out.below h.geg h.geb h.bel.size)⟩, h2⟩
    · refine (writeDown h.dk h.ok.len h.ok.most b' L v hv hb.1 hb.2 (by simpa using hp)).mono ?_
      rintro e w' ⟨rfl, rfl⟩
      exact ⟨D, _, rfl, hup, Kp.refl _ _ _⟩
  · refine (writeBad h.dk h.ok.len h.ok.most b L v hv hb).mono ?_
    rintro e w' ⟨rfl, rfl⟩
    exact ⟨D, _, rfl, hup, Kp.refl _ _ _⟩
/-- Two disks, and the bytes of the first one as they were. -/
structure Kt (w : World) (g gb h hb gi c e : Nat) (B : List Nat) (D E : Dk) (W : World) : Prop where
  a : Kb w g gb 5 c D W
  b : Kb w h hb 5 e E W
  im : BkB W gi B
  n1 : h ≠ g ∧ h ≠ gb ∧ hb ≠ g ∧ hb ≠ gb
  n2 : gi ≠ g ∧ gi ≠ gb ∧ gi ≠ h ∧ gi ≠ hb
theorem Kt.up {w : World} {g gb h hb gi c e : Nat} {B : List Nat} {D E : Dk} {W W' : World} (k : Kt w g gb h hb gi c e B D E W) (hw : Below W.heap.size W W') : Kt w g gb h hb gi c e B D E W' :=
  ⟨k.a.up hw, k.b.up hw, k.im.below hw (blk_lt k.im), k.n1, k.n2⟩
theorem Kt.drew {w : World} {g gb h hb gi c e : Nat} {B : List Nat} {D E : Dk} {W : World} (k : Kt w g gb h hb gi c e B D E W) : Kt w g gb h hb gi c e B D E W.drew := k.up (Below.refl _ W).drew
theorem Kb.kp {w : World} {g gb n c x y : Nat} {D : Dk} {W W' : World} (h : Kb w g gb n c D W) (k : Kp x y W W') (n1 : g ≠ x ∧ g ≠ y ∧ gb ≠ x ∧ gb ≠ y) (hb : Below w.heap.size w W') : Kb w g gb n c D W' :=
  ⟨h.dk.kp k n1.1 n1.2.1 n1.2.2.1 n1.2.2.2, h.ok, h.wr, h.geg, h.geb, hb⟩
theorem Kt.wb {w : World} {g gb h hb gi c e : Nat} {B : List Nat} {D E E' : Dk} {W W' : World} (k : Kt w g gb h hb gi c e B D E W) (k2 : Kb w h hb 5 (e + 1) E' W') (kp : Kp h hb W W') : Kt w g gb h hb gi c (e + 1) B D E' W' :=
  ⟨k.a.kp kp ⟨k.n1.1.symm, k.n1.2.2.1.symm, k.n1.2.1.symm, k.n1.2.2.2.symm⟩ k2.bel, k2, (kp.block gi (blk_lt k.im) k.n2.2.2.1 k.n2.2.2.2).trans k.im, k.n1, k.n2⟩
theorem Kt.wa {w : World} {g gb h hb gi c e : Nat} {B : List Nat} {D E D' : Dk} {W W' : World} (k : Kt w g gb h hb gi c e B D E W) (k2 : Kb w g gb 5 (c + 1) D' W') (kp : Kp g gb W W') : Kt w g gb h hb gi (c + 1) e B D' E W' :=
  ⟨k2, k.b.kp kp ⟨k.n1.1, k.n1.2.1, k.n1.2.2.1, k.n1.2.2.2⟩ k2.bel, (kp.block gi (blk_lt k.im) k.n2.1 k.n2.2.1).trans k.im, k.n1, k.n2⟩
theorem Kt.conv {w : World} {g gb h hb gi c e n : Nat} {B : List Nat} {D E : Dk} {W : World} (k : Kt w g gb h hb gi c e B D E W) (hn : B.length = n) : (convert 22 9 (.slice (some ⟨gi, 0, none⟩) n n)).run Try.prog W = .ok (.string (strB B)) W :=
  conv_bytes (RowC.of_bk k.im (fun i z hz => by rw [Nat.zero_add]; exact hz) hn.symm (Nat.le_refl _))
set_option maxRecDepth 100000 in
set_option maxHeartbeats 4000000 in
theorem diskBack_walk (O M : List Oc) (ov mv : Value) (w : World) (hr : RowO w ov O) (hq : RowO w mv M) : Calls Try.prog 5 #[ov, mv] w fun e w' => e = .returned (.bool true) ∧ Below w.heap.size w w' := by
  have hO := hide' hr
  have hM := hide' hq
  obtain ⟨oa, cap, rfl, _, _⟩ := hr
  obtain ⟨ma, mcap, rfl, _, _⟩ := hq
  generalize hm : O.length = m at *
  have hm' := hide' hm
  clear hm
  generalize hk : M.length = k at *
  have hk' := hide' hk
  clear hk
  have K := hide' (newF 5 w (by omega) (by omega))
  unfold NewP at K
  rw [show ((5 : Nat) : Int) = 5 from rfl] at K
  go_enter Try.func5, Try.ntmps5
  go_wp2_with fail
  refine K.out.mono ?_
  rintro e w1 ⟨g, gb, rfl, hd, hge, hb⟩
  have K1 := hide' (wakesF w1)
  have hQ1 : Hid (Kb w g gb 5 0 (newD 5) w1) := ⟨hd.out, newD_ok (by omega) (by omega), by simp [newD], hge.out.1, hge.out.2, hb.out⟩
  go_upto_block 0 with (go_at_call 12; refine K1.out.mono ?_; rintro e w2 ⟨rfl, hw2⟩; have hQ2 := hide' (hQ1.out.up hw2); clear hw2)
  clear hQ1 K1 hd hge hb K
  go_cut [7] from 28 to 50 (fun _ wx => ∃ (D : Dk), Hid (Kb w g gb 5 200 D wx))
  case first =>
    go_wp2_with fail
    go_loopw [7] (fun iv wr => ∃ (i : Nat) (D : Dk), iv = .int .i64 (i : Int) ∧ i ≤ 200 ∧ Hid (Kb w g gb 5 i D wr)) (fun iv _ => ((200 : Int) - intOf iv).toNat)
    case atStart => exact ⟨0, _, rfl, by omega, hQ2⟩
    case round =>
      clear hQ2
      obtain ⟨i, D, rfl, hi, hQ⟩ := hrel
      by_cases hlt : i < m ∧ i < 200
      · have hlt1 : (i : Int) < (m : Int) := by omega
        have hlt2 : (i : Int) < 200 := by omega
        obtain ⟨p, hp⟩ : ∃ p, O[i]? = some p := ⟨_, List.getElem?_eq_getElem (by rw [hm'.out]; omega)⟩
        obtain ⟨go, oo, dv, rfl, hcs, hrow⟩ := hO.out.at hp
        obtain ⟨od, cd, rfl, hcd, hcc⟩ := hrow
        have hrow : Hid (RowC w (.slice od p.data.length cd) p.data) := ⟨od, cd, rfl, hcd, hcc⟩
        clear hcd hcc
        go_upto_region 7 with fail
        generalize hL : p.data = L at *
        generalize hdl : L.length = dl at *
        clear hL hdl
        have KF : Hid (∀ V, Below w.heap.size w V → Calls Try.prog 10 #[.slice od dl cd] V fun e w' => ∃ v', e = .returned v' ∧ w'.ownsRow V.heap.size 5 1 v' (L.take 2000).length (cellsB (L.take 2000)) ∧ Below V.heap.size V w') := fun V hV => fewF L _ V (hrow.out.below hV (Nat.le_refl _))
        have hS : Hid (∀ V, Below w.heap.size w V → (V.cell? ⟨go, oo + i * 4 + 2, none⟩ = some (.int .i64 p.n) ∧ V.cell? ⟨go, oo + i * 4 + 3, none⟩ = some (.slice od dl cd) ∧ Below w.heap.size w V)) := fun V hV => ⟨(hcs.out V hV).2.2.1, (hcs.out V hV).2.2.2, hV⟩
        go_region_held3 (fun V => V.cell? ⟨go, oo + i * 4 + 2, none⟩ = some (.int .i64 p.n) ∧ V.cell? ⟨go, oo + i * 4 + 3, none⟩ = some (.slice od dl cd) ∧ Below w.heap.size w V) (first | assumption | (exact hS.out _ hQ.out.bel) | (exact hS.out _ hQ.out.drew.bel) | (exact hS.out _ hQ1.out.bel) | (exact hS.out _ hQ2.out.bel)) (first | (go_at_call 10; refine (KF.out _ (by first | exact hQ.out.drew.bel | exact hQ.out.bel)).mono ?_; rintro e w1 ⟨v', rfl, hown, hbf⟩; have hQ1 := hide' (hQ.out.drew.up hbf)) | (go_at_call 19; refine (writeAny hQ1.out (by omega) p.n _ _ (RowC.of_owns hown)).mono ?_; rintro e w2 ⟨D', x, rfl, hQ2, hk2⟩))
        go_wp2
        exact ⟨⟨i + 1, D', by go_num, by omega, hQ2⟩, by simp [intOf]; omega⟩
      · have hup : Hid (Kb w g gb 5 200 D wr) := ⟨hQ.out.dk, hQ.out.ok, by have := hQ.out.wr; omega, hQ.out.geg, hQ.out.geb, hQ.out.bel⟩
        by_cases h200 : (i : Int) < (m : Int)
        · have h2 : ¬ (i : Int) < 200 := by omega
          go_wp2_with fail
          go_meet
          case rel => exact ⟨D, hup⟩
        · go_wp2_with fail
          go_meet
          case rel => exact ⟨D, hup⟩
  case rest =>
    obtain ⟨D, hQ⟩ := hcut
    clear hQ2
    have K2 := hide' (imageF hQ.out.dk (by rw [hQ.out.ok.len]; omega))
    unfold CoP at K2
    have hlen := hQ.out.ok.len
    rw [hlen] at K2
    go_wp2_with fail
    refine K2.out.mono ?_
    rintro e w3 ⟨rfl, hI3, hw3⟩
    have hQ3 := hide' (hQ.out.up hw3.out)
    obtain ⟨i0, hi, hz0, hz1, hz2⟩ := info_parts infoU8
    have hlen3 := hide' hlen
    clear hlen K2
    generalize hgi : wc.heap.size = gi at *
    have hgi' := hide' hgi
    clear hgi
    have hnews : Hid (∀ j u, (cellsB D.bytes)[j]? = some u → (w3.alloc (.cells #[] 5)).cell? (Addr.add ⟨gi, 0, none⟩ j) = some u) := fun j u hu => by
      obtain ⟨z, hz, rfl⟩ := cellsB_at hu
      rw [Addr.add_lit]
      refine cell_new ?_
      rw [Nat.zero_add]
      exact hI3.out.cell hz
    go_wp2_with (at_builtin; refine wpList_append_own _ rfl _ _ 22 rfl w3.heap.size 5 i0 (.int .u8 0) 1 1 Try.underlying22 hi hz0 hz1 hz2 rfl (by decide) _ 0 (cellsB []) rfl (owns_zero w3 _) ⟨gi, 0, none⟩ 80 80 (cellsB D.bytes) rfl (by rw [cellsB_len, hlen3.out]) hnews.out (oneB _) (by unfold maxLen; omega) (by omega) (by simp) ?_; intro v1 w4 hown4 hgrow4 _; have hB4 := hide' (((Below.refl _ w3).alloc (Nat.le_refl _) (.cells #[] 5)).grown hgrow4 (by simp) (fun j ej => by cases ej; exact Nat.le_refl _)); have hown5 := hide' hown4; clear hgrow4 hown4)
    have hown6 : Hid (w4.ownsRow w3.heap.size 5 1 v1 D.bytes.length (cellsB D.bytes)) := by
      have := hown5.out
      rw [hlen3.out]
      exact this
    clear hown5
    have K4 := hide' (loadF D.bytes 5 v1 w4 (RowC.of_owns hown6.out) hlen3.out (by omega) (by omega))
    unfold NewP at K4
    refine K4.out.mono ?_
    rintro e w5 ⟨h, hb, rfl, hd5, hge5, hB5⟩
    have hT5 : Hid (Kt w g gb h hb gi 200 0 D.bytes D (ldD D.bytes) w5) := by
      have h1 := hQ3.out.up hB4.out
      have h2 := h1.up hB5.out
      have l1 := blk_lt h1.dk.1
      have l2 := blk_lt h1.dk.2
      have i4 := hI3.out.below hB4.out (blk_lt hI3.out)
      have l3 := blk_lt i4
      have l4 := blk_lt hQ.out.dk.1
      have l5 := blk_lt hQ.out.dk.2
      have e1 := hgi'.out
      have g1 := hge5.out.1
      have g2 := hge5.out.2
      have g3 := h1.bel.size
      exact ⟨h2, ⟨hd5.out, ldD_ok hlen3.out (by omega) (by omega), by simp [ldD], by omega, by omega, h2.bel⟩, i4.below hB5.out l3, ⟨by omega, by omega, by omega, by omega⟩, ⟨by omega, by omega, by omega, by omega⟩⟩
    clear K4 hB5 hge5 hd5 hown6 hB4 hnews hI3 hQ3 hQ hw3
    have hBl := hlen3
    rw [show ldD D.bytes = ldD D.bytes from rfl] at hT5
    have KB := hide' (blocksF hT5.out.drew.b.dk hlen3.out (by omega))
    rw [show ((5 : Nat) : Int) = 5 from rfl] at KB
    have KW := hide' (writesF hT5.out.drew.b.dk)
    rw [show (ldD D.bytes).writes = 0 from rfl] at KW
    have KI := hide' (imageF hT5.out.drew.b.dk (by rw [show (ldD D.bytes).bytes = D.bytes from rfl, hlen3.out]; omega))
    unfold CoP at KI
    rw [show (ldD D.bytes).bytes = D.bytes from rfl, hlen3.out, show w5.drew.heap.size = w5.heap.size from rfl] at KI
    have hS : Hid (∀ V, (∃ D' E' c e, Kt w g gb h hb gi c e D.bytes D' E' V) → (convert 22 9 (.slice (some ⟨gi, 0, none⟩) 80 80)).run Try.prog V = .ok (.string (strB D.bytes)) V) := fun V hV => by
      obtain ⟨D', E', c, e, hV⟩ := hV
      exact hV.conv hlen3.out
    generalize hbs : strB D.bytes = bs at *
    have hbs' := hide' hbs
    clear hbs
    go_wp2_with fail
    refine wp_region_held_drew (S := (fun V => (convert 22 9 (.slice (some ⟨gi, 0, none⟩) 80 80)).run Try.prog V = .ok (.string bs) V)) (by kernel_rfl) ?_ (fun hHeld => ?_)
    · exact hS.out _ ⟨_, _, _, _, hT5.out.drew⟩
    refine wpAnyH_take (i := 0) (oi := { dst := some 60, op := Op.move (Operand.tmp 9), type := 24, pos := "law.go:132", after := #[], guard := none }) (v := ?_) rfl (by kernel_rfl) (by kernel_rfl) (by kernel_rfl) (fun _ _ _ h => h) (Or.inl ⟨by rfl, ?_⟩) (by assumption) ?_
    rotate_left
    · intro w hSw; (try dsimp only at hSw); go_simp <;> with_reducible rfl
    simp only [Act.put, List.setIfInBounds_toArray, List.set_cons_zero, List.set_cons_succ]
    refine wpAnyH_take (i := 1) (oi := { dst := some 61, op := Op.binOp BinOp.eql 24 (Operand.tmp 60) (Operand.const (Value.pointer none)) 24, type := 4, pos := "law.go:132", after := #[{ on := 0, ground := Ground.data }], guard := none }) (v := ?_) rfl (by kernel_rfl) (by kernel_rfl) (by kernel_rfl) (fun _ _ _ h => h) (Or.inl ⟨by rfl, ?_⟩) (by assumption) ?_
    rotate_left
    · intro w hSw; (try dsimp only at hSw); go_simp <;> with_reducible rfl
    simp only [Act.put, List.setIfInBounds_toArray, List.set_cons_zero, List.set_cons_succ]
    refine wpAnyH_take (i := 2) (oi := { dst := some 62, op := Op.move (Operand.tmp 61), type := 4, pos := "law.go:132", after := #[{ on := 1, ground := Ground.data }], guard := none }) (v := ?_) rfl (by kernel_rfl) (by kernel_rfl) (by kernel_rfl) (fun _ _ _ h => h) (Or.inl ⟨by rfl, ?_⟩) (by assumption) ?_
    rotate_left
    · intro w hSw; (try dsimp only at hSw); go_simp <;> with_reducible rfl
    simp only [Act.put, List.setIfInBounds_toArray, List.set_cons_zero, List.set_cons_succ]
    refine wpAnyH_take (i := 3) (oi := { dst := some 63, op := Op.move (Operand.tmp 10), type := 25, pos := "law.go:132", after := #[{ on := 2, ground := Ground.guard }], guard := some (2, false) }) (v := ?_) rfl (by kernel_rfl) (by kernel_rfl) (by kernel_rfl) (fun _ _ _ h => h) (Or.inl ⟨by rfl, ?_⟩) (by assumption) ?_
    rotate_left
    · intro w hSw; (try dsimp only at hSw); go_simp <;> with_reducible rfl
    simp only [Act.put, List.setIfInBounds_toArray, List.set_cons_zero, List.set_cons_succ]
    refine wpAnyH_take (i := 4) (oi := { dst := some 64, op := Op.binOp BinOp.neq 25 (Operand.tmp 63) (Operand.const (Value.int IntKind.i64 0)) 25, type := 4, pos := "law.go:132", after := #[{ on := 3, ground := Ground.data }, { on := 2, ground := Ground.guard }], guard := some (2, false) }) (v := ?_) rfl (by kernel_rfl) (by kernel_rfl) (by kernel_rfl) (fun _ _ _ h => h) (Or.inl ⟨by rfl, ?_⟩) (by assumption) ?_
    rotate_left
    · intro w hSw; (try dsimp only at hSw); go_simp <;> with_reducible rfl
    simp only [Act.put, List.setIfInBounds_toArray, List.set_cons_zero, List.set_cons_succ]
    refine wpAnyH_take (i := 5) (oi := { dst := some 65, op := Op.pick (Operand.tmp 62) (Operand.const (Value.bool true)) (Operand.tmp 64), type := 4, pos := "law.go:132", after := #[{ on := 2, ground := Ground.data }, { on := 4, ground := Ground.data }], guard := none }) (v := ?_) rfl (by kernel_rfl) (by kernel_rfl) (by kernel_rfl) (fun _ _ _ h => h) (Or.inl ⟨by rfl, ?_⟩) (by assumption) ?_
    rotate_left
    · intro w hSw; (try dsimp only at hSw); go_simp <;> with_reducible rfl
    simp only [Act.put, List.setIfInBounds_toArray, List.set_cons_zero, List.set_cons_succ]
    refine wpAnyH_take (i := 6) (oi := { dst := some 66, op := Op.move (Operand.tmp 65), type := 4, pos := "law.go:132", after := #[{ on := 5, ground := Ground.data }, { on := 2, ground := Ground.chain }], guard := none }) (v := ?_) rfl (by kernel_rfl) (by kernel_rfl) (by kernel_rfl) (fun _ _ _ h => h) (Or.inl ⟨by rfl, ?_⟩) (by assumption) ?_
    rotate_left
    · intro w hSw; (try dsimp only at hSw); go_simp <;> with_reducible rfl
    simp only [Act.put, List.setIfInBounds_toArray, List.set_cons_zero, List.set_cons_succ]
    refine wpAnyH_take (i := 7) (oi := { dst := some 67, op := Op.move (Operand.tmp 9), type := 24, pos := "law.go:132", after := #[{ on := 6, ground := Ground.guard }], guard := some (6, false) }) (v := ?_) rfl (by kernel_rfl) (by kernel_rfl) (by kernel_rfl) (fun _ _ _ h => h) (Or.inl ⟨by rfl, ?_⟩) (by assumption) ?_
    rotate_left
    · intro w hSw; (try dsimp only at hSw); go_simp <;> with_reducible rfl
    simp only [Act.put, List.setIfInBounds_toArray, List.set_cons_zero, List.set_cons_succ]
    refine wpAnyH_ready (rs := [8]) (by kernel_rfl) (by simp) ?_
    refine AllReadyH.cons (o := { dst := some 68, op := Op.call { callee := Callee.value (Operand.func 14), args := #[Operand.tmp 67], argTypes := #[24] }, type := 3, pos := "law.go:132", after := #[{ on := 7, ground := Ground.data }, { on := 6, ground := Ground.chain }, { on := 6, ground := Ground.guard }], guard := some (6, false) }) rfl (fun K hK => ?_) AllReadyH.nil
    go_simp
    go_at_call 14; refine KB.out.mono ?_; rintro e w6 ⟨rfl, hw1⟩; obtain rfl : w5.drew = w6 := hw1.symm; (try dsimp only)
    refine hK.out _ _ ?_ (fun hHeld => ?_)
    · exact hS.out _ ⟨_, _, _, _, hT5.out.drew⟩
    clear hK K
    try simp only [Act.put, List.setIfInBounds_toArray, List.set_cons_zero, List.set_cons_succ]
    refine wpAnyH_take (i := 9) (oi := { dst := some 69, op := Op.binOp BinOp.neq 3 (Operand.tmp 68) (Operand.const (Value.int IntKind.i64 5)) 3, type := 4, pos := "law.go:132", after := #[{ on := 8, ground := Ground.data }, { on := 6, ground := Ground.guard }], guard := some (6, false) }) (v := ?_) rfl (by kernel_rfl) (by kernel_rfl) (by kernel_rfl) (fun _ _ _ h => h) (Or.inl ⟨by rfl, ?_⟩) (by assumption) ?_
    rotate_left
    · intro w hSw; (try dsimp only at hSw); go_simp <;> with_reducible rfl
    simp only [Act.put, List.setIfInBounds_toArray, List.set_cons_zero, List.set_cons_succ]
    refine wpAnyH_take (i := 10) (oi := { dst := some 70, op := Op.pick (Operand.tmp 66) (Operand.const (Value.bool true)) (Operand.tmp 69), type := 4, pos := "law.go:132", after := #[{ on := 6, ground := Ground.data }, { on := 9, ground := Ground.data }], guard := none }) (v := ?_) rfl (by kernel_rfl) (by kernel_rfl) (by kernel_rfl) (fun _ _ _ h => h) (Or.inl ⟨by rfl, ?_⟩) (by assumption) ?_
    rotate_left
    · intro w hSw; (try dsimp only at hSw); go_simp <;> with_reducible rfl
    simp only [Act.put, List.setIfInBounds_toArray, List.set_cons_zero, List.set_cons_succ]
    refine wpAnyH_take (i := 11) (oi := { dst := some 71, op := Op.move (Operand.tmp 70), type := 4, pos := "law.go:132", after := #[{ on := 10, ground := Ground.data }, { on := 8, ground := Ground.chain }], guard := none }) (v := ?_) rfl (by kernel_rfl) (by kernel_rfl) (by kernel_rfl) (fun _ _ _ h => h) (Or.inl ⟨by rfl, ?_⟩) (by assumption) ?_
    rotate_left
    · intro w hSw; (try dsimp only at hSw); go_simp <;> with_reducible rfl
    simp only [Act.put, List.setIfInBounds_toArray, List.set_cons_zero, List.set_cons_succ]
    refine wpAnyH_take (i := 12) (oi := { dst := some 72, op := Op.move (Operand.tmp 9), type := 24, pos := "law.go:132", after := #[{ on := 11, ground := Ground.guard }], guard := some (11, false) }) (v := ?_) rfl (by kernel_rfl) (by kernel_rfl) (by kernel_rfl) (fun _ _ _ h => h) (Or.inl ⟨by rfl, ?_⟩) (by assumption) ?_
    rotate_left
    · intro w hSw; (try dsimp only at hSw); go_simp <;> with_reducible rfl
    simp only [Act.put, List.setIfInBounds_toArray, List.set_cons_zero, List.set_cons_succ]
    refine wpAnyH_ready (rs := [13]) (by kernel_rfl) (by simp) ?_
    refine AllReadyH.cons (o := { dst := some 73, op := Op.call { callee := Callee.value (Operand.func 17), args := #[Operand.tmp 72], argTypes := #[24] }, type := 3, pos := "law.go:132", after := #[{ on := 12, ground := Ground.data }, { on := 11, ground := Ground.chain }, { on := 11, ground := Ground.guard }], guard := some (11, false) }) rfl (fun K hK => ?_) AllReadyH.nil
    go_simp
    go_at_call 17; refine KW.out.mono ?_; rintro e w6 ⟨rfl, hw1⟩; obtain rfl : w5.drew = w6 := hw1.symm; (try dsimp only)
    refine hK.out _ _ ?_ (fun hHeld => ?_)
    · exact hS.out _ ⟨_, _, _, _, hT5.out.drew⟩
    clear hK K
    try simp only [Act.put, List.setIfInBounds_toArray, List.set_cons_zero, List.set_cons_succ]
    refine wpAnyH_take (i := 14) (oi := { dst := some 74, op := Op.binOp BinOp.neq 3 (Operand.tmp 73) (Operand.const (Value.int IntKind.i64 0)) 3, type := 4, pos := "law.go:132", after := #[{ on := 13, ground := Ground.data }, { on := 11, ground := Ground.guard }], guard := some (11, false) }) (v := ?_) rfl (by kernel_rfl) (by kernel_rfl) (by kernel_rfl) (fun _ _ _ h => h) (Or.inl ⟨by rfl, ?_⟩) (by assumption) ?_
    rotate_left
    · intro w hSw; (try dsimp only at hSw); go_simp <;> with_reducible rfl
    simp only [Act.put, List.setIfInBounds_toArray, List.set_cons_zero, List.set_cons_succ]
    refine wpAnyH_take (i := 15) (oi := { dst := some 75, op := Op.pick (Operand.tmp 71) (Operand.const (Value.bool true)) (Operand.tmp 74), type := 4, pos := "law.go:132", after := #[{ on := 11, ground := Ground.data }, { on := 14, ground := Ground.data }], guard := none }) (v := ?_) rfl (by kernel_rfl) (by kernel_rfl) (by kernel_rfl) (fun _ _ _ h => h) (Or.inl ⟨by rfl, ?_⟩) (by assumption) ?_
    rotate_left
    · intro w hSw; (try dsimp only at hSw); go_simp <;> with_reducible rfl
    simp only [Act.put, List.setIfInBounds_toArray, List.set_cons_zero, List.set_cons_succ]
    refine wpAnyH_take (i := 16) (oi := { dst := some 76, op := Op.move (Operand.tmp 75), type := 4, pos := "law.go:132", after := #[{ on := 15, ground := Ground.data }, { on := 13, ground := Ground.chain }], guard := none }) (v := ?_) rfl (by kernel_rfl) (by kernel_rfl) (by kernel_rfl) (fun _ _ _ h => h) (Or.inl ⟨by rfl, ?_⟩) (by assumption) ?_
    rotate_left
    · intro w hSw; (try dsimp only at hSw); go_simp <;> with_reducible rfl
    simp only [Act.put, List.setIfInBounds_toArray, List.set_cons_zero, List.set_cons_succ]
    refine wpAnyH_take (i := 17) (oi := { dst := some 77, op := Op.move (Operand.tmp 9), type := 24, pos := "law.go:132", after := #[{ on := 16, ground := Ground.guard }], guard := some (16, false) }) (v := ?_) rfl (by kernel_rfl) (by kernel_rfl) (by kernel_rfl) (fun _ _ _ h => h) (Or.inl ⟨by rfl, ?_⟩) (by assumption) ?_
    rotate_left
    · intro w hSw; (try dsimp only at hSw); go_simp <;> with_reducible rfl
    simp only [Act.put, List.setIfInBounds_toArray, List.set_cons_zero, List.set_cons_succ]
    refine wpAnyH_take (i := 20) (oi := { dst := some 80, op := Op.move (Operand.tmp 8), type := 22, pos := "law.go:132", after := #[{ on := 16, ground := Ground.guard }], guard := some (16, false) }) (v := ?_) rfl (by kernel_rfl) (by kernel_rfl) (by kernel_rfl) (fun _ _ _ h => h) (Or.inl ⟨by rfl, ?_⟩) (by assumption) ?_
    rotate_left
    · intro w hSw; (try dsimp only at hSw); go_simp <;> with_reducible rfl
    simp only [Act.put, List.setIfInBounds_toArray, List.set_cons_zero, List.set_cons_succ]
    refine wpAnyH_take (i := 21) (oi := { dst := some 81, op := Op.convert 22 9 (Operand.tmp 80), type := 9, pos := "law.go:132", after := #[{ on := 20, ground := Ground.data }, { on := 16, ground := Ground.guard }], guard := some (16, false) }) (v := ?_) rfl (by kernel_rfl) (by kernel_rfl) (by kernel_rfl) (fun _ _ _ h => h) (Or.inl ⟨by rfl, ?_⟩) (by assumption) ?_
    rotate_left
    · intro w hSw; (try dsimp only at hSw); go_simp <;> with_reducible rfl
    simp only [Act.put, List.setIfInBounds_toArray, List.set_cons_zero, List.set_cons_succ]
    refine wpAnyH_ready (rs := [18]) (by kernel_rfl) (by simp) ?_
    refine AllReadyH.cons (o := { dst := some 78, op := Op.call { callee := Callee.value (Operand.func 16), args := #[Operand.tmp 77], argTypes := #[24] }, type := 22, pos := "law.go:132", after := #[{ on := 17, ground := Ground.data }, { on := 16, ground := Ground.chain }, { on := 16, ground := Ground.guard }], guard := some (16, false) }) rfl (fun K hK => ?_) AllReadyH.nil
    go_simp
    go_at_call 16; refine KI.out.mono ?_; rintro e w6 ⟨rfl, hI6, hw6⟩; have hT6 := hide' (hT5.out.drew.up hw6.out); have hcv6 := conv_bytes (RowC.of_bk (cap := 80) hI6.out (fun i z hz => by rw [Nat.zero_add]; exact hz) hlen3.out.symm (Nat.le_refl _)); rw [hbs'.out] at hcv6; (try dsimp only)
    refine hK.out _ _ ?_ (fun hHeld => ?_)
    · exact hS.out _ ⟨_, _, _, _, hT6.out⟩
    clear hK K
    try simp only [Act.put, List.setIfInBounds_toArray, List.set_cons_zero, List.set_cons_succ]
    refine wpAnyH_ready (rs := [19]) (by kernel_rfl) (by simp) ?_
    refine AllReadyH.cons (o := { dst := some 79, op := Op.convert 22 9 (Operand.tmp 78), type := 9, pos := "law.go:132", after := #[{ on := 18, ground := Ground.data }, { on := 16, ground := Ground.guard }], guard := some (16, false) }) rfl (fun K hK => ?_) AllReadyH.nil
    go_simp
    refine hK.out _ _ ?_ (fun hHeld => ?_)
    · exact hS.out _ ⟨_, _, _, _, hT6.out⟩
    clear hK K
    try simp only [Act.put, List.setIfInBounds_toArray, List.set_cons_zero, List.set_cons_succ]
    refine wpAnyH_take (i := 22) (oi := { dst := some 82, op := Op.binOp BinOp.neq 9 (Operand.tmp 79) (Operand.tmp 81) 9, type := 4, pos := "law.go:132", after := #[{ on := 19, ground := Ground.data }, { on := 21, ground := Ground.data }, { on := 16, ground := Ground.guard }], guard := some (16, false) }) (v := ?_) rfl (by kernel_rfl) (by kernel_rfl) (by kernel_rfl) (fun _ _ _ h => h) (Or.inl ⟨by rfl, ?_⟩) (by assumption) ?_
    rotate_left
    · intro w hSw; (try dsimp only at hSw); go_simp <;> with_reducible rfl
    simp only [Act.put, List.setIfInBounds_toArray, List.set_cons_zero, List.set_cons_succ]
    refine wpAnyH_take (i := 23) (oi := { dst := some 83, op := Op.pick (Operand.tmp 76) (Operand.const (Value.bool true)) (Operand.tmp 82), type := 4, pos := "law.go:132", after := #[{ on := 16, ground := Ground.data }, { on := 22, ground := Ground.data }], guard := none }) (v := ?_) rfl (by kernel_rfl) (by kernel_rfl) (by kernel_rfl) (fun _ _ _ h => h) (Or.inl ⟨by rfl, ?_⟩) (by assumption) ?_
    rotate_left
    · intro w hSw; (try dsimp only at hSw); go_simp <;> with_reducible rfl
    simp only [Act.put, List.setIfInBounds_toArray, List.set_cons_zero, List.set_cons_succ]
    refine wpAnyH_done (by kernel_rfl) ?_ _
    skip
    clear hHeld hcv6 hI6 hw6 KB KW KI hS hT5
    go_upto_block 2 with fail
    go_cut [11] from 84 to 106 (fun _ wx => ∃ (E : Dk), Hid (Kt w g gb h hb gi 200 200 D.bytes D E wx))
    case first => as_aux_lemma =>
      go_wp2_with fail
      go_loopw [11] (fun iv wr => ∃ (i : Nat) (E : Dk), iv = .int .i64 (i : Int) ∧ i ≤ 200 ∧ Hid (Kt w g gb h hb gi 200 i D.bytes D E wr)) (fun iv _ => ((200 : Int) - intOf iv).toNat)
      case atStart => exact ⟨0, _, rfl, by omega, hT6⟩
      case round =>
        clear hT6
        obtain ⟨i, E, rfl, hi, hT⟩ := hrel
        by_cases hlt : i < k ∧ i < 200
        · have hlt1 : (i : Int) < (k : Int) := by omega
          have hlt2 : (i : Int) < 200 := by omega
          obtain ⟨p, hp⟩ : ∃ p, M[i]? = some p := ⟨_, List.getElem?_eq_getElem (by rw [hk'.out]; omega)⟩
          obtain ⟨go, oo, dv, rfl, hcs, hrow⟩ := hM.out.at hp
          obtain ⟨od, cd, rfl, hcd, hcc⟩ := hrow
          have hrow : Hid (RowC w (.slice od p.data.length cd) p.data) := ⟨od, cd, rfl, hcd, hcc⟩
          clear hcd hcc
          go_upto_region 15 with fail
          generalize hL : p.data = L at *
          generalize hdl : L.length = dl at *
          clear hL hdl
          have KF : Hid (∀ V, Below w.heap.size w V → Calls Try.prog 10 #[.slice od dl cd] V fun e w' => ∃ v', e = .returned v' ∧ w'.ownsRow V.heap.size 5 1 v' (L.take 2000).length (cellsB (L.take 2000)) ∧ Below V.heap.size V w') := fun V hV => fewF L _ V (hrow.out.below hV (Nat.le_refl _))
          have hS : Hid (∀ V, Below w.heap.size w V → (V.cell? ⟨go, oo + i * 4 + 2, none⟩ = some (.int .i64 p.n) ∧ V.cell? ⟨go, oo + i * 4 + 3, none⟩ = some (.slice od dl cd) ∧ Below w.heap.size w V)) := fun V hV => ⟨(hcs.out V hV).2.2.1, (hcs.out V hV).2.2.2, hV⟩
          go_region_held3 (fun V => V.cell? ⟨go, oo + i * 4 + 2, none⟩ = some (.int .i64 p.n) ∧ V.cell? ⟨go, oo + i * 4 + 3, none⟩ = some (.slice od dl cd) ∧ Below w.heap.size w V) (first | assumption | (exact hS.out _ hT.out.a.bel) | (exact hS.out _ hT.out.drew.a.bel) | (exact hS.out _ hT1.out.a.bel) | (exact hS.out _ hT2.out.a.bel)) (first | (go_at_call 10; refine (KF.out _ (by first | exact hT.out.drew.a.bel | exact hT.out.a.bel)).mono ?_; rintro e w1 ⟨v', rfl, hown, hbf⟩; have hT1 := hide' (hT.out.drew.up hbf)) | (go_at_call 19; refine (writeAny hT1.out.b (by omega) p.n _ _ (RowC.of_owns hown)).mono ?_; rintro e w2 ⟨E', x, rfl, hQ2, hk2⟩; have hT2 := hide' (hT1.out.wb hQ2.out hk2.out)))
          go_wp2
          exact ⟨⟨i + 1, E', by go_num, by omega, hT2⟩, by simp [intOf]; omega⟩
        · have hup : Hid (Kt w g gb h hb gi 200 200 D.bytes D E wr) := ⟨hT.out.a, ⟨hT.out.b.dk, hT.out.b.ok, by have := hT.out.b.wr; omega, hT.out.b.geg, hT.out.b.geb, hT.out.b.bel⟩, hT.out.im, hT.out.n1, hT.out.n2⟩
          by_cases h200 : (i : Int) < (k : Int)
          · have h2 : ¬ (i : Int) < 200 := by omega
            go_wp2_with fail
            go_meet
            case rel => exact ⟨E, hup⟩
          · go_wp2_with fail
            go_meet
            case rel => exact ⟨E, hup⟩
    case rest =>
    clear hT6
    obtain ⟨E, hT⟩ := hcut
    have hlE := hide' hT.out.b.ok.len
    have KI := hide' (imageF hT.out.b.dk (by rw [hlE.out]; omega))
    unfold CoP at KI
    rw [hlE.out] at KI
    go_wp2_with fail
    refine KI.out.mono ?_
    rintro e w7 ⟨rfl, hI7, hw7⟩
    have hT7 : Hid (Kt w g gb h hb wc.heap.size 200 200 E.bytes D E w7) := by
      have h1 := hT.out.up hw7.out
      have l1 := blk_lt hT.out.a.dk.1
      have l2 := blk_lt hT.out.a.dk.2
      have l3 := blk_lt hT.out.b.dk.1
      have l4 := blk_lt hT.out.b.dk.2
      exact ⟨h1.a, h1.b, hI7.out, h1.n1, ⟨by omega, by omega, by omega, by omega⟩⟩
    clear KI hT hI7 hw7
    generalize wc.heap.size = gj at *
    go_upto_block 4 with fail
    go_cut [13] from 109 to 126 (fun _ wx => ∃ (c : Nat) (D : Dk), Hid (Kt w g gb h hb gj c 200 E.bytes D E wx))
    case first => as_aux_lemma =>
      go_wp2_with fail
      go_loopw [13] (fun iv wr => ∃ (i : Nat) (D : Dk), iv = .int .i64 (i : Int) ∧ i ≤ 200 ∧ Hid (Kt w g gb h hb gj (200 + i) 200 E.bytes D E wr)) (fun iv _ => ((200 : Int) - intOf iv).toNat)
      case atStart => exact ⟨0, _, rfl, by omega, hT7⟩
      case round =>
        clear hT7
        obtain ⟨i, D, rfl, hi, hT⟩ := hrel
        by_cases hlt : i < m ∧ i < 200
        · have hlt1 : (i : Int) < (m : Int) := by omega
          have hlt2 : (i : Int) < 200 := by omega
          obtain ⟨p, hp⟩ : ∃ p, O[i]? = some p := ⟨_, List.getElem?_eq_getElem (by rw [hm'.out]; omega)⟩
          obtain ⟨go, oo, dv, rfl, hcs, hrow⟩ := hO.out.at hp
          clear hrow
          obtain ⟨w8, hr8, hb8, hw8⟩ := make16 wr.drew
          rw [show wr.drew.heap.size = wr.heap.size from rfl] at hr8 hb8
          have hT8 := hide' (hT.out.drew.up hw8.out)
          clear hw8
          generalize wr.heap.size = gk at *
          go_upto_region 20 with fail
          have hS : Hid (∀ V, Below w.heap.size w V → (V.cell? ⟨go, oo + i * 4 + 2, none⟩ = some (.int .i64 p.n) ∧ Below w.heap.size w V)) := fun V hV => ⟨(hcs.out V hV).2.2.1, hV⟩
          go_region_held3 (fun V => V.cell? ⟨go, oo + i * 4 + 2, none⟩ = some (.int .i64 p.n) ∧ Below w.heap.size w V) (first | assumption | (exact hS.out _ hT.out.drew.a.bel) | (exact hS.out _ hT8.out.a.bel) | (exact hS.out _ hT9.out.a.bel)) (first | (go_at_call 19; refine (writeAny hT8.out.a (by omega) p.n _ _ (row16 hb8.out (by simp))).mono ?_; rintro e w9 ⟨D', x, rfl, hQ2, hk2⟩; have hT9 := hide' (hT8.out.wa hQ2.out hk2.out)))
          go_wp2
          exact ⟨⟨i + 1, D', by go_num, by omega, by rw [show 200 + (i + 1) = 200 + i + 1 by omega]; exact hT9⟩, by simp [intOf]; omega⟩
        · by_cases h200 : (i : Int) < (m : Int)
          · have h2 : ¬ (i : Int) < 200 := by omega
            go_wp2_with fail
            go_meet
            case rel => exact ⟨_, D, hT⟩
          · go_wp2_with fail
            go_meet
            case rel => exact ⟨_, D, hT⟩
    case rest =>
    clear hT7
    obtain ⟨c, D2, hT8⟩ := hcut
    have KI := hide' (imageF hT8.out.drew.b.dk (by rw [hlE.out]; omega))
    unfold CoP at KI
    rw [hlE.out, show wc.drew.heap.size = wc.heap.size from rfl] at KI
    have hS2 : Hid (∀ V, (∃ D' E' c e, Kt w g gb h hb gj c e E.bytes D' E' V) → (convert 22 9 (.slice (some ⟨gj, 0, none⟩) 80 80)).run Try.prog V = .ok (.string (strB E.bytes)) V) := fun V hV => by
      obtain ⟨D', E', c, e, hV⟩ := hV
      exact hV.conv hlE.out
    generalize hbs2 : strB E.bytes = bs2 at *
    have hbs2' := hide' hbs2
    clear hbs2
    go_upto_region 21 with fail
    refine wp_region_held_drew (S := (fun V => (convert 22 9 (.slice (some ⟨gj, 0, none⟩) 80 80)).run Try.prog V = .ok (.string bs2) V)) (by kernel_rfl) ?_ (fun hHeld => ?_)
    · exact hS2.out _ ⟨_, _, _, _, hT8.out.drew⟩
    refine wpAnyH_take (i := 0) (oi := { dst := some 127, op := Op.move (Operand.tmp 9), type := 24, pos := "law.go:142", after := #[], guard := none }) (v := ?_) rfl (by kernel_rfl) (by kernel_rfl) (by kernel_rfl) (fun _ _ _ h => h) (Or.inl ⟨by rfl, ?_⟩) (by assumption) ?_
    rotate_left
    · intro w hSw; (try dsimp only at hSw); go_simp <;> with_reducible rfl
    simp only [Act.put, List.setIfInBounds_toArray, List.set_cons_zero, List.set_cons_succ]
    refine wpAnyH_take (i := 3) (oi := { dst := some 130, op := Op.move (Operand.tmp 12), type := 22, pos := "law.go:142", after := #[], guard := none }) (v := ?_) rfl (by kernel_rfl) (by kernel_rfl) (by kernel_rfl) (fun _ _ _ h => h) (Or.inl ⟨by rfl, ?_⟩) (by assumption) ?_
    rotate_left
    · intro w hSw; (try dsimp only at hSw); go_simp <;> with_reducible rfl
    simp only [Act.put, List.setIfInBounds_toArray, List.set_cons_zero, List.set_cons_succ]
    refine wpAnyH_take (i := 4) (oi := { dst := some 131, op := Op.convert 22 9 (Operand.tmp 130), type := 9, pos := "law.go:142", after := #[{ on := 3, ground := Ground.data }], guard := none }) (v := ?_) rfl (by kernel_rfl) (by kernel_rfl) (by kernel_rfl) (fun _ _ _ h => h) (Or.inl ⟨by rfl, ?_⟩) (by assumption) ?_
    rotate_left
    · intro w hSw; (try dsimp only at hSw); go_simp <;> with_reducible rfl
    simp only [Act.put, List.setIfInBounds_toArray, List.set_cons_zero, List.set_cons_succ]
    refine wpAnyH_ready (rs := [1]) (by kernel_rfl) (by simp) ?_
    refine AllReadyH.cons (o := { dst := some 128, op := Op.call { callee := Callee.value (Operand.func 16), args := #[Operand.tmp 127], argTypes := #[24] }, type := 22, pos := "law.go:142", after := #[{ on := 0, ground := Ground.data }], guard := none }) rfl (fun K hK => ?_) AllReadyH.nil
    go_simp
    go_at_call 16; refine KI.out.mono ?_; rintro e w9 ⟨rfl, hI9, hw9⟩; have hT9 := hide' (hT8.out.drew.up hw9.out); have hcv9 := conv_bytes (RowC.of_bk (cap := 80) hI9.out (fun i z hz => by rw [Nat.zero_add]; exact hz) hlE.out.symm (Nat.le_refl _)); rw [hbs2'.out] at hcv9; (try dsimp only)
    refine hK.out _ _ ?_ (fun hHeld => ?_)
    · exact hS2.out _ ⟨_, _, _, _, hT9.out⟩
    clear hK K
    try simp only [Act.put, List.setIfInBounds_toArray, List.set_cons_zero, List.set_cons_succ]
    refine wpAnyH_ready (rs := [2]) (by kernel_rfl) (by simp) ?_
    refine AllReadyH.cons (o := { dst := some 129, op := Op.convert 22 9 (Operand.tmp 128), type := 9, pos := "law.go:142", after := #[{ on := 1, ground := Ground.data }], guard := none }) rfl (fun K hK => ?_) AllReadyH.nil
    go_simp
    refine hK.out _ _ ?_ (fun hHeld => ?_)
    · exact hS2.out _ ⟨_, _, _, _, hT9.out⟩
    clear hK K
    try simp only [Act.put, List.setIfInBounds_toArray, List.set_cons_zero, List.set_cons_succ]
    refine wpAnyH_take (i := 5) (oi := { dst := some 132, op := Op.binOp BinOp.eql 9 (Operand.tmp 129) (Operand.tmp 131) 9, type := 4, pos := "law.go:142", after := #[{ on := 2, ground := Ground.data }, { on := 4, ground := Ground.data }], guard := none }) (v := ?_) rfl (by kernel_rfl) (by kernel_rfl) (by kernel_rfl) (fun _ _ _ h => h) (Or.inl ⟨by rfl, ?_⟩) (by assumption) ?_
    rotate_left
    · intro w hSw; (try dsimp only at hSw); go_simp <;> with_reducible rfl
    simp only [Act.put, List.setIfInBounds_toArray, List.set_cons_zero, List.set_cons_succ]
    refine wpAnyH_take (i := 6) (oi := { dst := some 4, op := Op.assign (Operand.tmp 132), type := 4, pos := "law.go:142", after := #[{ on := 5, ground := Ground.data }, { on := 1, ground := Ground.chain }, { on := 0, ground := Ground.phase }, { on := 1, ground := Ground.phase }, { on := 2, ground := Ground.phase }, { on := 3, ground := Ground.phase }, { on := 4, ground := Ground.phase }, { on := 5, ground := Ground.phase }], guard := none }) (v := ?_) rfl (by kernel_rfl) (by kernel_rfl) (by kernel_rfl) (fun _ _ _ h => h) (Or.inl ⟨by rfl, ?_⟩) (by assumption) ?_
    rotate_left
    · intro w hSw; (try dsimp only at hSw); go_simp <;> with_reducible rfl
    simp only [Act.put, List.setIfInBounds_toArray, List.set_cons_zero, List.set_cons_succ]
    refine wpAnyH_done (by kernel_rfl) ?_ _
    skip
    go_wp2
    go_ret
    exact ⟨rfl, hT9.out.a.bel⟩
end Go.Proofs.Ytkabileeincjaaa

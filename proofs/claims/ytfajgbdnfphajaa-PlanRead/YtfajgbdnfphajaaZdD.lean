/- The reader's certificate: a problem and a plan read. -/
import Derived.Test.YtfajgbdnfphajaaZdC
namespace Go.Proofs.Ytfajgbdnfphajaa.S
open Go.RowKit Go.Shelf
/-- Behind the mark. -/
def mkS (s : RdS) : RdS := if tkN 2 s = 20547 then tkS 2 s else ((tkS 2 s).1, true)
def csS : Nat → RdS → RdS
  | 0, t => t
  | n + 1, t => tkS 1 (tkS 1 (tkS 8 (csS n t)))
def csW : Nat → RdS → List Nat
  | 0, _ => []
  | n + 1, t => csW n t ++ [tkN 8 (csS n t)]
def csF : Nat → RdS → List Int
  | 0, _ => []
  | n + 1, t => csF n t ++ [(tkN 1 (tkS 8 (csS n t)) : Int) - 1]
def csP : Nat → RdS → List Int
  | 0, _ => []
  | n + 1, t => csP n t ++ [(tkN 1 (tkS 1 (tkS 8 (csS n t))) : Int)]
def crS : Nat → RdS → RdS
  | 0, t => t
  | n + 1, t => rdRS (crS n t)
def crL : Nat → RdS → List Rl
  | 0, _ => []
  | n + 1, t => crL n t ++ [rdR (crS n t)]
def rcN (s : RdS) : Nat := tkN 1 (tkS 1 (mkS s))
def rcA (s : RdS) : RdS := tkS 1 (tkS 1 (mkS s))
def rcK (s : RdS) : Nat := tkN 1 (csS (rcN s) (rcA s))
def rcB (s : RdS) : RdS := tkS 1 (csS (rcN s) (rcA s))
/-- The problem, the plan, what is left. -/
def rcP (s : RdS) : Pb := ⟨(tkN 1 (mkS s) : Int), csW (rcN s) (rcA s), csF (rcN s) (rcA s), crL (rcK s) (rcB s)⟩
def rcL (s : RdS) : List Int := csP (rcN s) (rcA s)
def rcS (s : RdS) : RdS := crS (rcK s) (rcB s)
theorem mkS_len (s : RdS) : (mkS s).1.length ≤ s.1.length := by
  unfold mkS
  split
  · exact tkS_len 2 s
  · exact tkS_len 2 s
theorem csS_len (n : Nat) (t : RdS) : (csS n t).1.length ≤ t.1.length := by
  induction n with
  | zero => exact Nat.le_refl _
  | succ n ih => exact Nat.le_trans (tkS_len 1 _) (Nat.le_trans (tkS_len 1 _) (Nat.le_trans (tkS_len 8 _) ih))
theorem csW_len (n : Nat) (t : RdS) : (csW n t).length = n := by induction n with | zero => rfl | succ n ih => simp [csW, ih]
theorem csF_len (n : Nat) (t : RdS) : (csF n t).length = n := by induction n with | zero => rfl | succ n ih => simp [csF, ih]
theorem csP_len (n : Nat) (t : RdS) : (csP n t).length = n := by induction n with | zero => rfl | succ n ih => simp [csP, ih]
theorem rdRS_len (s : RdS) : (rdRS s).1.length ≤ s.1.length := Nat.le_trans (rsS_len _ _) (Nat.le_trans (tkS_len 1 _) (Nat.le_trans (tkS_len 4 _) (tkS_len 1 _)))
theorem crS_len (n : Nat) (t : RdS) : (crS n t).1.length ≤ t.1.length := by
  induction n with
  | zero => exact Nat.le_refl _
  | succ n ih => exact Nat.le_trans (rdRS_len _) ih
theorem crL_len (n : Nat) (t : RdS) : (crL n t).length = n := by induction n with | zero => rfl | succ n ih => simp [crL, ih]
theorem Rd.mark {B : Nat} {W : World} {gr : Nat} {v : Value} {s : RdS} (h : Rd B W gr v s) : Rd B (W.setCell ⟨gr, 1, none⟩ (.bool true)) gr v (s.1, true) := by
  obtain ⟨oa, cap, e⟩ := h.shp
  have hk := fun (o : Nat) (x : Int) => rd_kind (o := o) (k := .u8) (x := x) h.at_ ⟨_, _, _, e⟩
  exact ⟨rowIs_set1 h.at_ true, h.row.frg (FrG.set W gr 1 _) hk, h.byte, h.room, h.low, h.lowr⟩
theorem Cq.start {B gr : Nat} {v : Value} {s : RdS} {w : World} (h : Rd B w gr v s) (hB : B ≤ w.heap.size) : Cq w B gr (w.alloc (.cells #[.int .i64 0, .slice none 0 0, .slice none 0 0, .slice none 0 0] 27)) v s 0 (.slice none 0 0) (.slice none 0 0) (.slice none 0 0) (.slice none 0 0) (.slice none 0 0) (.slice none 0 0) (.slice none 0 0) [] [] [] [] := by
  have hb0 : Below w.heap.size w (w.alloc (.cells #[.int .i64 0, .slice none 0 0, .slice none 0 0, .slice none 0 0] 27)) := (Below.refl _ w).alloc (Nat.le_refl _) _
  exact ⟨h.over (hb0.mono hB), FrG.below hb0, QAt.block (heap_new w _), World.ownsRow_nil _ _ _ _, World.ownsRow_nil _ _ _ _, World.ownsRow_nil _ _ _ _, TwS.nil _ _, (fun g e => by cases e), hB⟩
/-- What it leaves. -/
def CcP (B : Nat) (w : World) (gr : Nat) (s : RdS) (e : Ending) (w' : World) : Prop :=
  ∃ va vb vc vp v' E, e = .returned (.tuple #[.agg #[.int .i64 (rcP s).users, va, vb, vc], vp]) ∧ Hid (w'.ownsRow w.heap.size 51 1 va (rcP s).who.length (cellsW (rcP s).who) ∧ w'.ownsRow w.heap.size 3 1 vb (rcP s).fixed.length (cellsI (rcP s).fixed) ∧ TwS w.heap.size w' vc E ∧ E.map Prod.fst = (rcP s).rules ∧ w'.ownsRow w.heap.size 3 1 vp (rcL s).length (cellsI (rcL s))) ∧ Hid (Rd B w' gr v' (rcS s)) ∧ Hid (FrG gr w w')
theorem QAt.s0 {W : World} {g : Nat} {u : Int} {a b c : Value} (h : QAt W g u a b c) (x : Int) : QAt (W.setCell ⟨g, 0, none⟩ (.int .i64 x)) g x a b c :=
  World.rowIs.congr (World.rowIs.set h 0 _) fun i hi => by
    match i, hi with
    | 0, _ => rfl
    | 1, _ => rfl
    | 2, _ => rfl
    | 3, _ => rfl
set_option maxRecDepth 100000 in
set_option maxHeartbeats 8000000 in
theorem readCF (B gr : Nat) (v : Value) (s : RdS) (w : World) (h : Rd B w gr v s) (hB : B ≤ w.heap.size) (hl : s.1.length ≤ 100000) :
    Calls Try.prog 16 #[.pointer (some ⟨gr, 0, none⟩)] w (CcP B w gr s) := by
  have hS0 := hide' (Cq.start h hB)
  have hlm := hide' (Nat.le_trans (mkS_len s) hl)
  have hl1 := hide' (Nat.le_trans (tkS_len 1 (mkS s)) hlm.out)
  have hl2 : Hid ((rcA s).1.length ≤ 100000) := Nat.le_trans (tkS_len 1 (tkS 1 (mkS s))) hl1.out
  have hbm : Hid (∀ b ∈ s.1, b < 256) := h.byte
  have hbk : Hid (∀ b ∈ (mkS s).1, b < 256) := fun b hb => by
    unfold mkS at hb
    split at hb
    · exact tkS_mem hbm.out b hb
    · exact tkS_mem (wd := 2) hbm.out b hb
  clear h
  go_enter Try.func16, Try.ntmps16
  go_wp2_with fail
  refine (takeF B gr 2 2 rfl v s _ hS0.out.rd (by decide) (by decide) hl).mono ?_
  rintro e w1 ⟨rfl, v1, hR1, hf1⟩
  have hS1 := hide' (hS0.out.tk hR1.out hf1.out)
  clear hS0 hR1 hf1
  go_upto_if 6 with fail
  go_cut [] from 7 to 10 (fun wx => ∃ vA, Hid (Cq w B gr wx vA (mkS s) 0 (.slice none 0 0) (.slice none 0 0) (.slice none 0 0) (.slice none 0 0) (.slice none 0 0) (.slice none 0 0) (.slice none 0 0) [] [] [] []))
  case first =>
    as_aux_lemma =>
    by_cases hm : tkN 2 s = 20547
    · have hE : Hid (mkS s = tkS 2 s) := by unfold Hid mkS; rw [if_pos hm]
      have hmI : ((tkN 2 s : Nat) : Int) = 20547 := by omega
      clear hm
      go_wp2
      go_meet
      exact ⟨v1, by rw [hE.out]; exact hS1⟩
    · have hE : Hid (mkS s = ((tkS 2 s).1, true)) := by unfold Hid mkS; rw [if_neg hm]
      have hmI : ((tkN 2 s : Nat) : Int) ≠ 20547 := by omega
      have hmb : (((tkN 2 s : Nat) : Int) != 20547) = true := by rw [bne_iff_ne]; exact hmI
      have hS2 := hide' (hS1.out.tk hS1.out.rd.mark (FrG.set w1 gr 1 _))
      have f1 := hS1.out.rd.fz 1
      have c1 := hS1.out.rd.c1
      clear hm hS1
      go_wp2
      go_meet
      exact ⟨v1, by rw [hE.out]; exact hS2⟩
  case rest =>
  obtain ⟨vA, hS2⟩ := hcut
  clear hS1
  go_wp2_with fail
  refine (smallF B gr vA (mkS s) _ hS2.out.rd hlm.out).mono ?_
  rintro e w3 ⟨rfl, v3, hR3, hf3⟩
  have hS3 := hide' (hS2.out.tk hR3.out hf3.out)
  have hf3' := hS3.out.qb.frz 0
  have hc3' := hS3.out.qb.c0
  have hS4 := hide' (hS3.out.put (hS3.out.qb.s0 ((tkN 1 (mkS s) : Nat) : Int)))
  have hub : tkN 1 (mkS s) < 256 := tkN_lt (wd := 1) hbk.out
  have hFU : Hid (rcP s = ⟨((tkN 1 (mkS s) : Nat) : Int), csW (rcN s) (rcA s), csF (rcN s) (rcA s), crL (rcK s) (rcB s)⟩) := rfl
  generalize tkN 1 (mkS s) = U at *
  clear hS2 hR3 hf3 hS3
  go_wp2_with fail
  refine (smallF B gr v3 (tkS 1 (mkS s)) _ hS4.out.rd hl1.out).mono ?_
  rintro e w5 ⟨rfl, v5, hR5, hf5⟩
  have hS5 : Hid (Cq w B gr w5 v5 (csS 0 (rcA s)) (U : Int) (.slice none 0 0) (.slice none 0 0) (.slice none 0 0) (.slice none 0 0) (.slice none 0 0) (.slice none 0 0) (.slice none 0 0) (csW 0 (rcA s)) (csF 0 (rcA s)) (csP 0 (rcA s)) []) := hS4.out.tk hR5.out hf5.out
  have hNb : rcN s < 256 := tkN_lt (wd := 1) (tkS_mem hbk.out)
  have hN : Hid (rcN s = tkN 1 (tkS 1 (mkS s))) := rfl
  rw [← hN.out]
  have hlc : Hid (∀ j, (csS j (rcA s)).1.length ≤ 100000) := fun j => Nat.le_trans (csS_len j _) hl2.out
  have hbA : Hid (∀ b ∈ (rcA s).1, b < 256) := tkS_mem (tkS_mem hbk.out)
  have hbC : Hid (∀ j, ∀ b ∈ (csS j (rcA s)).1, b < 256) := fun j => by
    induction j with
    | zero => exact hbA.out
    | succ j ih => exact tkS_mem (tkS_mem (tkS_mem ih))
  clear hS4 hR5 hf5 hlm hl1 hl2 hN hf3' hc3' hbm hbk hbA
  have hRA : Hid (rcB s = tkS 1 (csS (rcN s) (rcA s)) ∧ rcK s = tkN 1 (csS (rcN s) (rcA s)) ∧ rcL s = csP (rcN s) (rcA s) ∧ rcS s = crS (rcK s) (rcB s)) := ⟨rfl, rfl, rfl, rfl⟩
  generalize rcA s = A at *
  generalize rcN s = n at *
  go_upto_block 0 with fail
  go_cut [3] from 13 to 38 (fun q wx => ∃ va vb vx, Hid (Cq w B gr wx vx (csS n A) (U : Int) va vb (.slice none 0 0) va vb (.slice none 0 0) q (csW n A) (csF n A) (csP n A) []))
  case first =>
    as_aux_lemma =>
    go_wp2_with fail
    go_loopw [3, 15] (fun q p wr => ∃ (j : Nat) (va vb vx : Value), j ≤ n ∧ p = .int .i64 (j : Int) ∧ Hid (Cq w B gr wr vx (csS j A) (U : Int) va vb (.slice none 0 0) va vb (.slice none 0 0) q (csW j A) (csF j A) (csP j A) [])) (fun _ p _ => ((n : Int) - intOf p).toNat)
    case atStart => exact ⟨0, _, _, _, Nat.zero_le _, rfl, hS5⟩
    case round =>
      clear hS5 hFU hRA
      obtain ⟨j, va, vb, vx, hj, rfl, hS⟩ := hrel
      by_cases hlt : j < n
      · as_aux_lemma =>
        have hlt' : (j : Int) < (n : Int) := by omega
        obtain ⟨oa, na, ca, rfl⟩ : ∃ a b c, va = .slice a b c := by obtain ⟨a, c, e⟩ := own_shp hS.out.r1; exact ⟨a, _, c, e⟩
        obtain ⟨ob, nb, cb, rfl⟩ : ∃ a b c, vb = .slice a b c := by obtain ⟨a, c, e⟩ := own_shp hS.out.r2; exact ⟨a, _, c, e⟩
        obtain ⟨oq, nq, cq, rfl⟩ : ∃ a b c, u3 = .slice a b c := by obtain ⟨a, c, e⟩ := own_shp hS.out.rp; exact ⟨a, _, c, e⟩
        have hlj := hlc.out j
        have hbj := hide' (hbC.out j)
        have hl8 := hide' (Nat.le_trans (tkS_len 8 (csS j A)) hlj)
        have hl9 := hide' (Nat.le_trans (tkS_len 1 (tkS 8 (csS j A))) hl8.out)
        have hlW : (csW j A).length ≤ 1000000 := by rw [csW_len]; omega
        have hlF : (csF j A).length ≤ 1000000 := by rw [csF_len]; omega
        have hlP : (csP j A).length ≤ 1000000 := by rw [csP_len]; omega
        have hNx : Hid (csS (j + 1) A = tkS 1 (tkS 1 (tkS 8 (csS j A))) ∧ csW (j + 1) A = csW j A ++ [tkN 8 (csS j A)] ∧ csF (j + 1) A = csF j A ++ [(tkN 1 (tkS 8 (csS j A)) : Int) - 1] ∧ csP (j + 1) A = csP j A ++ [(tkN 1 (tkS 1 (tkS 8 (csS j A))) : Int)]) := ⟨rfl, rfl, rfl, rfl⟩
        have hx8 : tkN 1 (tkS 8 (csS j A)) < 256 := tkN_lt (wd := 1) (tkS_mem hbj.out)
        have hSd := hide' (hS.out.over (Below.refl _ wr).drew)
        have K8 : Hid (Calls Try.prog 29 #[.pointer (some ⟨gr, 0, none⟩), .int .i64 8] wr.drew fun e w' => e = .returned (.int .u64 (tkN 8 (csS j A) : Int)) ∧ ∃ v', Hid (Cq w B gr w' v' (tkS 8 (csS j A)) (U : Int) (.slice oa na ca) (.slice ob nb cb) (.slice none 0 0) (.slice oa na ca) (.slice ob nb cb) (.slice none 0 0) (.slice oq nq cq) (csW j A) (csF j A) (csP j A) [])) := (takeF B gr 8 8 rfl vx (csS j A) wr.drew hSd.out.rd (by decide) (by decide) hlj).mono fun e w' ⟨h1, v', h2, h3⟩ => ⟨h1, v', hSd.out.tk h2.out h3.out⟩
        have K1 : Hid (∀ V v' va' L1, Cq w B gr V v' (tkS 8 (csS j A)) (U : Int) va' (.slice ob nb cb) (.slice none 0 0) va' (.slice ob nb cb) (.slice none 0 0) (.slice oq nq cq) L1 (csF j A) (csP j A) [] → Calls Try.prog 30 #[.pointer (some ⟨gr, 0, none⟩)] V fun e w' => e = .returned (.int .i64 (tkN 1 (tkS 8 (csS j A)) : Int)) ∧ ∃ v'', Hid (Cq w B gr w' v'' (tkS 1 (tkS 8 (csS j A))) (U : Int) va' (.slice ob nb cb) (.slice none 0 0) va' (.slice ob nb cb) (.slice none 0 0) (.slice oq nq cq) L1 (csF j A) (csP j A) [])) := fun V v' va' L1 hV => (smallF B gr v' (tkS 8 (csS j A)) V hV.rd hl8.out).mono fun e w' ⟨h1, v'', h2, h3⟩ => ⟨h1, v'', hV.tk h2.out h3.out⟩
        have K2 : Hid (∀ V v' va' vb' L1 L2, Cq w B gr V v' (tkS 1 (tkS 8 (csS j A))) (U : Int) va' vb' (.slice none 0 0) va' vb' (.slice none 0 0) (.slice oq nq cq) L1 L2 (csP j A) [] → Calls Try.prog 30 #[.pointer (some ⟨gr, 0, none⟩)] V fun e w' => e = .returned (.int .i64 (tkN 1 (tkS 1 (tkS 8 (csS j A))) : Int)) ∧ ∃ v'', Hid (Cq w B gr w' v'' (tkS 1 (tkS 1 (tkS 8 (csS j A)))) (U : Int) va' vb' (.slice none 0 0) va' vb' (.slice none 0 0) (.slice oq nq cq) L1 L2 (csP j A) [])) := fun V v' va' vb' L1 L2 hV => (smallF B gr v' (tkS 1 (tkS 8 (csS j A))) V hV.rd hl9.out).mono fun e w' ⟨h1, v'', h2, h3⟩ => ⟨h1, v'', hV.tk h2.out h3.out⟩
        generalize tkN 8 (csS j A) = z8 at *
        generalize tkN 1 (tkS 1 (tkS 8 (csS j A))) = zp at *
        generalize tkN 1 (tkS 8 (csS j A)) = zf at *
        generalize tkS 1 (tkS 1 (tkS 8 (csS j A))) = t3 at *
        generalize tkS 1 (tkS 8 (csS j A)) = t2 at *
        generalize tkS 8 (csS j A) = t1 at *
        generalize csW j A = Lw at *
        generalize csF j A = Lf at *
        generalize csP j A = Lp at *
        have hwz : Hid (IntKind.i64.wrap ((zf : Int) + -1) = (zf : Int) - 1) := by
          unfold Hid
          simp only [IntKind.wrap, IntKind.bits, IntKind.signed]
          simp
          omega
        have c1d := hSd.out.qb.c1
        clear hS hlj hbj hlc hbC hl8 hl9
        go_wp2
        refine wp_region_held_drew (S := (fun _ => True)) (by kernel_rfl) ?_ (fun hHeld => ?_)
        · trivial
        refine wpAnyH_take (i := 0) (oi := { dst := some 17, op := Op.fieldAddr 27 (Operand.tmp 2) 1, type := 0, pos := "certificate.go:60", after := #[], guard := none }) (v := ?_) rfl (by kernel_rfl) (by kernel_rfl) (by kernel_rfl) (fun _ _ _ h => h) (Or.inl ⟨by rfl, ?_⟩) (by assumption) ?_
        rotate_left
        · intro w hSw; (try dsimp only at hSw); go_simp <;> with_reducible rfl
        simp only [Act.put, List.setIfInBounds_toArray, List.set_cons_zero, List.set_cons_succ]
        refine wpAnyH_take (i := 2) (oi := { dst := some 19, op := Op.move (Operand.tmp 0), type := 68, pos := "certificate.go:60", after := #[], guard := none }) (v := ?_) rfl (by kernel_rfl) (by kernel_rfl) (by kernel_rfl) (fun _ _ _ h => h) (Or.inl ⟨by rfl, ?_⟩) (by assumption) ?_
        rotate_left
        · intro w hSw; (try dsimp only at hSw); go_simp <;> with_reducible rfl
        simp only [Act.put, List.setIfInBounds_toArray, List.set_cons_zero, List.set_cons_succ]
        refine wpAnyH_ready (rs := [1, 3]) (by kernel_rfl) (by simp) ?_
        refine AllReadyH.cons (o := { dst := some 18, op := Op.load 23 (Operand.tmp 17), type := 23, pos := "certificate.go:60", after := #[{ on := 0, ground := Ground.data }], guard := none }) rfl (fun K hK => ?_) ?_
        · skip
          go_simp
          refine hK.out _ _ ?_ (fun hHeld => ?_)
          · trivial
          clear hK K
          try simp only [Act.put, List.setIfInBounds_toArray, List.set_cons_zero, List.set_cons_succ]
          refine wpAnyH_ready (rs := [3]) (by kernel_rfl) (by simp) ?_
          refine AllReadyH.cons (o := { dst := some 20, op := Op.call { callee := Callee.value (Operand.func 29), args := #[Operand.tmp 19, Operand.const (Value.int IntKind.i64 8)], argTypes := #[68, 3] }, type := 51, pos := "certificate.go:60", after := #[{ on := 2, ground := Ground.data }], guard := none }) rfl (fun K hK => ?_) AllReadyH.nil
          go_simp
          refine K8.out.mono ?_; rintro e w6 ⟨rfl, v6, hS6⟩; have c16 := hS6.out.qb.c1; have c17 := (hS6.out.over ((Below.refl _ w6).alloc (Nat.le_refl _) (.cells #[.int .u64 (z8 : Int)] 51))).qb.c1; (try dsimp only)
          refine hK.out _ _ ?_ (fun hHeld => ?_)
          · trivial
          clear hK K
          try simp only [Act.put, List.setIfInBounds_toArray, List.set_cons_zero, List.set_cons_succ]
          refine wpAnyH_ready (rs := [4]) (by kernel_rfl) (by simp) ?_
          refine AllReadyH.cons (o := { dst := some 21, op := Op.buildSlice 23 1 #[(0, Operand.tmp 20)], type := 23, pos := "certificate.go:60", after := #[{ on := 3, ground := Ground.data }], guard := none }) rfl (fun K hK => ?_) AllReadyH.nil
          go_simp
          refine hK.out _ _ ?_ (fun hHeld => ?_)
          · trivial
          clear hK K
          try simp only [Act.put, List.setIfInBounds_toArray, List.set_cons_zero, List.set_cons_succ]
          refine wpAnyH_ready (rs := [5]) (by kernel_rfl) (by simp) ?_
          refine AllReadyH.cons (o := { dst := some 22, op := Op.call { callee := Callee.builtin Builtin.append, args := #[Operand.tmp 18, Operand.tmp 21], argTypes := #[23, 23] }, type := 23, pos := "certificate.go:60", after := #[{ on := 1, ground := Ground.data }, { on := 4, ground := Ground.data }, { on := 3, ground := Ground.chain }], guard := none }) rfl (fun K hK => ?_) AllReadyH.nil
          rw [if_pos (by rfl)]
          refine Cq.wapp1 (.tmp 18) (.tmp 21) hS6.out z8 rfl rfl rfl hlW ?_; intro o7 n7 c7 w7 hS7; have f7 := hS7.qb.frz 1; have d7 := hS7.qb.c1; (try dsimp only)
          refine hK.out _ _ ?_ (fun hHeld => ?_)
          · trivial
          clear hK K
          try simp only [Act.put, List.setIfInBounds_toArray, List.set_cons_zero, List.set_cons_succ]
          refine wpAnyH_take (i := 6) (oi := { dst := some 23, op := Op.fieldAddr 27 (Operand.tmp 2) 1, type := 0, pos := "certificate.go:60", after := #[{ on := 0, ground := Ground.phase }, { on := 1, ground := Ground.phase }, { on := 2, ground := Ground.phase }, { on := 3, ground := Ground.phase }, { on := 4, ground := Ground.phase }, { on := 5, ground := Ground.phase }], guard := none }) (v := ?_) rfl (by kernel_rfl) (by kernel_rfl) (by kernel_rfl) (fun _ _ _ h => h) (Or.inl ⟨by rfl, ?_⟩) (by assumption) ?_
          rotate_left
          · intro w hSw; (try dsimp only at hSw); go_simp <;> with_reducible rfl
          simp only [Act.put, List.setIfInBounds_toArray, List.set_cons_zero, List.set_cons_succ]
          refine wpAnyH_ready (rs := [7]) (by kernel_rfl) (by simp) ?_
          refine AllReadyH.cons (o := { dst := none, op := Op.store 23 (Operand.tmp 23) (Operand.tmp 22), type := 0, pos := "certificate.go:60", after := #[{ on := 6, ground := Ground.data }, { on := 5, ground := Ground.data }, { on := 5, ground := Ground.chain }, { on := 0, ground := Ground.phase }, { on := 1, ground := Ground.phase }, { on := 2, ground := Ground.phase }, { on := 3, ground := Ground.phase }, { on := 4, ground := Ground.phase }, { on := 5, ground := Ground.phase }], guard := none }) rfl (fun K hK => ?_) AllReadyH.nil
          go_simp
          refine hK.out _ _ ?_ (fun hHeld => ?_)
          · trivial
          clear hK K
          try simp only [Act.put, List.setIfInBounds_toArray, List.set_cons_zero, List.set_cons_succ]
          refine wpAnyH_done (by kernel_rfl) ?_ _
          skip
          have hS8 := hide' (hS7.put (hS7.qb.s1 (.slice o7 n7 c7)))
          clear hS7 f7 d7 hS6 c16 c17 c1d hSd
          have hS8d := hide' (hS8.out.over (Below.refl _ _).drew)
          have c28 := hS8d.out.qb.c2
          clear hS8
          go_wp2
          refine wp_region_held_drew (S := (fun _ => True)) (by kernel_rfl) ?_ (fun hHeld => ?_)
          · trivial
          refine wpAnyH_take (i := 0) (oi := { dst := some 24, op := Op.fieldAddr 27 (Operand.tmp 2) 2, type := 0, pos := "certificate.go:61", after := #[], guard := none }) (v := ?_) rfl (by kernel_rfl) (by kernel_rfl) (by kernel_rfl) (fun _ _ _ h => h) (Or.inl ⟨by rfl, ?_⟩) (by assumption) ?_
          rotate_left
          · intro w hSw; (try dsimp only at hSw); go_simp <;> with_reducible rfl
          simp only [Act.put, List.setIfInBounds_toArray, List.set_cons_zero, List.set_cons_succ]
          refine wpAnyH_take (i := 2) (oi := { dst := some 26, op := Op.move (Operand.tmp 0), type := 68, pos := "certificate.go:61", after := #[], guard := none }) (v := ?_) rfl (by kernel_rfl) (by kernel_rfl) (by kernel_rfl) (fun _ _ _ h => h) (Or.inl ⟨by rfl, ?_⟩) (by assumption) ?_
          rotate_left
          · intro w hSw; (try dsimp only at hSw); go_simp <;> with_reducible rfl
          simp only [Act.put, List.setIfInBounds_toArray, List.set_cons_zero, List.set_cons_succ]
          refine wpAnyH_ready (rs := [1, 3]) (by kernel_rfl) (by simp) ?_
          refine AllReadyH.cons (o := { dst := some 25, op := Op.load 24 (Operand.tmp 24), type := 24, pos := "certificate.go:61", after := #[{ on := 0, ground := Ground.data }], guard := none }) rfl (fun K hK => ?_) ?_
          · skip
            go_simp
            refine hK.out _ _ ?_ (fun hHeld => ?_)
            · trivial
            clear hK K
            try simp only [Act.put, List.setIfInBounds_toArray, List.set_cons_zero, List.set_cons_succ]
            refine wpAnyH_ready (rs := [3]) (by kernel_rfl) (by simp) ?_
            refine AllReadyH.cons (o := { dst := some 27, op := Op.call { callee := Callee.value (Operand.func 30), args := #[Operand.tmp 26], argTypes := #[68] }, type := 3, pos := "certificate.go:61", after := #[{ on := 2, ground := Ground.data }], guard := none }) rfl (fun K hK => ?_) AllReadyH.nil
            go_simp
            refine (K1.out _ _ _ _ hS8d.out).mono ?_; rintro e w9 ⟨rfl, v9, hS9⟩; have c29 := hS9.out.qb.c2; have c2a := (hS9.out.over ((Below.refl _ w9).alloc (Nat.le_refl _) (.cells #[.int .i64 (IntKind.i64.wrap ((zf : Int) + -1))] 3))).qb.c2; (try dsimp only)
            refine hK.out _ _ ?_ (fun hHeld => ?_)
            · trivial
            clear hK K
            try simp only [Act.put, List.setIfInBounds_toArray, List.set_cons_zero, List.set_cons_succ]
            refine wpAnyH_take (i := 4) (oi := { dst := some 28, op := Op.binOp BinOp.add 3 (Operand.tmp 27) (Operand.const (Value.int IntKind.i64 (-1))) 3, type := 3, pos := "certificate.go:61", after := #[{ on := 3, ground := Ground.data }], guard := none }) (v := ?_) rfl (by kernel_rfl) (by kernel_rfl) (by kernel_rfl) (fun _ _ _ h => h) (Or.inl ⟨by rfl, ?_⟩) (by assumption) ?_
            rotate_left
            · intro w hSw; (try dsimp only at hSw); go_simp <;> with_reducible rfl
            simp only [Act.put, List.setIfInBounds_toArray, List.set_cons_zero, List.set_cons_succ]
            refine wpAnyH_ready (rs := [5]) (by kernel_rfl) (by simp) ?_
            refine AllReadyH.cons (o := { dst := some 29, op := Op.buildSlice 24 1 #[(0, Operand.tmp 28)], type := 24, pos := "certificate.go:61", after := #[{ on := 4, ground := Ground.data }], guard := none }) rfl (fun K hK => ?_) AllReadyH.nil
            go_simp
            refine hK.out _ _ ?_ (fun hHeld => ?_)
            · trivial
            clear hK K
            try simp only [Act.put, List.setIfInBounds_toArray, List.set_cons_zero, List.set_cons_succ]
            refine wpAnyH_ready (rs := [6]) (by kernel_rfl) (by simp) ?_
            refine AllReadyH.cons (o := { dst := some 30, op := Op.call { callee := Callee.builtin Builtin.append, args := #[Operand.tmp 25, Operand.tmp 29], argTypes := #[24, 24] }, type := 24, pos := "certificate.go:61", after := #[{ on := 1, ground := Ground.data }, { on := 5, ground := Ground.data }, { on := 3, ground := Ground.chain }], guard := none }) rfl (fun K hK => ?_) AllReadyH.nil
            rw [if_pos (by rfl)]
            refine Cq.wapp2 (.tmp 25) (.tmp 29) hS9.out (IntKind.i64.wrap ((zf : Int) + -1)) rfl rfl rfl hlF ?_; intro oA nA cA wA hSA; have fA := hSA.qb.frz 2; have dA := hSA.qb.c2; (try dsimp only)
            refine hK.out _ _ ?_ (fun hHeld => ?_)
            · trivial
            clear hK K
            try simp only [Act.put, List.setIfInBounds_toArray, List.set_cons_zero, List.set_cons_succ]
            refine wpAnyH_take (i := 7) (oi := { dst := some 31, op := Op.fieldAddr 27 (Operand.tmp 2) 2, type := 0, pos := "certificate.go:61", after := #[{ on := 0, ground := Ground.phase }, { on := 1, ground := Ground.phase }, { on := 2, ground := Ground.phase }, { on := 3, ground := Ground.phase }, { on := 4, ground := Ground.phase }, { on := 5, ground := Ground.phase }, { on := 6, ground := Ground.phase }], guard := none }) (v := ?_) rfl (by kernel_rfl) (by kernel_rfl) (by kernel_rfl) (fun _ _ _ h => h) (Or.inl ⟨by rfl, ?_⟩) (by assumption) ?_
            rotate_left
            · intro w hSw; (try dsimp only at hSw); go_simp <;> with_reducible rfl
            simp only [Act.put, List.setIfInBounds_toArray, List.set_cons_zero, List.set_cons_succ]
            refine wpAnyH_ready (rs := [8]) (by kernel_rfl) (by simp) ?_
            refine AllReadyH.cons (o := { dst := none, op := Op.store 24 (Operand.tmp 31) (Operand.tmp 30), type := 0, pos := "certificate.go:61", after := #[{ on := 7, ground := Ground.data }, { on := 6, ground := Ground.data }, { on := 6, ground := Ground.chain }, { on := 0, ground := Ground.phase }, { on := 1, ground := Ground.phase }, { on := 2, ground := Ground.phase }, { on := 3, ground := Ground.phase }, { on := 4, ground := Ground.phase }, { on := 5, ground := Ground.phase }, { on := 6, ground := Ground.phase }], guard := none }) rfl (fun K hK => ?_) AllReadyH.nil
            go_simp
            refine hK.out _ _ ?_ (fun hHeld => ?_)
            · trivial
            clear hK K
            try simp only [Act.put, List.setIfInBounds_toArray, List.set_cons_zero, List.set_cons_succ]
            refine wpAnyH_done (by kernel_rfl) ?_ _
            skip
            have hSB := hide' (hSA.put (hSA.qb.s2 (.slice oA nA cA)))
            clear hSA fA dA hS9 c29 c2a hS8d c28
            go_wp2_with fail
            refine (K2.out _ _ _ _ _ _ hSB.out).mono ?_
            rintro e wC ⟨rfl, vC, hSC⟩
            go_wp2_with (at_builtin; refine wpList_plain rfl fun _ hK => Cq.wappP (.tmp 32) (.tmp 35) hSC.out (zp : Int) rfl rfl rfl hlP fun oD nD cD wD hSD => hK _ _ ?_; have hSE := hide' hSD; clear hSD)
            rw [hwz.out] at hSE
            obtain ⟨e1, e2, e3, e4⟩ := hNx.out
            exact ⟨⟨j + 1, .slice o7 n7 c7, .slice oA nA cA, vC, by omega, by go_num, by rw [e1, e2, e3, e4]; exact hSE⟩, by simp [intOf]; omega⟩
          refine AllReadyH.cons (o := { dst := some 27, op := Op.call { callee := Callee.value (Operand.func 30), args := #[Operand.tmp 26], argTypes := #[68] }, type := 3, pos := "certificate.go:61", after := #[{ on := 2, ground := Ground.data }], guard := none }) rfl (fun K hK => ?_) AllReadyH.nil
          go_simp
          refine (K1.out _ _ _ _ hS8d.out).mono ?_; rintro e w9 ⟨rfl, v9, hS9⟩; have c29 := hS9.out.qb.c2; have c2a := (hS9.out.over ((Below.refl _ w9).alloc (Nat.le_refl _) (.cells #[.int .i64 (IntKind.i64.wrap ((zf : Int) + -1))] 3))).qb.c2; (try dsimp only)
          refine hK.out _ _ ?_ (fun hHeld => ?_)
          · trivial
          clear hK K
          try simp only [Act.put, List.setIfInBounds_toArray, List.set_cons_zero, List.set_cons_succ]
          refine wpAnyH_take (i := 4) (oi := { dst := some 28, op := Op.binOp BinOp.add 3 (Operand.tmp 27) (Operand.const (Value.int IntKind.i64 (-1))) 3, type := 3, pos := "certificate.go:61", after := #[{ on := 3, ground := Ground.data }], guard := none }) (v := ?_) rfl (by kernel_rfl) (by kernel_rfl) (by kernel_rfl) (fun _ _ _ h => h) (Or.inl ⟨by rfl, ?_⟩) (by assumption) ?_
          rotate_left
          · intro w hSw; (try dsimp only at hSw); go_simp <;> with_reducible rfl
          simp only [Act.put, List.setIfInBounds_toArray, List.set_cons_zero, List.set_cons_succ]
          refine wpAnyH_ready (rs := [1, 5]) (by kernel_rfl) (by simp) ?_
          refine AllReadyH.cons (o := { dst := some 25, op := Op.load 24 (Operand.tmp 24), type := 24, pos := "certificate.go:61", after := #[{ on := 0, ground := Ground.data }], guard := none }) rfl (fun K hK => ?_) ?_
          · skip
            go_simp
            refine hK.out _ _ ?_ (fun hHeld => ?_)
            · trivial
            clear hK K
            try simp only [Act.put, List.setIfInBounds_toArray, List.set_cons_zero, List.set_cons_succ]
            refine wpAnyH_ready (rs := [5]) (by kernel_rfl) (by simp) ?_
            refine AllReadyH.cons (o := { dst := some 29, op := Op.buildSlice 24 1 #[(0, Operand.tmp 28)], type := 24, pos := "certificate.go:61", after := #[{ on := 4, ground := Ground.data }], guard := none }) rfl (fun K hK => ?_) AllReadyH.nil
            go_simp
            refine hK.out _ _ ?_ (fun hHeld => ?_)
            · trivial
            clear hK K
            try simp only [Act.put, List.setIfInBounds_toArray, List.set_cons_zero, List.set_cons_succ]
            refine wpAnyH_ready (rs := [6]) (by kernel_rfl) (by simp) ?_
            refine AllReadyH.cons (o := { dst := some 30, op := Op.call { callee := Callee.builtin Builtin.append, args := #[Operand.tmp 25, Operand.tmp 29], argTypes := #[24, 24] }, type := 24, pos := "certificate.go:61", after := #[{ on := 1, ground := Ground.data }, { on := 5, ground := Ground.data }, { on := 3, ground := Ground.chain }], guard := none }) rfl (fun K hK => ?_) AllReadyH.nil
            rw [if_pos (by rfl)]
            refine Cq.wapp2 (.tmp 25) (.tmp 29) hS9.out (IntKind.i64.wrap ((zf : Int) + -1)) rfl rfl rfl hlF ?_; intro oA nA cA wA hSA; have fA := hSA.qb.frz 2; have dA := hSA.qb.c2; (try dsimp only)
            refine hK.out _ _ ?_ (fun hHeld => ?_)
            · trivial
            clear hK K
            try simp only [Act.put, List.setIfInBounds_toArray, List.set_cons_zero, List.set_cons_succ]
            refine wpAnyH_take (i := 7) (oi := { dst := some 31, op := Op.fieldAddr 27 (Operand.tmp 2) 2, type := 0, pos := "certificate.go:61", after := #[{ on := 0, ground := Ground.phase }, { on := 1, ground := Ground.phase }, { on := 2, ground := Ground.phase }, { on := 3, ground := Ground.phase }, { on := 4, ground := Ground.phase }, { on := 5, ground := Ground.phase }, { on := 6, ground := Ground.phase }], guard := none }) (v := ?_) rfl (by kernel_rfl) (by kernel_rfl) (by kernel_rfl) (fun _ _ _ h => h) (Or.inl ⟨by rfl, ?_⟩) (by assumption) ?_
            rotate_left
            · intro w hSw; (try dsimp only at hSw); go_simp <;> with_reducible rfl
            simp only [Act.put, List.setIfInBounds_toArray, List.set_cons_zero, List.set_cons_succ]
            refine wpAnyH_ready (rs := [8]) (by kernel_rfl) (by simp) ?_
            refine AllReadyH.cons (o := { dst := none, op := Op.store 24 (Operand.tmp 31) (Operand.tmp 30), type := 0, pos := "certificate.go:61", after := #[{ on := 7, ground := Ground.data }, { on := 6, ground := Ground.data }, { on := 6, ground := Ground.chain }, { on := 0, ground := Ground.phase }, { on := 1, ground := Ground.phase }, { on := 2, ground := Ground.phase }, { on := 3, ground := Ground.phase }, { on := 4, ground := Ground.phase }, { on := 5, ground := Ground.phase }, { on := 6, ground := Ground.phase }], guard := none }) rfl (fun K hK => ?_) AllReadyH.nil
            go_simp
            refine hK.out _ _ ?_ (fun hHeld => ?_)
            · trivial
            clear hK K
            try simp only [Act.put, List.setIfInBounds_toArray, List.set_cons_zero, List.set_cons_succ]
            refine wpAnyH_done (by kernel_rfl) ?_ _
            skip
            have hSB := hide' (hSA.put (hSA.qb.s2 (.slice oA nA cA)))
            clear hSA fA dA hS9 c29 c2a hS8d c28
            go_wp2_with fail
            refine (K2.out _ _ _ _ _ _ hSB.out).mono ?_
            rintro e wC ⟨rfl, vC, hSC⟩
            go_wp2_with (at_builtin; refine wpList_plain rfl fun _ hK => Cq.wappP (.tmp 32) (.tmp 35) hSC.out (zp : Int) rfl rfl rfl hlP fun oD nD cD wD hSD => hK _ _ ?_; have hSE := hide' hSD; clear hSD)
            rw [hwz.out] at hSE
            obtain ⟨e1, e2, e3, e4⟩ := hNx.out
            exact ⟨⟨j + 1, .slice o7 n7 c7, .slice oA nA cA, vC, by omega, by go_num, by rw [e1, e2, e3, e4]; exact hSE⟩, by simp [intOf]; omega⟩
          refine AllReadyH.cons (o := { dst := some 29, op := Op.buildSlice 24 1 #[(0, Operand.tmp 28)], type := 24, pos := "certificate.go:61", after := #[{ on := 4, ground := Ground.data }], guard := none }) rfl (fun K hK => ?_) AllReadyH.nil
          go_simp
          refine hK.out _ _ ?_ (fun hHeld => ?_)
          · trivial
          clear hK K
          try simp only [Act.put, List.setIfInBounds_toArray, List.set_cons_zero, List.set_cons_succ]
          refine wpAnyH_ready (rs := [1]) (by kernel_rfl) (by simp) ?_
          refine AllReadyH.cons (o := { dst := some 25, op := Op.load 24 (Operand.tmp 24), type := 24, pos := "certificate.go:61", after := #[{ on := 0, ground := Ground.data }], guard := none }) rfl (fun K hK => ?_) AllReadyH.nil
          go_simp
          refine hK.out _ _ ?_ (fun hHeld => ?_)
          · trivial
          clear hK K
          try simp only [Act.put, List.setIfInBounds_toArray, List.set_cons_zero, List.set_cons_succ]
          refine wpAnyH_ready (rs := [6]) (by kernel_rfl) (by simp) ?_
          refine AllReadyH.cons (o := { dst := some 30, op := Op.call { callee := Callee.builtin Builtin.append, args := #[Operand.tmp 25, Operand.tmp 29], argTypes := #[24, 24] }, type := 24, pos := "certificate.go:61", after := #[{ on := 1, ground := Ground.data }, { on := 5, ground := Ground.data }, { on := 3, ground := Ground.chain }], guard := none }) rfl (fun K hK => ?_) AllReadyH.nil
          rw [if_pos (by rfl)]
          refine Cq.wapp2 (.tmp 25) (.tmp 29) hS9.out (IntKind.i64.wrap ((zf : Int) + -1)) rfl rfl rfl hlF ?_; intro oA nA cA wA hSA; have fA := hSA.qb.frz 2; have dA := hSA.qb.c2; (try dsimp only)
          refine hK.out _ _ ?_ (fun hHeld => ?_)
          · trivial
          clear hK K
          try simp only [Act.put, List.setIfInBounds_toArray, List.set_cons_zero, List.set_cons_succ]
          refine wpAnyH_take (i := 7) (oi := { dst := some 31, op := Op.fieldAddr 27 (Operand.tmp 2) 2, type := 0, pos := "certificate.go:61", after := #[{ on := 0, ground := Ground.phase }, { on := 1, ground := Ground.phase }, { on := 2, ground := Ground.phase }, { on := 3, ground := Ground.phase }, { on := 4, ground := Ground.phase }, { on := 5, ground := Ground.phase }, { on := 6, ground := Ground.phase }], guard := none }) (v := ?_) rfl (by kernel_rfl) (by kernel_rfl) (by kernel_rfl) (fun _ _ _ h => h) (Or.inl ⟨by rfl, ?_⟩) (by assumption) ?_
          rotate_left
          · intro w hSw; (try dsimp only at hSw); go_simp <;> with_reducible rfl
          simp only [Act.put, List.setIfInBounds_toArray, List.set_cons_zero, List.set_cons_succ]
          refine wpAnyH_ready (rs := [8]) (by kernel_rfl) (by simp) ?_
          refine AllReadyH.cons (o := { dst := none, op := Op.store 24 (Operand.tmp 31) (Operand.tmp 30), type := 0, pos := "certificate.go:61", after := #[{ on := 7, ground := Ground.data }, { on := 6, ground := Ground.data }, { on := 6, ground := Ground.chain }, { on := 0, ground := Ground.phase }, { on := 1, ground := Ground.phase }, { on := 2, ground := Ground.phase }, { on := 3, ground := Ground.phase }, { on := 4, ground := Ground.phase }, { on := 5, ground := Ground.phase }, { on := 6, ground := Ground.phase }], guard := none }) rfl (fun K hK => ?_) AllReadyH.nil
          go_simp
          refine hK.out _ _ ?_ (fun hHeld => ?_)
          · trivial
          clear hK K
          try simp only [Act.put, List.setIfInBounds_toArray, List.set_cons_zero, List.set_cons_succ]
          refine wpAnyH_done (by kernel_rfl) ?_ _
          skip
          have hSB := hide' (hSA.put (hSA.qb.s2 (.slice oA nA cA)))
          clear hSA fA dA hS9 c29 c2a hS8d c28
          go_wp2_with fail
          refine (K2.out _ _ _ _ _ _ hSB.out).mono ?_
          rintro e wC ⟨rfl, vC, hSC⟩
          go_wp2_with (at_builtin; refine wpList_plain rfl fun _ hK => Cq.wappP (.tmp 32) (.tmp 35) hSC.out (zp : Int) rfl rfl rfl hlP fun oD nD cD wD hSD => hK _ _ ?_; have hSE := hide' hSD; clear hSD)
          rw [hwz.out] at hSE
          obtain ⟨e1, e2, e3, e4⟩ := hNx.out
          exact ⟨⟨j + 1, .slice o7 n7 c7, .slice oA nA cA, vC, by omega, by go_num, by rw [e1, e2, e3, e4]; exact hSE⟩, by simp [intOf]; omega⟩
        refine AllReadyH.cons (o := { dst := some 20, op := Op.call { callee := Callee.value (Operand.func 29), args := #[Operand.tmp 19, Operand.const (Value.int IntKind.i64 8)], argTypes := #[68, 3] }, type := 51, pos := "certificate.go:60", after := #[{ on := 2, ground := Ground.data }], guard := none }) rfl (fun K hK => ?_) AllReadyH.nil
        go_simp
        refine K8.out.mono ?_; rintro e w6 ⟨rfl, v6, hS6⟩; have c16 := hS6.out.qb.c1; have c17 := (hS6.out.over ((Below.refl _ w6).alloc (Nat.le_refl _) (.cells #[.int .u64 (z8 : Int)] 51))).qb.c1; (try dsimp only)
        refine hK.out _ _ ?_ (fun hHeld => ?_)
        · trivial
        clear hK K
        try simp only [Act.put, List.setIfInBounds_toArray, List.set_cons_zero, List.set_cons_succ]
        refine wpAnyH_ready (rs := [1, 4]) (by kernel_rfl) (by simp) ?_
        refine AllReadyH.cons (o := { dst := some 18, op := Op.load 23 (Operand.tmp 17), type := 23, pos := "certificate.go:60", after := #[{ on := 0, ground := Ground.data }], guard := none }) rfl (fun K hK => ?_) ?_
        · skip
          go_simp
          refine hK.out _ _ ?_ (fun hHeld => ?_)
          · trivial
          clear hK K
          try simp only [Act.put, List.setIfInBounds_toArray, List.set_cons_zero, List.set_cons_succ]
          refine wpAnyH_ready (rs := [4]) (by kernel_rfl) (by simp) ?_
          refine AllReadyH.cons (o := { dst := some 21, op := Op.buildSlice 23 1 #[(0, Operand.tmp 20)], type := 23, pos := "certificate.go:60", after := #[{ on := 3, ground := Ground.data }], guard := none }) rfl (fun K hK => ?_) AllReadyH.nil
          go_simp
          refine hK.out _ _ ?_ (fun hHeld => ?_)
          · trivial
          clear hK K
          try simp only [Act.put, List.setIfInBounds_toArray, List.set_cons_zero, List.set_cons_succ]
          refine wpAnyH_ready (rs := [5]) (by kernel_rfl) (by simp) ?_
          refine AllReadyH.cons (o := { dst := some 22, op := Op.call { callee := Callee.builtin Builtin.append, args := #[Operand.tmp 18, Operand.tmp 21], argTypes := #[23, 23] }, type := 23, pos := "certificate.go:60", after := #[{ on := 1, ground := Ground.data }, { on := 4, ground := Ground.data }, { on := 3, ground := Ground.chain }], guard := none }) rfl (fun K hK => ?_) AllReadyH.nil
          rw [if_pos (by rfl)]
          refine Cq.wapp1 (.tmp 18) (.tmp 21) hS6.out z8 rfl rfl rfl hlW ?_; intro o7 n7 c7 w7 hS7; have f7 := hS7.qb.frz 1; have d7 := hS7.qb.c1; (try dsimp only)
          refine hK.out _ _ ?_ (fun hHeld => ?_)
          · trivial
          clear hK K
          try simp only [Act.put, List.setIfInBounds_toArray, List.set_cons_zero, List.set_cons_succ]
          refine wpAnyH_take (i := 6) (oi := { dst := some 23, op := Op.fieldAddr 27 (Operand.tmp 2) 1, type := 0, pos := "certificate.go:60", after := #[{ on := 0, ground := Ground.phase }, { on := 1, ground := Ground.phase }, { on := 2, ground := Ground.phase }, { on := 3, ground := Ground.phase }, { on := 4, ground := Ground.phase }, { on := 5, ground := Ground.phase }], guard := none }) (v := ?_) rfl (by kernel_rfl) (by kernel_rfl) (by kernel_rfl) (fun _ _ _ h => h) (Or.inl ⟨by rfl, ?_⟩) (by assumption) ?_
          rotate_left
          · intro w hSw; (try dsimp only at hSw); go_simp <;> with_reducible rfl
          simp only [Act.put, List.setIfInBounds_toArray, List.set_cons_zero, List.set_cons_succ]
          refine wpAnyH_ready (rs := [7]) (by kernel_rfl) (by simp) ?_
          refine AllReadyH.cons (o := { dst := none, op := Op.store 23 (Operand.tmp 23) (Operand.tmp 22), type := 0, pos := "certificate.go:60", after := #[{ on := 6, ground := Ground.data }, { on := 5, ground := Ground.data }, { on := 5, ground := Ground.chain }, { on := 0, ground := Ground.phase }, { on := 1, ground := Ground.phase }, { on := 2, ground := Ground.phase }, { on := 3, ground := Ground.phase }, { on := 4, ground := Ground.phase }, { on := 5, ground := Ground.phase }], guard := none }) rfl (fun K hK => ?_) AllReadyH.nil
          go_simp
          refine hK.out _ _ ?_ (fun hHeld => ?_)
          · trivial
          clear hK K
          try simp only [Act.put, List.setIfInBounds_toArray, List.set_cons_zero, List.set_cons_succ]
          refine wpAnyH_done (by kernel_rfl) ?_ _
          skip
          have hS8 := hide' (hS7.put (hS7.qb.s1 (.slice o7 n7 c7)))
          clear hS7 f7 d7 hS6 c16 c17 c1d hSd
          have hS8d := hide' (hS8.out.over (Below.refl _ _).drew)
          have c28 := hS8d.out.qb.c2
          clear hS8
          go_wp2
          refine wp_region_held_drew (S := (fun _ => True)) (by kernel_rfl) ?_ (fun hHeld => ?_)
          · trivial
          refine wpAnyH_take (i := 0) (oi := { dst := some 24, op := Op.fieldAddr 27 (Operand.tmp 2) 2, type := 0, pos := "certificate.go:61", after := #[], guard := none }) (v := ?_) rfl (by kernel_rfl) (by kernel_rfl) (by kernel_rfl) (fun _ _ _ h => h) (Or.inl ⟨by rfl, ?_⟩) (by assumption) ?_
          rotate_left
          · intro w hSw; (try dsimp only at hSw); go_simp <;> with_reducible rfl
          simp only [Act.put, List.setIfInBounds_toArray, List.set_cons_zero, List.set_cons_succ]
          refine wpAnyH_take (i := 2) (oi := { dst := some 26, op := Op.move (Operand.tmp 0), type := 68, pos := "certificate.go:61", after := #[], guard := none }) (v := ?_) rfl (by kernel_rfl) (by kernel_rfl) (by kernel_rfl) (fun _ _ _ h => h) (Or.inl ⟨by rfl, ?_⟩) (by assumption) ?_
          rotate_left
          · intro w hSw; (try dsimp only at hSw); go_simp <;> with_reducible rfl
          simp only [Act.put, List.setIfInBounds_toArray, List.set_cons_zero, List.set_cons_succ]
          refine wpAnyH_ready (rs := [1, 3]) (by kernel_rfl) (by simp) ?_
          refine AllReadyH.cons (o := { dst := some 25, op := Op.load 24 (Operand.tmp 24), type := 24, pos := "certificate.go:61", after := #[{ on := 0, ground := Ground.data }], guard := none }) rfl (fun K hK => ?_) ?_
          · skip
            go_simp
            refine hK.out _ _ ?_ (fun hHeld => ?_)
            · trivial
            clear hK K
            try simp only [Act.put, List.setIfInBounds_toArray, List.set_cons_zero, List.set_cons_succ]
            refine wpAnyH_ready (rs := [3]) (by kernel_rfl) (by simp) ?_
            refine AllReadyH.cons (o := { dst := some 27, op := Op.call { callee := Callee.value (Operand.func 30), args := #[Operand.tmp 26], argTypes := #[68] }, type := 3, pos := "certificate.go:61", after := #[{ on := 2, ground := Ground.data }], guard := none }) rfl (fun K hK => ?_) AllReadyH.nil
            go_simp
            refine (K1.out _ _ _ _ hS8d.out).mono ?_; rintro e w9 ⟨rfl, v9, hS9⟩; have c29 := hS9.out.qb.c2; have c2a := (hS9.out.over ((Below.refl _ w9).alloc (Nat.le_refl _) (.cells #[.int .i64 (IntKind.i64.wrap ((zf : Int) + -1))] 3))).qb.c2; (try dsimp only)
            refine hK.out _ _ ?_ (fun hHeld => ?_)
            · trivial
            clear hK K
            try simp only [Act.put, List.setIfInBounds_toArray, List.set_cons_zero, List.set_cons_succ]
            refine wpAnyH_take (i := 4) (oi := { dst := some 28, op := Op.binOp BinOp.add 3 (Operand.tmp 27) (Operand.const (Value.int IntKind.i64 (-1))) 3, type := 3, pos := "certificate.go:61", after := #[{ on := 3, ground := Ground.data }], guard := none }) (v := ?_) rfl (by kernel_rfl) (by kernel_rfl) (by kernel_rfl) (fun _ _ _ h => h) (Or.inl ⟨by rfl, ?_⟩) (by assumption) ?_
            rotate_left
            · intro w hSw; (try dsimp only at hSw); go_simp <;> with_reducible rfl
            simp only [Act.put, List.setIfInBounds_toArray, List.set_cons_zero, List.set_cons_succ]
            refine wpAnyH_ready (rs := [5]) (by kernel_rfl) (by simp) ?_
            refine AllReadyH.cons (o := { dst := some 29, op := Op.buildSlice 24 1 #[(0, Operand.tmp 28)], type := 24, pos := "certificate.go:61", after := #[{ on := 4, ground := Ground.data }], guard := none }) rfl (fun K hK => ?_) AllReadyH.nil
            go_simp
            refine hK.out _ _ ?_ (fun hHeld => ?_)
            · trivial
            clear hK K
            try simp only [Act.put, List.setIfInBounds_toArray, List.set_cons_zero, List.set_cons_succ]
            refine wpAnyH_ready (rs := [6]) (by kernel_rfl) (by simp) ?_
            refine AllReadyH.cons (o := { dst := some 30, op := Op.call { callee := Callee.builtin Builtin.append, args := #[Operand.tmp 25, Operand.tmp 29], argTypes := #[24, 24] }, type := 24, pos := "certificate.go:61", after := #[{ on := 1, ground := Ground.data }, { on := 5, ground := Ground.data }, { on := 3, ground := Ground.chain }], guard := none }) rfl (fun K hK => ?_) AllReadyH.nil
            rw [if_pos (by rfl)]
            refine Cq.wapp2 (.tmp 25) (.tmp 29) hS9.out (IntKind.i64.wrap ((zf : Int) + -1)) rfl rfl rfl hlF ?_; intro oA nA cA wA hSA; have fA := hSA.qb.frz 2; have dA := hSA.qb.c2; (try dsimp only)
            refine hK.out _ _ ?_ (fun hHeld => ?_)
            · trivial
            clear hK K
            try simp only [Act.put, List.setIfInBounds_toArray, List.set_cons_zero, List.set_cons_succ]
            refine wpAnyH_take (i := 7) (oi := { dst := some 31, op := Op.fieldAddr 27 (Operand.tmp 2) 2, type := 0, pos := "certificate.go:61", after := #[{ on := 0, ground := Ground.phase }, { on := 1, ground := Ground.phase }, { on := 2, ground := Ground.phase }, { on := 3, ground := Ground.phase }, { on := 4, ground := Ground.phase }, { on := 5, ground := Ground.phase }, { on := 6, ground := Ground.phase }], guard := none }) (v := ?_) rfl (by kernel_rfl) (by kernel_rfl) (by kernel_rfl) (fun _ _ _ h => h) (Or.inl ⟨by rfl, ?_⟩) (by assumption) ?_
            rotate_left
            · intro w hSw; (try dsimp only at hSw); go_simp <;> with_reducible rfl
            simp only [Act.put, List.setIfInBounds_toArray, List.set_cons_zero, List.set_cons_succ]
            refine wpAnyH_ready (rs := [8]) (by kernel_rfl) (by simp) ?_
            refine AllReadyH.cons (o := { dst := none, op := Op.store 24 (Operand.tmp 31) (Operand.tmp 30), type := 0, pos := "certificate.go:61", after := #[{ on := 7, ground := Ground.data }, { on := 6, ground := Ground.data }, { on := 6, ground := Ground.chain }, { on := 0, ground := Ground.phase }, { on := 1, ground := Ground.phase }, { on := 2, ground := Ground.phase }, { on := 3, ground := Ground.phase }, { on := 4, ground := Ground.phase }, { on := 5, ground := Ground.phase }, { on := 6, ground := Ground.phase }], guard := none }) rfl (fun K hK => ?_) AllReadyH.nil
            go_simp
            refine hK.out _ _ ?_ (fun hHeld => ?_)
            · trivial
            clear hK K
            try simp only [Act.put, List.setIfInBounds_toArray, List.set_cons_zero, List.set_cons_succ]
            refine wpAnyH_done (by kernel_rfl) ?_ _
            skip
            have hSB := hide' (hSA.put (hSA.qb.s2 (.slice oA nA cA)))
            clear hSA fA dA hS9 c29 c2a hS8d c28
            go_wp2_with fail
            refine (K2.out _ _ _ _ _ _ hSB.out).mono ?_
            rintro e wC ⟨rfl, vC, hSC⟩
            go_wp2_with (at_builtin; refine wpList_plain rfl fun _ hK => Cq.wappP (.tmp 32) (.tmp 35) hSC.out (zp : Int) rfl rfl rfl hlP fun oD nD cD wD hSD => hK _ _ ?_; have hSE := hide' hSD; clear hSD)
            rw [hwz.out] at hSE
            obtain ⟨e1, e2, e3, e4⟩ := hNx.out
            exact ⟨⟨j + 1, .slice o7 n7 c7, .slice oA nA cA, vC, by omega, by go_num, by rw [e1, e2, e3, e4]; exact hSE⟩, by simp [intOf]; omega⟩
          refine AllReadyH.cons (o := { dst := some 27, op := Op.call { callee := Callee.value (Operand.func 30), args := #[Operand.tmp 26], argTypes := #[68] }, type := 3, pos := "certificate.go:61", after := #[{ on := 2, ground := Ground.data }], guard := none }) rfl (fun K hK => ?_) AllReadyH.nil
          go_simp
          refine (K1.out _ _ _ _ hS8d.out).mono ?_; rintro e w9 ⟨rfl, v9, hS9⟩; have c29 := hS9.out.qb.c2; have c2a := (hS9.out.over ((Below.refl _ w9).alloc (Nat.le_refl _) (.cells #[.int .i64 (IntKind.i64.wrap ((zf : Int) + -1))] 3))).qb.c2; (try dsimp only)
          refine hK.out _ _ ?_ (fun hHeld => ?_)
          · trivial
          clear hK K
          try simp only [Act.put, List.setIfInBounds_toArray, List.set_cons_zero, List.set_cons_succ]
          refine wpAnyH_take (i := 4) (oi := { dst := some 28, op := Op.binOp BinOp.add 3 (Operand.tmp 27) (Operand.const (Value.int IntKind.i64 (-1))) 3, type := 3, pos := "certificate.go:61", after := #[{ on := 3, ground := Ground.data }], guard := none }) (v := ?_) rfl (by kernel_rfl) (by kernel_rfl) (by kernel_rfl) (fun _ _ _ h => h) (Or.inl ⟨by rfl, ?_⟩) (by assumption) ?_
          rotate_left
          · intro w hSw; (try dsimp only at hSw); go_simp <;> with_reducible rfl
          simp only [Act.put, List.setIfInBounds_toArray, List.set_cons_zero, List.set_cons_succ]
          refine wpAnyH_ready (rs := [1, 5]) (by kernel_rfl) (by simp) ?_
          refine AllReadyH.cons (o := { dst := some 25, op := Op.load 24 (Operand.tmp 24), type := 24, pos := "certificate.go:61", after := #[{ on := 0, ground := Ground.data }], guard := none }) rfl (fun K hK => ?_) ?_
          · skip
            go_simp
            refine hK.out _ _ ?_ (fun hHeld => ?_)
            · trivial
            clear hK K
            try simp only [Act.put, List.setIfInBounds_toArray, List.set_cons_zero, List.set_cons_succ]
            refine wpAnyH_ready (rs := [5]) (by kernel_rfl) (by simp) ?_
            refine AllReadyH.cons (o := { dst := some 29, op := Op.buildSlice 24 1 #[(0, Operand.tmp 28)], type := 24, pos := "certificate.go:61", after := #[{ on := 4, ground := Ground.data }], guard := none }) rfl (fun K hK => ?_) AllReadyH.nil
            go_simp
            refine hK.out _ _ ?_ (fun hHeld => ?_)
            · trivial
            clear hK K
            try simp only [Act.put, List.setIfInBounds_toArray, List.set_cons_zero, List.set_cons_succ]
            refine wpAnyH_ready (rs := [6]) (by kernel_rfl) (by simp) ?_
            refine AllReadyH.cons (o := { dst := some 30, op := Op.call { callee := Callee.builtin Builtin.append, args := #[Operand.tmp 25, Operand.tmp 29], argTypes := #[24, 24] }, type := 24, pos := "certificate.go:61", after := #[{ on := 1, ground := Ground.data }, { on := 5, ground := Ground.data }, { on := 3, ground := Ground.chain }], guard := none }) rfl (fun K hK => ?_) AllReadyH.nil
            rw [if_pos (by rfl)]
            refine Cq.wapp2 (.tmp 25) (.tmp 29) hS9.out (IntKind.i64.wrap ((zf : Int) + -1)) rfl rfl rfl hlF ?_; intro oA nA cA wA hSA; have fA := hSA.qb.frz 2; have dA := hSA.qb.c2; (try dsimp only)
            refine hK.out _ _ ?_ (fun hHeld => ?_)
            · trivial
            clear hK K
            try simp only [Act.put, List.setIfInBounds_toArray, List.set_cons_zero, List.set_cons_succ]
            refine wpAnyH_take (i := 7) (oi := { dst := some 31, op := Op.fieldAddr 27 (Operand.tmp 2) 2, type := 0, pos := "certificate.go:61", after := #[{ on := 0, ground := Ground.phase }, { on := 1, ground := Ground.phase }, { on := 2, ground := Ground.phase }, { on := 3, ground := Ground.phase }, { on := 4, ground := Ground.phase }, { on := 5, ground := Ground.phase }, { on := 6, ground := Ground.phase }], guard := none }) (v := ?_) rfl (by kernel_rfl) (by kernel_rfl) (by kernel_rfl) (fun _ _ _ h => h) (Or.inl ⟨by rfl, ?_⟩) (by assumption) ?_
            rotate_left
            · intro w hSw; (try dsimp only at hSw); go_simp <;> with_reducible rfl
            simp only [Act.put, List.setIfInBounds_toArray, List.set_cons_zero, List.set_cons_succ]
            refine wpAnyH_ready (rs := [8]) (by kernel_rfl) (by simp) ?_
            refine AllReadyH.cons (o := { dst := none, op := Op.store 24 (Operand.tmp 31) (Operand.tmp 30), type := 0, pos := "certificate.go:61", after := #[{ on := 7, ground := Ground.data }, { on := 6, ground := Ground.data }, { on := 6, ground := Ground.chain }, { on := 0, ground := Ground.phase }, { on := 1, ground := Ground.phase }, { on := 2, ground := Ground.phase }, { on := 3, ground := Ground.phase }, { on := 4, ground := Ground.phase }, { on := 5, ground := Ground.phase }, { on := 6, ground := Ground.phase }], guard := none }) rfl (fun K hK => ?_) AllReadyH.nil
            go_simp
            refine hK.out _ _ ?_ (fun hHeld => ?_)
            · trivial
            clear hK K
            try simp only [Act.put, List.setIfInBounds_toArray, List.set_cons_zero, List.set_cons_succ]
            refine wpAnyH_done (by kernel_rfl) ?_ _
            skip
            have hSB := hide' (hSA.put (hSA.qb.s2 (.slice oA nA cA)))
            clear hSA fA dA hS9 c29 c2a hS8d c28
            go_wp2_with fail
            refine (K2.out _ _ _ _ _ _ hSB.out).mono ?_
            rintro e wC ⟨rfl, vC, hSC⟩
            go_wp2_with (at_builtin; refine wpList_plain rfl fun _ hK => Cq.wappP (.tmp 32) (.tmp 35) hSC.out (zp : Int) rfl rfl rfl hlP fun oD nD cD wD hSD => hK _ _ ?_; have hSE := hide' hSD; clear hSD)
            rw [hwz.out] at hSE
            obtain ⟨e1, e2, e3, e4⟩ := hNx.out
            exact ⟨⟨j + 1, .slice o7 n7 c7, .slice oA nA cA, vC, by omega, by go_num, by rw [e1, e2, e3, e4]; exact hSE⟩, by simp [intOf]; omega⟩
          refine AllReadyH.cons (o := { dst := some 29, op := Op.buildSlice 24 1 #[(0, Operand.tmp 28)], type := 24, pos := "certificate.go:61", after := #[{ on := 4, ground := Ground.data }], guard := none }) rfl (fun K hK => ?_) AllReadyH.nil
          go_simp
          refine hK.out _ _ ?_ (fun hHeld => ?_)
          · trivial
          clear hK K
          try simp only [Act.put, List.setIfInBounds_toArray, List.set_cons_zero, List.set_cons_succ]
          refine wpAnyH_ready (rs := [1]) (by kernel_rfl) (by simp) ?_
          refine AllReadyH.cons (o := { dst := some 25, op := Op.load 24 (Operand.tmp 24), type := 24, pos := "certificate.go:61", after := #[{ on := 0, ground := Ground.data }], guard := none }) rfl (fun K hK => ?_) AllReadyH.nil
          go_simp
          refine hK.out _ _ ?_ (fun hHeld => ?_)
          · trivial
          clear hK K
          try simp only [Act.put, List.setIfInBounds_toArray, List.set_cons_zero, List.set_cons_succ]
          refine wpAnyH_ready (rs := [6]) (by kernel_rfl) (by simp) ?_
          refine AllReadyH.cons (o := { dst := some 30, op := Op.call { callee := Callee.builtin Builtin.append, args := #[Operand.tmp 25, Operand.tmp 29], argTypes := #[24, 24] }, type := 24, pos := "certificate.go:61", after := #[{ on := 1, ground := Ground.data }, { on := 5, ground := Ground.data }, { on := 3, ground := Ground.chain }], guard := none }) rfl (fun K hK => ?_) AllReadyH.nil
          rw [if_pos (by rfl)]
          refine Cq.wapp2 (.tmp 25) (.tmp 29) hS9.out (IntKind.i64.wrap ((zf : Int) + -1)) rfl rfl rfl hlF ?_; intro oA nA cA wA hSA; have fA := hSA.qb.frz 2; have dA := hSA.qb.c2; (try dsimp only)
          refine hK.out _ _ ?_ (fun hHeld => ?_)
          · trivial
          clear hK K
          try simp only [Act.put, List.setIfInBounds_toArray, List.set_cons_zero, List.set_cons_succ]
          refine wpAnyH_take (i := 7) (oi := { dst := some 31, op := Op.fieldAddr 27 (Operand.tmp 2) 2, type := 0, pos := "certificate.go:61", after := #[{ on := 0, ground := Ground.phase }, { on := 1, ground := Ground.phase }, { on := 2, ground := Ground.phase }, { on := 3, ground := Ground.phase }, { on := 4, ground := Ground.phase }, { on := 5, ground := Ground.phase }, { on := 6, ground := Ground.phase }], guard := none }) (v := ?_) rfl (by kernel_rfl) (by kernel_rfl) (by kernel_rfl) (fun _ _ _ h => h) (Or.inl ⟨by rfl, ?_⟩) (by assumption) ?_
          rotate_left
          · intro w hSw; (try dsimp only at hSw); go_simp <;> with_reducible rfl
          simp only [Act.put, List.setIfInBounds_toArray, List.set_cons_zero, List.set_cons_succ]
          refine wpAnyH_ready (rs := [8]) (by kernel_rfl) (by simp) ?_
          refine AllReadyH.cons (o := { dst := none, op := Op.store 24 (Operand.tmp 31) (Operand.tmp 30), type := 0, pos := "certificate.go:61", after := #[{ on := 7, ground := Ground.data }, { on := 6, ground := Ground.data }, { on := 6, ground := Ground.chain }, { on := 0, ground := Ground.phase }, { on := 1, ground := Ground.phase }, { on := 2, ground := Ground.phase }, { on := 3, ground := Ground.phase }, { on := 4, ground := Ground.phase }, { on := 5, ground := Ground.phase }, { on := 6, ground := Ground.phase }], guard := none }) rfl (fun K hK => ?_) AllReadyH.nil
          go_simp
          refine hK.out _ _ ?_ (fun hHeld => ?_)
          · trivial
          clear hK K
          try simp only [Act.put, List.setIfInBounds_toArray, List.set_cons_zero, List.set_cons_succ]
          refine wpAnyH_done (by kernel_rfl) ?_ _
          skip
          have hSB := hide' (hSA.put (hSA.qb.s2 (.slice oA nA cA)))
          clear hSA fA dA hS9 c29 c2a hS8d c28
          go_wp2_with fail
          refine (K2.out _ _ _ _ _ _ hSB.out).mono ?_
          rintro e wC ⟨rfl, vC, hSC⟩
          go_wp2_with (at_builtin; refine wpList_plain rfl fun _ hK => Cq.wappP (.tmp 32) (.tmp 35) hSC.out (zp : Int) rfl rfl rfl hlP fun oD nD cD wD hSD => hK _ _ ?_; have hSE := hide' hSD; clear hSD)
          rw [hwz.out] at hSE
          obtain ⟨e1, e2, e3, e4⟩ := hNx.out
          exact ⟨⟨j + 1, .slice o7 n7 c7, .slice oA nA cA, vC, by omega, by go_num, by rw [e1, e2, e3, e4]; exact hSE⟩, by simp [intOf]; omega⟩
        refine AllReadyH.cons (o := { dst := some 21, op := Op.buildSlice 23 1 #[(0, Operand.tmp 20)], type := 23, pos := "certificate.go:60", after := #[{ on := 3, ground := Ground.data }], guard := none }) rfl (fun K hK => ?_) AllReadyH.nil
        go_simp
        refine hK.out _ _ ?_ (fun hHeld => ?_)
        · trivial
        clear hK K
        try simp only [Act.put, List.setIfInBounds_toArray, List.set_cons_zero, List.set_cons_succ]
        refine wpAnyH_ready (rs := [1]) (by kernel_rfl) (by simp) ?_
        refine AllReadyH.cons (o := { dst := some 18, op := Op.load 23 (Operand.tmp 17), type := 23, pos := "certificate.go:60", after := #[{ on := 0, ground := Ground.data }], guard := none }) rfl (fun K hK => ?_) AllReadyH.nil
        go_simp
        refine hK.out _ _ ?_ (fun hHeld => ?_)
        · trivial
        clear hK K
        try simp only [Act.put, List.setIfInBounds_toArray, List.set_cons_zero, List.set_cons_succ]
        refine wpAnyH_ready (rs := [5]) (by kernel_rfl) (by simp) ?_
        refine AllReadyH.cons (o := { dst := some 22, op := Op.call { callee := Callee.builtin Builtin.append, args := #[Operand.tmp 18, Operand.tmp 21], argTypes := #[23, 23] }, type := 23, pos := "certificate.go:60", after := #[{ on := 1, ground := Ground.data }, { on := 4, ground := Ground.data }, { on := 3, ground := Ground.chain }], guard := none }) rfl (fun K hK => ?_) AllReadyH.nil
        rw [if_pos (by rfl)]
        refine Cq.wapp1 (.tmp 18) (.tmp 21) hS6.out z8 rfl rfl rfl hlW ?_; intro o7 n7 c7 w7 hS7; have f7 := hS7.qb.frz 1; have d7 := hS7.qb.c1; (try dsimp only)
        refine hK.out _ _ ?_ (fun hHeld => ?_)
        · trivial
        clear hK K
        try simp only [Act.put, List.setIfInBounds_toArray, List.set_cons_zero, List.set_cons_succ]
        refine wpAnyH_take (i := 6) (oi := { dst := some 23, op := Op.fieldAddr 27 (Operand.tmp 2) 1, type := 0, pos := "certificate.go:60", after := #[{ on := 0, ground := Ground.phase }, { on := 1, ground := Ground.phase }, { on := 2, ground := Ground.phase }, { on := 3, ground := Ground.phase }, { on := 4, ground := Ground.phase }, { on := 5, ground := Ground.phase }], guard := none }) (v := ?_) rfl (by kernel_rfl) (by kernel_rfl) (by kernel_rfl) (fun _ _ _ h => h) (Or.inl ⟨by rfl, ?_⟩) (by assumption) ?_
        rotate_left
        · intro w hSw; (try dsimp only at hSw); go_simp <;> with_reducible rfl
        simp only [Act.put, List.setIfInBounds_toArray, List.set_cons_zero, List.set_cons_succ]
        refine wpAnyH_ready (rs := [7]) (by kernel_rfl) (by simp) ?_
        refine AllReadyH.cons (o := { dst := none, op := Op.store 23 (Operand.tmp 23) (Operand.tmp 22), type := 0, pos := "certificate.go:60", after := #[{ on := 6, ground := Ground.data }, { on := 5, ground := Ground.data }, { on := 5, ground := Ground.chain }, { on := 0, ground := Ground.phase }, { on := 1, ground := Ground.phase }, { on := 2, ground := Ground.phase }, { on := 3, ground := Ground.phase }, { on := 4, ground := Ground.phase }, { on := 5, ground := Ground.phase }], guard := none }) rfl (fun K hK => ?_) AllReadyH.nil
        go_simp
        refine hK.out _ _ ?_ (fun hHeld => ?_)
        · trivial
        clear hK K
        try simp only [Act.put, List.setIfInBounds_toArray, List.set_cons_zero, List.set_cons_succ]
        refine wpAnyH_done (by kernel_rfl) ?_ _
        skip
        have hS8 := hide' (hS7.put (hS7.qb.s1 (.slice o7 n7 c7)))
        clear hS7 f7 d7 hS6 c16 c17 c1d hSd
        have hS8d := hide' (hS8.out.over (Below.refl _ _).drew)
        have c28 := hS8d.out.qb.c2
        clear hS8
        go_wp2
        refine wp_region_held_drew (S := (fun _ => True)) (by kernel_rfl) ?_ (fun hHeld => ?_)
        · trivial
        refine wpAnyH_take (i := 0) (oi := { dst := some 24, op := Op.fieldAddr 27 (Operand.tmp 2) 2, type := 0, pos := "certificate.go:61", after := #[], guard := none }) (v := ?_) rfl (by kernel_rfl) (by kernel_rfl) (by kernel_rfl) (fun _ _ _ h => h) (Or.inl ⟨by rfl, ?_⟩) (by assumption) ?_
        rotate_left
        · intro w hSw; (try dsimp only at hSw); go_simp <;> with_reducible rfl
        simp only [Act.put, List.setIfInBounds_toArray, List.set_cons_zero, List.set_cons_succ]
        refine wpAnyH_take (i := 2) (oi := { dst := some 26, op := Op.move (Operand.tmp 0), type := 68, pos := "certificate.go:61", after := #[], guard := none }) (v := ?_) rfl (by kernel_rfl) (by kernel_rfl) (by kernel_rfl) (fun _ _ _ h => h) (Or.inl ⟨by rfl, ?_⟩) (by assumption) ?_
        rotate_left
        · intro w hSw; (try dsimp only at hSw); go_simp <;> with_reducible rfl
        simp only [Act.put, List.setIfInBounds_toArray, List.set_cons_zero, List.set_cons_succ]
        refine wpAnyH_ready (rs := [1, 3]) (by kernel_rfl) (by simp) ?_
        refine AllReadyH.cons (o := { dst := some 25, op := Op.load 24 (Operand.tmp 24), type := 24, pos := "certificate.go:61", after := #[{ on := 0, ground := Ground.data }], guard := none }) rfl (fun K hK => ?_) ?_
        · skip
          go_simp
          refine hK.out _ _ ?_ (fun hHeld => ?_)
          · trivial
          clear hK K
          try simp only [Act.put, List.setIfInBounds_toArray, List.set_cons_zero, List.set_cons_succ]
          refine wpAnyH_ready (rs := [3]) (by kernel_rfl) (by simp) ?_
          refine AllReadyH.cons (o := { dst := some 27, op := Op.call { callee := Callee.value (Operand.func 30), args := #[Operand.tmp 26], argTypes := #[68] }, type := 3, pos := "certificate.go:61", after := #[{ on := 2, ground := Ground.data }], guard := none }) rfl (fun K hK => ?_) AllReadyH.nil
          go_simp
          refine (K1.out _ _ _ _ hS8d.out).mono ?_; rintro e w9 ⟨rfl, v9, hS9⟩; have c29 := hS9.out.qb.c2; have c2a := (hS9.out.over ((Below.refl _ w9).alloc (Nat.le_refl _) (.cells #[.int .i64 (IntKind.i64.wrap ((zf : Int) + -1))] 3))).qb.c2; (try dsimp only)
          refine hK.out _ _ ?_ (fun hHeld => ?_)
          · trivial
          clear hK K
          try simp only [Act.put, List.setIfInBounds_toArray, List.set_cons_zero, List.set_cons_succ]
          refine wpAnyH_take (i := 4) (oi := { dst := some 28, op := Op.binOp BinOp.add 3 (Operand.tmp 27) (Operand.const (Value.int IntKind.i64 (-1))) 3, type := 3, pos := "certificate.go:61", after := #[{ on := 3, ground := Ground.data }], guard := none }) (v := ?_) rfl (by kernel_rfl) (by kernel_rfl) (by kernel_rfl) (fun _ _ _ h => h) (Or.inl ⟨by rfl, ?_⟩) (by assumption) ?_
          rotate_left
          · intro w hSw; (try dsimp only at hSw); go_simp <;> with_reducible rfl
          simp only [Act.put, List.setIfInBounds_toArray, List.set_cons_zero, List.set_cons_succ]
          refine wpAnyH_ready (rs := [5]) (by kernel_rfl) (by simp) ?_
          refine AllReadyH.cons (o := { dst := some 29, op := Op.buildSlice 24 1 #[(0, Operand.tmp 28)], type := 24, pos := "certificate.go:61", after := #[{ on := 4, ground := Ground.data }], guard := none }) rfl (fun K hK => ?_) AllReadyH.nil
          go_simp
          refine hK.out _ _ ?_ (fun hHeld => ?_)
          · trivial
          clear hK K
          try simp only [Act.put, List.setIfInBounds_toArray, List.set_cons_zero, List.set_cons_succ]
          refine wpAnyH_ready (rs := [6]) (by kernel_rfl) (by simp) ?_
          refine AllReadyH.cons (o := { dst := some 30, op := Op.call { callee := Callee.builtin Builtin.append, args := #[Operand.tmp 25, Operand.tmp 29], argTypes := #[24, 24] }, type := 24, pos := "certificate.go:61", after := #[{ on := 1, ground := Ground.data }, { on := 5, ground := Ground.data }, { on := 3, ground := Ground.chain }], guard := none }) rfl (fun K hK => ?_) AllReadyH.nil
          rw [if_pos (by rfl)]
          refine Cq.wapp2 (.tmp 25) (.tmp 29) hS9.out (IntKind.i64.wrap ((zf : Int) + -1)) rfl rfl rfl hlF ?_; intro oA nA cA wA hSA; have fA := hSA.qb.frz 2; have dA := hSA.qb.c2; (try dsimp only)
          refine hK.out _ _ ?_ (fun hHeld => ?_)
          · trivial
          clear hK K
          try simp only [Act.put, List.setIfInBounds_toArray, List.set_cons_zero, List.set_cons_succ]
          refine wpAnyH_take (i := 7) (oi := { dst := some 31, op := Op.fieldAddr 27 (Operand.tmp 2) 2, type := 0, pos := "certificate.go:61", after := #[{ on := 0, ground := Ground.phase }, { on := 1, ground := Ground.phase }, { on := 2, ground := Ground.phase }, { on := 3, ground := Ground.phase }, { on := 4, ground := Ground.phase }, { on := 5, ground := Ground.phase }, { on := 6, ground := Ground.phase }], guard := none }) (v := ?_) rfl (by kernel_rfl) (by kernel_rfl) (by kernel_rfl) (fun _ _ _ h => h) (Or.inl ⟨by rfl, ?_⟩) (by assumption) ?_
          rotate_left
          · intro w hSw; (try dsimp only at hSw); go_simp <;> with_reducible rfl
          simp only [Act.put, List.setIfInBounds_toArray, List.set_cons_zero, List.set_cons_succ]
          refine wpAnyH_ready (rs := [8]) (by kernel_rfl) (by simp) ?_
          refine AllReadyH.cons (o := { dst := none, op := Op.store 24 (Operand.tmp 31) (Operand.tmp 30), type := 0, pos := "certificate.go:61", after := #[{ on := 7, ground := Ground.data }, { on := 6, ground := Ground.data }, { on := 6, ground := Ground.chain }, { on := 0, ground := Ground.phase }, { on := 1, ground := Ground.phase }, { on := 2, ground := Ground.phase }, { on := 3, ground := Ground.phase }, { on := 4, ground := Ground.phase }, { on := 5, ground := Ground.phase }, { on := 6, ground := Ground.phase }], guard := none }) rfl (fun K hK => ?_) AllReadyH.nil
          go_simp
          refine hK.out _ _ ?_ (fun hHeld => ?_)
          · trivial
          clear hK K
          try simp only [Act.put, List.setIfInBounds_toArray, List.set_cons_zero, List.set_cons_succ]
          refine wpAnyH_done (by kernel_rfl) ?_ _
          skip
          have hSB := hide' (hSA.put (hSA.qb.s2 (.slice oA nA cA)))
          clear hSA fA dA hS9 c29 c2a hS8d c28
          go_wp2_with fail
          refine (K2.out _ _ _ _ _ _ hSB.out).mono ?_
          rintro e wC ⟨rfl, vC, hSC⟩
          go_wp2_with (at_builtin; refine wpList_plain rfl fun _ hK => Cq.wappP (.tmp 32) (.tmp 35) hSC.out (zp : Int) rfl rfl rfl hlP fun oD nD cD wD hSD => hK _ _ ?_; have hSE := hide' hSD; clear hSD)
          rw [hwz.out] at hSE
          obtain ⟨e1, e2, e3, e4⟩ := hNx.out
          exact ⟨⟨j + 1, .slice o7 n7 c7, .slice oA nA cA, vC, by omega, by go_num, by rw [e1, e2, e3, e4]; exact hSE⟩, by simp [intOf]; omega⟩
        refine AllReadyH.cons (o := { dst := some 27, op := Op.call { callee := Callee.value (Operand.func 30), args := #[Operand.tmp 26], argTypes := #[68] }, type := 3, pos := "certificate.go:61", after := #[{ on := 2, ground := Ground.data }], guard := none }) rfl (fun K hK => ?_) AllReadyH.nil
        go_simp
        refine (K1.out _ _ _ _ hS8d.out).mono ?_; rintro e w9 ⟨rfl, v9, hS9⟩; have c29 := hS9.out.qb.c2; have c2a := (hS9.out.over ((Below.refl _ w9).alloc (Nat.le_refl _) (.cells #[.int .i64 (IntKind.i64.wrap ((zf : Int) + -1))] 3))).qb.c2; (try dsimp only)
        refine hK.out _ _ ?_ (fun hHeld => ?_)
        · trivial
        clear hK K
        try simp only [Act.put, List.setIfInBounds_toArray, List.set_cons_zero, List.set_cons_succ]
        refine wpAnyH_take (i := 4) (oi := { dst := some 28, op := Op.binOp BinOp.add 3 (Operand.tmp 27) (Operand.const (Value.int IntKind.i64 (-1))) 3, type := 3, pos := "certificate.go:61", after := #[{ on := 3, ground := Ground.data }], guard := none }) (v := ?_) rfl (by kernel_rfl) (by kernel_rfl) (by kernel_rfl) (fun _ _ _ h => h) (Or.inl ⟨by rfl, ?_⟩) (by assumption) ?_
        rotate_left
        · intro w hSw; (try dsimp only at hSw); go_simp <;> with_reducible rfl
        simp only [Act.put, List.setIfInBounds_toArray, List.set_cons_zero, List.set_cons_succ]
        refine wpAnyH_ready (rs := [1, 5]) (by kernel_rfl) (by simp) ?_
        refine AllReadyH.cons (o := { dst := some 25, op := Op.load 24 (Operand.tmp 24), type := 24, pos := "certificate.go:61", after := #[{ on := 0, ground := Ground.data }], guard := none }) rfl (fun K hK => ?_) ?_
        · skip
          go_simp
          refine hK.out _ _ ?_ (fun hHeld => ?_)
          · trivial
          clear hK K
          try simp only [Act.put, List.setIfInBounds_toArray, List.set_cons_zero, List.set_cons_succ]
          refine wpAnyH_ready (rs := [5]) (by kernel_rfl) (by simp) ?_
          refine AllReadyH.cons (o := { dst := some 29, op := Op.buildSlice 24 1 #[(0, Operand.tmp 28)], type := 24, pos := "certificate.go:61", after := #[{ on := 4, ground := Ground.data }], guard := none }) rfl (fun K hK => ?_) AllReadyH.nil
          go_simp
          refine hK.out _ _ ?_ (fun hHeld => ?_)
          · trivial
          clear hK K
          try simp only [Act.put, List.setIfInBounds_toArray, List.set_cons_zero, List.set_cons_succ]
          refine wpAnyH_ready (rs := [6]) (by kernel_rfl) (by simp) ?_
          refine AllReadyH.cons (o := { dst := some 30, op := Op.call { callee := Callee.builtin Builtin.append, args := #[Operand.tmp 25, Operand.tmp 29], argTypes := #[24, 24] }, type := 24, pos := "certificate.go:61", after := #[{ on := 1, ground := Ground.data }, { on := 5, ground := Ground.data }, { on := 3, ground := Ground.chain }], guard := none }) rfl (fun K hK => ?_) AllReadyH.nil
          rw [if_pos (by rfl)]
          refine Cq.wapp2 (.tmp 25) (.tmp 29) hS9.out (IntKind.i64.wrap ((zf : Int) + -1)) rfl rfl rfl hlF ?_; intro oA nA cA wA hSA; have fA := hSA.qb.frz 2; have dA := hSA.qb.c2; (try dsimp only)
          refine hK.out _ _ ?_ (fun hHeld => ?_)
          · trivial
          clear hK K
          try simp only [Act.put, List.setIfInBounds_toArray, List.set_cons_zero, List.set_cons_succ]
          refine wpAnyH_take (i := 7) (oi := { dst := some 31, op := Op.fieldAddr 27 (Operand.tmp 2) 2, type := 0, pos := "certificate.go:61", after := #[{ on := 0, ground := Ground.phase }, { on := 1, ground := Ground.phase }, { on := 2, ground := Ground.phase }, { on := 3, ground := Ground.phase }, { on := 4, ground := Ground.phase }, { on := 5, ground := Ground.phase }, { on := 6, ground := Ground.phase }], guard := none }) (v := ?_) rfl (by kernel_rfl) (by kernel_rfl) (by kernel_rfl) (fun _ _ _ h => h) (Or.inl ⟨by rfl, ?_⟩) (by assumption) ?_
          rotate_left
          · intro w hSw; (try dsimp only at hSw); go_simp <;> with_reducible rfl
          simp only [Act.put, List.setIfInBounds_toArray, List.set_cons_zero, List.set_cons_succ]
          refine wpAnyH_ready (rs := [8]) (by kernel_rfl) (by simp) ?_
          refine AllReadyH.cons (o := { dst := none, op := Op.store 24 (Operand.tmp 31) (Operand.tmp 30), type := 0, pos := "certificate.go:61", after := #[{ on := 7, ground := Ground.data }, { on := 6, ground := Ground.data }, { on := 6, ground := Ground.chain }, { on := 0, ground := Ground.phase }, { on := 1, ground := Ground.phase }, { on := 2, ground := Ground.phase }, { on := 3, ground := Ground.phase }, { on := 4, ground := Ground.phase }, { on := 5, ground := Ground.phase }, { on := 6, ground := Ground.phase }], guard := none }) rfl (fun K hK => ?_) AllReadyH.nil
          go_simp
          refine hK.out _ _ ?_ (fun hHeld => ?_)
          · trivial
          clear hK K
          try simp only [Act.put, List.setIfInBounds_toArray, List.set_cons_zero, List.set_cons_succ]
          refine wpAnyH_done (by kernel_rfl) ?_ _
          skip
          have hSB := hide' (hSA.put (hSA.qb.s2 (.slice oA nA cA)))
          clear hSA fA dA hS9 c29 c2a hS8d c28
          go_wp2_with fail
          refine (K2.out _ _ _ _ _ _ hSB.out).mono ?_
          rintro e wC ⟨rfl, vC, hSC⟩
          go_wp2_with (at_builtin; refine wpList_plain rfl fun _ hK => Cq.wappP (.tmp 32) (.tmp 35) hSC.out (zp : Int) rfl rfl rfl hlP fun oD nD cD wD hSD => hK _ _ ?_; have hSE := hide' hSD; clear hSD)
          rw [hwz.out] at hSE
          obtain ⟨e1, e2, e3, e4⟩ := hNx.out
          exact ⟨⟨j + 1, .slice o7 n7 c7, .slice oA nA cA, vC, by omega, by go_num, by rw [e1, e2, e3, e4]; exact hSE⟩, by simp [intOf]; omega⟩
        refine AllReadyH.cons (o := { dst := some 29, op := Op.buildSlice 24 1 #[(0, Operand.tmp 28)], type := 24, pos := "certificate.go:61", after := #[{ on := 4, ground := Ground.data }], guard := none }) rfl (fun K hK => ?_) AllReadyH.nil
        go_simp
        refine hK.out _ _ ?_ (fun hHeld => ?_)
        · trivial
        clear hK K
        try simp only [Act.put, List.setIfInBounds_toArray, List.set_cons_zero, List.set_cons_succ]
        refine wpAnyH_ready (rs := [1]) (by kernel_rfl) (by simp) ?_
        refine AllReadyH.cons (o := { dst := some 25, op := Op.load 24 (Operand.tmp 24), type := 24, pos := "certificate.go:61", after := #[{ on := 0, ground := Ground.data }], guard := none }) rfl (fun K hK => ?_) AllReadyH.nil
        go_simp
        refine hK.out _ _ ?_ (fun hHeld => ?_)
        · trivial
        clear hK K
        try simp only [Act.put, List.setIfInBounds_toArray, List.set_cons_zero, List.set_cons_succ]
        refine wpAnyH_ready (rs := [6]) (by kernel_rfl) (by simp) ?_
        refine AllReadyH.cons (o := { dst := some 30, op := Op.call { callee := Callee.builtin Builtin.append, args := #[Operand.tmp 25, Operand.tmp 29], argTypes := #[24, 24] }, type := 24, pos := "certificate.go:61", after := #[{ on := 1, ground := Ground.data }, { on := 5, ground := Ground.data }, { on := 3, ground := Ground.chain }], guard := none }) rfl (fun K hK => ?_) AllReadyH.nil
        rw [if_pos (by rfl)]
        refine Cq.wapp2 (.tmp 25) (.tmp 29) hS9.out (IntKind.i64.wrap ((zf : Int) + -1)) rfl rfl rfl hlF ?_; intro oA nA cA wA hSA; have fA := hSA.qb.frz 2; have dA := hSA.qb.c2; (try dsimp only)
        refine hK.out _ _ ?_ (fun hHeld => ?_)
        · trivial
        clear hK K
        try simp only [Act.put, List.setIfInBounds_toArray, List.set_cons_zero, List.set_cons_succ]
        refine wpAnyH_take (i := 7) (oi := { dst := some 31, op := Op.fieldAddr 27 (Operand.tmp 2) 2, type := 0, pos := "certificate.go:61", after := #[{ on := 0, ground := Ground.phase }, { on := 1, ground := Ground.phase }, { on := 2, ground := Ground.phase }, { on := 3, ground := Ground.phase }, { on := 4, ground := Ground.phase }, { on := 5, ground := Ground.phase }, { on := 6, ground := Ground.phase }], guard := none }) (v := ?_) rfl (by kernel_rfl) (by kernel_rfl) (by kernel_rfl) (fun _ _ _ h => h) (Or.inl ⟨by rfl, ?_⟩) (by assumption) ?_
        rotate_left
        · intro w hSw; (try dsimp only at hSw); go_simp <;> with_reducible rfl
        simp only [Act.put, List.setIfInBounds_toArray, List.set_cons_zero, List.set_cons_succ]
        refine wpAnyH_ready (rs := [8]) (by kernel_rfl) (by simp) ?_
        refine AllReadyH.cons (o := { dst := none, op := Op.store 24 (Operand.tmp 31) (Operand.tmp 30), type := 0, pos := "certificate.go:61", after := #[{ on := 7, ground := Ground.data }, { on := 6, ground := Ground.data }, { on := 6, ground := Ground.chain }, { on := 0, ground := Ground.phase }, { on := 1, ground := Ground.phase }, { on := 2, ground := Ground.phase }, { on := 3, ground := Ground.phase }, { on := 4, ground := Ground.phase }, { on := 5, ground := Ground.phase }, { on := 6, ground := Ground.phase }], guard := none }) rfl (fun K hK => ?_) AllReadyH.nil
        go_simp
        refine hK.out _ _ ?_ (fun hHeld => ?_)
        · trivial
        clear hK K
        try simp only [Act.put, List.setIfInBounds_toArray, List.set_cons_zero, List.set_cons_succ]
        refine wpAnyH_done (by kernel_rfl) ?_ _
        skip
        have hSB := hide' (hSA.put (hSA.qb.s2 (.slice oA nA cA)))
        clear hSA fA dA hS9 c29 c2a hS8d c28
        go_wp2_with fail
        refine (K2.out _ _ _ _ _ _ hSB.out).mono ?_
        rintro e wC ⟨rfl, vC, hSC⟩
        go_wp2_with (at_builtin; refine wpList_plain rfl fun _ hK => Cq.wappP (.tmp 32) (.tmp 35) hSC.out (zp : Int) rfl rfl rfl hlP fun oD nD cD wD hSD => hK _ _ ?_; have hSE := hide' hSD; clear hSD)
        rw [hwz.out] at hSE
        obtain ⟨e1, e2, e3, e4⟩ := hNx.out
        exact ⟨⟨j + 1, .slice o7 n7 c7, .slice oA nA cA, vC, by omega, by go_num, by rw [e1, e2, e3, e4]; exact hSE⟩, by simp [intOf]; omega⟩
      · as_aux_lemma =>
        obtain rfl : j = n := by omega
        clear hlc hbC
        go_wp2
        go_meet
        exact ⟨va, vb, vx, hS⟩
  case rest =>
  obtain ⟨va, vb, vx, hS⟩ := hcut
  obtain ⟨oa, na, ca, rfl⟩ : ∃ a b c, va = .slice a b c := by obtain ⟨a, c, e⟩ := own_shp hS.out.r1; exact ⟨a, _, c, e⟩
  obtain ⟨ob, nb, cb, rfl⟩ : ∃ a b c, vb = .slice a b c := by obtain ⟨a, c, e⟩ := own_shp hS.out.r2; exact ⟨a, _, c, e⟩
  obtain ⟨oq, nq, cq, rfl⟩ : ∃ a b c, u3 = .slice a b c := by obtain ⟨a, c, e⟩ := own_shp hS.out.rp; exact ⟨a, _, c, e⟩
  have hln := hlc.out n
  have hKb : tkN 1 (csS n A) < 256 := tkN_lt (wd := 1) (hbC.out n)
  have hlB : Hid (∀ j, (crS j (tkS 1 (csS n A))).1.length ≤ 100000) := fun j => Nat.le_trans (crS_len j _) (Nat.le_trans (tkS_len 1 _) hln)
  have hlF := hide' hln
  clear hS5 hlc hbC hln
  go_wp2_with fail
  refine (smallF B gr vx (csS n A) _ hS.out.rd hlF.out).mono ?_
  rintro e w6 ⟨rfl, v6, hR6, hf6⟩
  have hS6 := hide' (hS.out.tk hR6.out hf6.out)
  obtain ⟨r1, r2, r3, r4⟩ := hRA.out
  rw [← r1] at hS6 hlB
  rw [← r2] at hKb ⊢
  have hFin : Hid (rcP s = ⟨(U : Int), csW n A, csF n A, crL (rcK s) (rcB s)⟩ ∧ rcL s = csP n A ∧ rcS s = crS (rcK s) (rcB s)) := ⟨hFU.out, r3, r4⟩
  have hS7 : Hid (Cq w B gr w6 v6 (crS 0 (rcB s)) (U : Int) (.slice oa na ca) (.slice ob nb cb) (.slice none 0 0) (.slice oa na ca) (.slice ob nb cb) (.slice none 0 0) (.slice oq nq cq) (csW n A) (csF n A) (csP n A) []) := hS6
  clear hS hR6 hf6 hRA hFU r1 r2 r3 r4 hS6 hlF
  generalize rcB s = T at *
  generalize rcK s = m at *
  generalize csW n A = Lw at *
  generalize csF n A = Lf at *
  generalize csP n A = Lp at *
  go_wp2
  go_loopw [40] (fun p wr => ∃ (j : Nat) (vc vx : Value) (E : List (Rl × Value)), j ≤ m ∧ p = .int .i64 (j : Int) ∧ Hid (E.map Prod.fst = crL j T) ∧ Hid (Cq w B gr wr vx (crS j T) (U : Int) (.slice oa na ca) (.slice ob nb cb) vc (.slice oa na ca) (.slice ob nb cb) vc (.slice oq nq cq) Lw Lf Lp E)) (fun p _ => ((m : Int) - intOf p).toNat)
  case atStart => exact ⟨0, _, _, [], Nat.zero_le _, rfl, rfl, hS7⟩
  case round =>
    clear hS7
    obtain ⟨j, vc, vx, E, hj, rfl, hE, hS⟩ := hrel
    obtain ⟨oc, nc, cc, rfl⟩ : ∃ a b c, vc = .slice a b c := by obtain ⟨a, c, e⟩ := own_shp hS.out.r3.row; exact ⟨a, _, c, e⟩
    by_cases hlt : j < m
    · as_aux_lemma =>
      have hlt' : (j : Int) < (m : Int) := by omega
      have hEl : E.length ≤ 1000000 := by
        have := congrArg List.length hE.out
        rw [List.length_map, crL_len] at this
        omega
      have hE2 : Hid (∀ sv : Value, (E ++ [(rdR (crS j T), sv)]).map Prod.fst = crL (j + 1) T) := fun sv => by rw [List.map_append, hE.out]; rfl
      have hT2 : Hid (crS (j + 1) T = rdRS (crS j T)) := rfl
      have hSd := hide' (hS.out.over (Below.refl _ wr).drew)
      have KR : Hid (Calls Try.prog 31 #[.pointer (some ⟨gr, 0, none⟩)] wr.drew fun e w' => ∃ sv v', e = .returned (.agg #[.int .i64 (rdR (crS j T)).kind, .int .i64 (rdR (crS j T)).k, sv]) ∧ Hid (Cq w B gr w' v' (rdRS (crS j T)) (U : Int) (.slice oa na ca) (.slice ob nb cb) (.slice oc nc cc) (.slice oa na ca) (.slice ob nb cb) (.slice oc nc cc) (.slice oq nq cq) Lw Lf Lp E ∧ w'.ownsRow (w.heap.size + 1) 3 1 sv (rdR (crS j T)).steps.length (cellsI (rdR (crS j T)).steps) ∧ ∀ g, (Value.slice oc nc cc).ownBlock = some g → sv.ownBlock ≠ some g)) := by
        have hsz := hSd.out.sz
        have hgl := hSd.out.gl
        refine (ruleF B gr vx (crS j T) wr.drew hSd.out.rd (by omega) (hlB.out j)).mono ?_
        rintro e w' ⟨sv, v', rfl, h1, h2, h3⟩
        refine ⟨sv, v', rfl, hSd.out.tk h2.out h3.out, owns_lowS h1.out hsz, fun g e1 e2 => ?_⟩
        have k1 := (hSd.out.r3.row.lt g e1).2
        have k2 := (h1.out.lt g e2).1
        omega
      generalize rdR (crS j T) = rr at *
      generalize rdRS (crS j T) = tt at *
      have c3d := hSd.out.qb.c3
      clear hS hE hlB hFin
      go_wp2
      refine wp_region_held_drew (S := (fun _ => True)) (by kernel_rfl) ?_ (fun hHeld => ?_)
      · trivial
      refine wpAnyH_take (i := 0) (oi := { dst := some 42, op := Op.fieldAddr 27 (Operand.tmp 2) 3, type := 0, pos := "certificate.go:65", after := #[], guard := none }) (v := ?_) rfl (by kernel_rfl) (by kernel_rfl) (by kernel_rfl) (fun _ _ _ h => h) (Or.inl ⟨by rfl, ?_⟩) (by assumption) ?_
      rotate_left
      · intro w hSw; (try dsimp only at hSw); go_simp <;> with_reducible rfl
      simp only [Act.put, List.setIfInBounds_toArray, List.set_cons_zero, List.set_cons_succ]
      refine wpAnyH_take (i := 2) (oi := { dst := some 44, op := Op.move (Operand.tmp 0), type := 68, pos := "certificate.go:65", after := #[], guard := none }) (v := ?_) rfl (by kernel_rfl) (by kernel_rfl) (by kernel_rfl) (fun _ _ _ h => h) (Or.inl ⟨by rfl, ?_⟩) (by assumption) ?_
      rotate_left
      · intro w hSw; (try dsimp only at hSw); go_simp <;> with_reducible rfl
      simp only [Act.put, List.setIfInBounds_toArray, List.set_cons_zero, List.set_cons_succ]
      refine wpAnyH_ready (rs := [1, 3]) (by kernel_rfl) (by simp) ?_
      refine AllReadyH.cons (o := { dst := some 43, op := Op.load 25 (Operand.tmp 42), type := 25, pos := "certificate.go:65", after := #[{ on := 0, ground := Ground.data }], guard := none }) rfl (fun K hK => ?_) ?_
      · skip
        go_simp
        refine hK.out _ _ ?_ (fun hHeld => ?_)
        · trivial
        clear hK K
        try simp only [Act.put, List.setIfInBounds_toArray, List.set_cons_zero, List.set_cons_succ]
        refine wpAnyH_ready (rs := [3]) (by kernel_rfl) (by simp) ?_
        refine AllReadyH.cons (o := { dst := some 45, op := Op.call { callee := Callee.value (Operand.func 31), args := #[Operand.tmp 44], argTypes := #[68] }, type := 62, pos := "certificate.go:65", after := #[{ on := 2, ground := Ground.data }], guard := none }) rfl (fun K hK => ?_) AllReadyH.nil
        go_simp
        refine KR.out.mono ?_; rintro e w8 ⟨sv, v8, rfl, hS8⟩; obtain ⟨os, ns, cs, rfl⟩ : ∃ a b c, sv = .slice a b c := (by obtain ⟨a, c, e⟩ := own_shp hS8.out.2.1; exact ⟨a, _, c, e⟩); have c38 := hS8.out.1.qb.c3; have c39 := (hS8.out.1.over ((Below.refl _ w8).alloc (Nat.le_refl _) (.cells #[.int .i64 rr.kind, .int .i64 rr.k, .slice os ns cs] 62))).qb.c3; (try dsimp only)
        refine hK.out _ _ ?_ (fun hHeld => ?_)
        · trivial
        clear hK K
        try simp only [Act.put, List.setIfInBounds_toArray, List.set_cons_zero, List.set_cons_succ]
        refine wpAnyH_ready (rs := [4]) (by kernel_rfl) (by simp) ?_
        refine AllReadyH.cons (o := { dst := some 46, op := Op.buildSlice 25 1 #[(0, Operand.tmp 45)], type := 25, pos := "certificate.go:65", after := #[{ on := 3, ground := Ground.data }], guard := none }) rfl (fun K hK => ?_) AllReadyH.nil
        go_simp
        refine hK.out _ _ ?_ (fun hHeld => ?_)
        · trivial
        clear hK K
        try simp only [Act.put, List.setIfInBounds_toArray, List.set_cons_zero, List.set_cons_succ]
        refine wpAnyH_ready (rs := [5]) (by kernel_rfl) (by simp) ?_
        refine AllReadyH.cons (o := { dst := some 47, op := Op.call { callee := Callee.builtin Builtin.append, args := #[Operand.tmp 43, Operand.tmp 46], argTypes := #[25, 25] }, type := 25, pos := "certificate.go:65", after := #[{ on := 1, ground := Ground.data }, { on := 4, ground := Ground.data }, { on := 3, ground := Ground.chain }], guard := none }) rfl (fun K hK => ?_) AllReadyH.nil
        rw [if_pos (by rfl)]
        refine Cq.wapp3 (.tmp 43) (.tmp 46) hS8.out.1 (rr, .slice os ns cs) hS8.out.2.1 hS8.out.2.2 rfl rfl rfl hEl ?_; intro o9 n9 c9 w9 hS9; have f9 := hS9.qb.frz 3; have d9 := hS9.qb.c3; (try dsimp only)
        refine hK.out _ _ ?_ (fun hHeld => ?_)
        · trivial
        clear hK K
        try simp only [Act.put, List.setIfInBounds_toArray, List.set_cons_zero, List.set_cons_succ]
        refine wpAnyH_take (i := 6) (oi := { dst := some 48, op := Op.fieldAddr 27 (Operand.tmp 2) 3, type := 0, pos := "certificate.go:65", after := #[{ on := 0, ground := Ground.phase }, { on := 1, ground := Ground.phase }, { on := 2, ground := Ground.phase }, { on := 3, ground := Ground.phase }, { on := 4, ground := Ground.phase }, { on := 5, ground := Ground.phase }], guard := none }) (v := ?_) rfl (by kernel_rfl) (by kernel_rfl) (by kernel_rfl) (fun _ _ _ h => h) (Or.inl ⟨by rfl, ?_⟩) (by assumption) ?_
        rotate_left
        · intro w hSw; (try dsimp only at hSw); go_simp <;> with_reducible rfl
        simp only [Act.put, List.setIfInBounds_toArray, List.set_cons_zero, List.set_cons_succ]
        refine wpAnyH_ready (rs := [7]) (by kernel_rfl) (by simp) ?_
        refine AllReadyH.cons (o := { dst := none, op := Op.store 25 (Operand.tmp 48) (Operand.tmp 47), type := 0, pos := "certificate.go:65", after := #[{ on := 6, ground := Ground.data }, { on := 5, ground := Ground.data }, { on := 5, ground := Ground.chain }, { on := 0, ground := Ground.phase }, { on := 1, ground := Ground.phase }, { on := 2, ground := Ground.phase }, { on := 3, ground := Ground.phase }, { on := 4, ground := Ground.phase }, { on := 5, ground := Ground.phase }], guard := none }) rfl (fun K hK => ?_) AllReadyH.nil
        go_simp
        refine hK.out _ _ ?_ (fun hHeld => ?_)
        · trivial
        clear hK K
        try simp only [Act.put, List.setIfInBounds_toArray, List.set_cons_zero, List.set_cons_succ]
        refine wpAnyH_done (by kernel_rfl) ?_ _
        skip
        have hSA := hide' (hS9.put (hS9.qb.s3 (.slice o9 n9 c9)))
        clear hS9 f9 d9 hS8 c38 c39 c3d hSd
        go_wp2
        exact ⟨⟨j + 1, .slice o9 n9 c9, v8, E ++ [(rr, .slice os ns cs)], by omega, by go_num, hE2.out _, by rw [hT2.out]; exact hSA⟩, by simp [intOf]; omega⟩
      refine AllReadyH.cons (o := { dst := some 45, op := Op.call { callee := Callee.value (Operand.func 31), args := #[Operand.tmp 44], argTypes := #[68] }, type := 62, pos := "certificate.go:65", after := #[{ on := 2, ground := Ground.data }], guard := none }) rfl (fun K hK => ?_) AllReadyH.nil
      go_simp
      refine KR.out.mono ?_; rintro e w8 ⟨sv, v8, rfl, hS8⟩; obtain ⟨os, ns, cs, rfl⟩ : ∃ a b c, sv = .slice a b c := (by obtain ⟨a, c, e⟩ := own_shp hS8.out.2.1; exact ⟨a, _, c, e⟩); have c38 := hS8.out.1.qb.c3; have c39 := (hS8.out.1.over ((Below.refl _ w8).alloc (Nat.le_refl _) (.cells #[.int .i64 rr.kind, .int .i64 rr.k, .slice os ns cs] 62))).qb.c3; (try dsimp only)
      refine hK.out _ _ ?_ (fun hHeld => ?_)
      · trivial
      clear hK K
      try simp only [Act.put, List.setIfInBounds_toArray, List.set_cons_zero, List.set_cons_succ]
      refine wpAnyH_ready (rs := [1, 4]) (by kernel_rfl) (by simp) ?_
      refine AllReadyH.cons (o := { dst := some 43, op := Op.load 25 (Operand.tmp 42), type := 25, pos := "certificate.go:65", after := #[{ on := 0, ground := Ground.data }], guard := none }) rfl (fun K hK => ?_) ?_
      · skip
        go_simp
        refine hK.out _ _ ?_ (fun hHeld => ?_)
        · trivial
        clear hK K
        try simp only [Act.put, List.setIfInBounds_toArray, List.set_cons_zero, List.set_cons_succ]
        refine wpAnyH_ready (rs := [4]) (by kernel_rfl) (by simp) ?_
        refine AllReadyH.cons (o := { dst := some 46, op := Op.buildSlice 25 1 #[(0, Operand.tmp 45)], type := 25, pos := "certificate.go:65", after := #[{ on := 3, ground := Ground.data }], guard := none }) rfl (fun K hK => ?_) AllReadyH.nil
        go_simp
        refine hK.out _ _ ?_ (fun hHeld => ?_)
        · trivial
        clear hK K
        try simp only [Act.put, List.setIfInBounds_toArray, List.set_cons_zero, List.set_cons_succ]
        refine wpAnyH_ready (rs := [5]) (by kernel_rfl) (by simp) ?_
        refine AllReadyH.cons (o := { dst := some 47, op := Op.call { callee := Callee.builtin Builtin.append, args := #[Operand.tmp 43, Operand.tmp 46], argTypes := #[25, 25] }, type := 25, pos := "certificate.go:65", after := #[{ on := 1, ground := Ground.data }, { on := 4, ground := Ground.data }, { on := 3, ground := Ground.chain }], guard := none }) rfl (fun K hK => ?_) AllReadyH.nil
        rw [if_pos (by rfl)]
        refine Cq.wapp3 (.tmp 43) (.tmp 46) hS8.out.1 (rr, .slice os ns cs) hS8.out.2.1 hS8.out.2.2 rfl rfl rfl hEl ?_; intro o9 n9 c9 w9 hS9; have f9 := hS9.qb.frz 3; have d9 := hS9.qb.c3; (try dsimp only)
        refine hK.out _ _ ?_ (fun hHeld => ?_)
        · trivial
        clear hK K
        try simp only [Act.put, List.setIfInBounds_toArray, List.set_cons_zero, List.set_cons_succ]
        refine wpAnyH_take (i := 6) (oi := { dst := some 48, op := Op.fieldAddr 27 (Operand.tmp 2) 3, type := 0, pos := "certificate.go:65", after := #[{ on := 0, ground := Ground.phase }, { on := 1, ground := Ground.phase }, { on := 2, ground := Ground.phase }, { on := 3, ground := Ground.phase }, { on := 4, ground := Ground.phase }, { on := 5, ground := Ground.phase }], guard := none }) (v := ?_) rfl (by kernel_rfl) (by kernel_rfl) (by kernel_rfl) (fun _ _ _ h => h) (Or.inl ⟨by rfl, ?_⟩) (by assumption) ?_
        rotate_left
        · intro w hSw; (try dsimp only at hSw); go_simp <;> with_reducible rfl
        simp only [Act.put, List.setIfInBounds_toArray, List.set_cons_zero, List.set_cons_succ]
        refine wpAnyH_ready (rs := [7]) (by kernel_rfl) (by simp) ?_
        refine AllReadyH.cons (o := { dst := none, op := Op.store 25 (Operand.tmp 48) (Operand.tmp 47), type := 0, pos := "certificate.go:65", after := #[{ on := 6, ground := Ground.data }, { on := 5, ground := Ground.data }, { on := 5, ground := Ground.chain }, { on := 0, ground := Ground.phase }, { on := 1, ground := Ground.phase }, { on := 2, ground := Ground.phase }, { on := 3, ground := Ground.phase }, { on := 4, ground := Ground.phase }, { on := 5, ground := Ground.phase }], guard := none }) rfl (fun K hK => ?_) AllReadyH.nil
        go_simp
        refine hK.out _ _ ?_ (fun hHeld => ?_)
        · trivial
        clear hK K
        try simp only [Act.put, List.setIfInBounds_toArray, List.set_cons_zero, List.set_cons_succ]
        refine wpAnyH_done (by kernel_rfl) ?_ _
        skip
        have hSA := hide' (hS9.put (hS9.qb.s3 (.slice o9 n9 c9)))
        clear hS9 f9 d9 hS8 c38 c39 c3d hSd
        go_wp2
        exact ⟨⟨j + 1, .slice o9 n9 c9, v8, E ++ [(rr, .slice os ns cs)], by omega, by go_num, hE2.out _, by rw [hT2.out]; exact hSA⟩, by simp [intOf]; omega⟩
      refine AllReadyH.cons (o := { dst := some 46, op := Op.buildSlice 25 1 #[(0, Operand.tmp 45)], type := 25, pos := "certificate.go:65", after := #[{ on := 3, ground := Ground.data }], guard := none }) rfl (fun K hK => ?_) AllReadyH.nil
      go_simp
      refine hK.out _ _ ?_ (fun hHeld => ?_)
      · trivial
      clear hK K
      try simp only [Act.put, List.setIfInBounds_toArray, List.set_cons_zero, List.set_cons_succ]
      refine wpAnyH_ready (rs := [1]) (by kernel_rfl) (by simp) ?_
      refine AllReadyH.cons (o := { dst := some 43, op := Op.load 25 (Operand.tmp 42), type := 25, pos := "certificate.go:65", after := #[{ on := 0, ground := Ground.data }], guard := none }) rfl (fun K hK => ?_) AllReadyH.nil
      go_simp
      refine hK.out _ _ ?_ (fun hHeld => ?_)
      · trivial
      clear hK K
      try simp only [Act.put, List.setIfInBounds_toArray, List.set_cons_zero, List.set_cons_succ]
      refine wpAnyH_ready (rs := [5]) (by kernel_rfl) (by simp) ?_
      refine AllReadyH.cons (o := { dst := some 47, op := Op.call { callee := Callee.builtin Builtin.append, args := #[Operand.tmp 43, Operand.tmp 46], argTypes := #[25, 25] }, type := 25, pos := "certificate.go:65", after := #[{ on := 1, ground := Ground.data }, { on := 4, ground := Ground.data }, { on := 3, ground := Ground.chain }], guard := none }) rfl (fun K hK => ?_) AllReadyH.nil
      rw [if_pos (by rfl)]
      refine Cq.wapp3 (.tmp 43) (.tmp 46) hS8.out.1 (rr, .slice os ns cs) hS8.out.2.1 hS8.out.2.2 rfl rfl rfl hEl ?_; intro o9 n9 c9 w9 hS9; have f9 := hS9.qb.frz 3; have d9 := hS9.qb.c3; (try dsimp only)
      refine hK.out _ _ ?_ (fun hHeld => ?_)
      · trivial
      clear hK K
      try simp only [Act.put, List.setIfInBounds_toArray, List.set_cons_zero, List.set_cons_succ]
      refine wpAnyH_take (i := 6) (oi := { dst := some 48, op := Op.fieldAddr 27 (Operand.tmp 2) 3, type := 0, pos := "certificate.go:65", after := #[{ on := 0, ground := Ground.phase }, { on := 1, ground := Ground.phase }, { on := 2, ground := Ground.phase }, { on := 3, ground := Ground.phase }, { on := 4, ground := Ground.phase }, { on := 5, ground := Ground.phase }], guard := none }) (v := ?_) rfl (by kernel_rfl) (by kernel_rfl) (by kernel_rfl) (fun _ _ _ h => h) (Or.inl ⟨by rfl, ?_⟩) (by assumption) ?_
      rotate_left
      · intro w hSw; (try dsimp only at hSw); go_simp <;> with_reducible rfl
      simp only [Act.put, List.setIfInBounds_toArray, List.set_cons_zero, List.set_cons_succ]
      refine wpAnyH_ready (rs := [7]) (by kernel_rfl) (by simp) ?_
      refine AllReadyH.cons (o := { dst := none, op := Op.store 25 (Operand.tmp 48) (Operand.tmp 47), type := 0, pos := "certificate.go:65", after := #[{ on := 6, ground := Ground.data }, { on := 5, ground := Ground.data }, { on := 5, ground := Ground.chain }, { on := 0, ground := Ground.phase }, { on := 1, ground := Ground.phase }, { on := 2, ground := Ground.phase }, { on := 3, ground := Ground.phase }, { on := 4, ground := Ground.phase }, { on := 5, ground := Ground.phase }], guard := none }) rfl (fun K hK => ?_) AllReadyH.nil
      go_simp
      refine hK.out _ _ ?_ (fun hHeld => ?_)
      · trivial
      clear hK K
      try simp only [Act.put, List.setIfInBounds_toArray, List.set_cons_zero, List.set_cons_succ]
      refine wpAnyH_done (by kernel_rfl) ?_ _
      skip
      have hSA := hide' (hS9.put (hS9.qb.s3 (.slice o9 n9 c9)))
      clear hS9 f9 d9 hS8 c38 c39 c3d hSd
      go_wp2
      exact ⟨⟨j + 1, .slice o9 n9 c9, v8, E ++ [(rr, .slice os ns cs)], by omega, by go_num, hE2.out _, by rw [hT2.out]; exact hSA⟩, by simp [intOf]; omega⟩
    · as_aux_lemma =>
      obtain rfl : j = m := by omega
      have hP0 := hide' (hS.out.put (hS.out.qb.s0 (U : Int)))
      have hP1 := hide' (hP0.out.put (hP0.out.qb.s1 (.slice oa na ca)))
      have hP2 := hide' (hP1.out.put (hP1.out.qb.s2 (.slice ob nb cb)))
      have hP3 := hide' (hP2.out.put (hP2.out.qb.s3 (.slice oc nc cc)))
      have q0 := hS.out.qb.c0
      have q1 := hS.out.qb.c1
      have q2 := hS.out.qb.c2
      have q3 := hS.out.qb.c3
      have f0 := hS.out.qb.frz 0
      have f1 := hP0.out.qb.frz 1
      have f2 := hP1.out.qb.frz 2
      have f3 := hP2.out.qb.frz 3
      have y1 := hP0.out.qb.c1
      have y2 := hP1.out.qb.c2
      have y3 := hP2.out.qb.c3
      have x0 := hP3.out.qb.c0
      have x1 := hP3.out.qb.c1
      have x2 := hP3.out.qb.c2
      have x3 := hP3.out.qb.c3
      clear hlB hP0 hP1 hP2
      go_wp2
      refine bodyPost_ret (v := .tuple #[.agg #[.int .i64 (U : Int), .slice oa na ca, .slice ob nb cb, .slice oc nc cc], .slice oq nq cq]) (by simp [results, Try.results16, go_sem, x0, x1, x2, x3]) rfl ?_
      obtain ⟨e1, e2, e3⟩ := hFin.out
      unfold CcP
      rw [e1, e2, e3]
      exact ⟨_, _, _, _, vx, E, rfl, ⟨owns_lowS hP3.out.r1 (Nat.le_succ _), owns_lowS hP3.out.r2 (Nat.le_succ _), ⟨owns_lowS hP3.out.r3.row (Nat.le_succ _), fun p hp => owns_lowS (hP3.out.r3.inner p hp) (Nat.le_succ _)⟩, hE.out, owns_lowS hP3.out.rp (Nat.le_succ _)⟩, hP3.out.rd, hP3.out.fr⟩
end Go.Proofs.Ytfajgbdnfphajaa.S

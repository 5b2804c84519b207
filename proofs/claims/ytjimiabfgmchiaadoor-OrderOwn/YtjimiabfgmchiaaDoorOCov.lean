/- Covers: the pairs with nothing between, in order. -/
import Derived.Test.YtjimiabfgmchiaaDoorODown
import Derived.Test.YtjimiabfgmchiaaDoorOPre
import Derived.Test.YtjimiabfgmchiaaDoorOTwin
import Derived.Test.YtjimiabfgmchiaaDoorBridge
import Derived.Deep.AppendLies
namespace Go.Proofs.YtjimiabfgmchiaaDoor
open Go.RowKit Go.Shelf
attribute [local go_sem] Oper.semAt_some
/-- The pairs of one row. -/
def covRow (Pf Sf : Nat → Nat) (a : Nat) (l : List (Fin 64)) : List (Int × Int) := (l.filter fun b => (Sf a &&& Pf b.val) == 0).map fun b => ((a : Int), (b.val : Int))
/-- The pairs of the first k rows. -/
def covK (Pf Sf : Nat → Nat) (k : Nat) : List (Int × Int) := (List.range k).flatMap fun a => covRow Pf Sf a (nums (Sf a))
theorem covK_snoc (Pf Sf : Nat → Nat) (k : Nat) : covK Pf Sf (k + 1) = covK Pf Sf k ++ covRow Pf Sf k (nums (Sf k)) := by
  unfold covK; rw [List.range_succ, List.flatMap_append]; simp
theorem covRow_snocT {Pf Sf : Nat → Nat} {a : Nat} (l : List (Fin 64)) {b : Fin 64} (h : ((Sf a &&& Pf b.val) == 0) = true) : covRow Pf Sf a (l ++ [b]) = covRow Pf Sf a l ++ [((a : Int), (b.val : Int))] := by
  unfold covRow; rw [List.filter_append, List.map_append]; simp [h]
theorem covRow_snocF {Pf Sf : Nat → Nat} {a : Nat} (l : List (Fin 64)) {b : Fin 64} (h : ((Sf a &&& Pf b.val) == 0) = false) : covRow Pf Sf a (l ++ [b]) = covRow Pf Sf a l := by
  unfold covRow; rw [List.filter_append, List.map_append]; simp [h]
theorem nums_len64 (x : Nat) : (nums x).length ≤ 64 := by
  unfold nums
  exact Nat.le_trans (List.length_filter_le _ _) (by simp)
theorem covRow_len (Pf Sf : Nat → Nat) (a : Nat) (l : List (Fin 64)) : (covRow Pf Sf a l).length ≤ l.length := by
  unfold covRow; rw [List.length_map]; exact List.length_filter_le _ _
theorem covK_len (Pf Sf : Nat → Nat) : ∀ k, (covK Pf Sf k).length ≤ k * 64
  | 0 => by simp [covK]
  | k + 1 => by
    rw [covK_snoc, List.length_append]
    have := covK_len Pf Sf k
    have := covRow_len Pf Sf k (nums (Sf k))
    have := nums_len64 (Sf k)
    omega
theorem cellsP_snoc (L : List (Int × Int)) (x y : Int) : cellsP (L ++ [(x, y)]) = cellsP L ++ [.int .i64 x, .int .i64 y] := by simp [cellsP]
/-- Covers under way. -/
structure CovI (w : World) (go : Nat) (C : List (Int × Int)) (W : World) : Prop where
  bo : Boxed W w.heap.size 31 (.pointer (some ⟨go, 0, none⟩))
  bp : ∃ v, Boxed W (w.heap.size + 1) 22 v ∧ W.ownsRow w.heap.size 30 2 v C.length (cellsP C)
  bl : Below w.heap.size w W
section
variable {w : World} {go : Nat} {C : List (Int × Int)} {W W' : World}
theorem CovI.over (h : CovI w go C W) (hb : Below W.heap.size W W') : CovI w go C W' := by
  obtain ⟨v, h1, h2⟩ := h.bp
  exact ⟨bxb h.bo hb h.bo.lt, ⟨v, bxb h1 hb h1.lt, h2.kept (grown_below none hb) (by cases v.ownBlock <;> simp)⟩, h.bl.trans (hb.mono h.bl.size)⟩
theorem CovI.shut (h : CovI w go C W) (hs : ShutTo w.heap.size W W') : CovI w go C W' := by
  obtain ⟨v, h1, h2⟩ := h.bp
  refine ⟨hs.2 _ _ h.bo rfl, ⟨v, hs.2 _ _ h1 rfl, h2.1, ?_⟩, h.bl.trans hs.1⟩
  rcases h2.2 with h' | ⟨g', cap', cur, h', hb, hg, rest⟩
  · exact .inl h'
  · exact .inr ⟨g', cap', cur, h', hb, hs.2 _ _ hg rfl, rest⟩
theorem CovI.own {B : Nat} (hB : w.heap.size ≤ B) : OwnFrom B (fun (C : List (Int × Int)) W => CovI w go C W) := by
  intro P X Y row h hg hr
  have hk : ∀ (b : Nat) (o : Obj), X.heap[b]? = some o → o.isCells = true → Y.heap[b]? = some o := fun b o ho hc => by
    refine (hg.block b (Array.getElem?_eq_some_iff.1 ho).1 (fun e => ?_)).trans ho
    obtain ⟨_, o', ho', hc'⟩ := hr b e.symm
    rw [ho] at ho'; cases ho'; rw [hc] at hc'; cases hc'
  exact h.shut ⟨(Below.refl _ X).grown hg h.bl.size fun k e => Nat.le_trans hB (hr k e).1, hk⟩
/-- One pair more. -/
theorem CovI.push {v v1 : Value} {w3 : World} {x y : Int} (h : CovI w go C W) (hv : Boxed W (w.heap.size + 1) 22 v) (hrow : W.ownsRow w.heap.size 30 2 v C.length (cellsP C))
    (hown : w3.ownsRow w.heap.size 30 2 v1 (C.length + 1) (cellsP C ++ [.int .i64 x, .int .i64 y])) (hgrow : W.grownBy w3 v.ownBlock) :
    CovI w go (C ++ [(x, y)]) (w3.setCell ⟨w.heap.size + 1, 0, none⟩ v1) ∧ KeepsOthers W (w3.setCell ⟨w.heap.size + 1, 0, none⟩ v1) ∧ Below w.heap.size W (w3.setCell ⟨w.heap.size + 1, 0, none⟩ v1) ∧
      (∀ (b : Nat) (t : TypeId) (u : Value), t ≠ 30 → b ≠ w.heap.size + 1 → Boxed W b t u → Boxed (w3.setCell ⟨w.heap.size + 1, 0, none⟩ v1) b t u) := by
  have hkeep : ∀ (b : Nat) (t : TypeId) (u : Value), t ≠ 30 → b ≠ w.heap.size + 1 → Boxed W b t u → Boxed (w3.setCell ⟨w.heap.size + 1, 0, none⟩ v1) b t u := fun b t u ht hb hu =>
    (hu.kept hgrow (hu.not_row ht hrow)).other hb v1
  have hv3 : Boxed w3 (w.heap.size + 1) 22 v := hv.kept hgrow (hv.not_row (by decide) hrow)
  have hge : ∀ g, v.ownBlock = some g → w.heap.size ≤ g := fun g e => by
    rcases hrow.2 with ⟨rfl, _⟩ | ⟨g', cap, cur, rfl, hb, _⟩
    · cases e
    · cases e; exact hb
  have hB : Below w.heap.size W (w3.setCell ⟨w.heap.size + 1, 0, none⟩ v1) := ((Below.refl _ W).grown hgrow h.bl.size hge).setCell (p := ⟨w.heap.size + 1, 0, none⟩) (by show w.heap.size ≤ w.heap.size + 1; omega) v1
  refine ⟨⟨hkeep _ _ _ (by decide) (by omega) h.bo, ⟨v1, hv3.set v1, ?_⟩, h.bl.trans hB⟩, ?_, hB, hkeep⟩
  · rw [List.length_append, cellsP_snoc]
    exact hown.kept (grownBy_setCell' w3 (w.heap.size + 1) v1) (.inr (hv3.not_row (by decide) hown).symm)
  · refine (KeepsOthers.of_grownBy hgrow fun j o ej hj => ?_).trans (KeepsOthers.setCell _ _ _)
    rcases hrow.2 with ⟨rfl, _⟩ | ⟨g, cap, cur, rfl, _, hgb, _⟩
    · simp [Value.ownBlock] at ej
    · obtain rfl : g = j := by simpa [Value.ownBlock] using ej
      rw [hgb] at hj; cases hj; rfl
end
theorem owns_shape' {W : World} {base : Nat} {e : TypeId} {size : Nat} {v : Value} {n : Nat} {xs : List Value} (h : W.ownsRow base e size v n xs) : ∃ oa cap, v = .slice oa n cap := by
  rcases h.2 with ⟨rfl, rfl⟩ | ⟨g, cap, _, rfl, _⟩
  · exact ⟨none, 0, rfl⟩
  · exact ⟨_, cap, rfl⟩
section
variable {go gp gs n : Nat} {Pf Sf : Nat → Nat} {w : World}
set_option maxRecDepth 100000 in
set_option maxHeartbeats 1000000 in
theorem coversC (ho : OrdAt w go gp gs n Pf Sf) (hn : n ≤ 64) (hP : ∀ a, a < n → Pf a < 18446744073709551616) (hS : ∀ a, a < n → Sf a < 18446744073709551616) (hin : ∀ a, a < n → ∀ b ∈ nums (Sf a), b.val < n) (ht : Tab w) :
    CallsIn Fence.wide 9 Tryd.prog 12 #[.pointer (some ⟨go, 0, none⟩)] w fun e W' => ∃ v, e = .returned v ∧ W'.ownsRow w.heap.size 30 2 v (covK Pf Sf n).length (cellsP (covK Pf Sf n)) ∧ Below w.heap.size w W' := by
  obtain ⟨i0, hi, hz0, hz1, hz2⟩ := info_q infoP
  have h3 := ht.2
  have hmx : Tryd.prog.follows Departure.mixedOrders = true := by kernel_rfl
  have hB0 : Below w.heap.size w ((w.alloc (.cells #[.pointer (some ⟨go, 0, none⟩)] 31)).alloc (.cells #[.slice none 0 0] 22)) := ((Below.refl _ w).alloc (Nat.le_refl _) _).alloc (by simp) _
  have hC0 : CovI w go (covK Pf Sf 0) ((w.alloc (.cells #[.pointer (some ⟨go, 0, none⟩)] 31)).alloc (.cells #[.slice none 0 0] 22)) := by
    refine ⟨(Boxed.new w _ _).alloc _, ⟨.slice none 0 0, ?_, World.ownsRow_nil _ _ _ _⟩, hB0⟩
    have := Boxed.new (w.alloc (.cells #[.pointer (some ⟨go, 0, none⟩)] 31)) 22 (.slice none 0 0)
    simpa using this
  have c1 := cell_over ho.o1 hB0
  refine callsIn_of_wp_marks Tryd.func12 rfl trivial ?_ rfl
  refine wpIn_wide.2 ?_
  simp only [Tryd.ntmps12, List.size_toArray, List.length_cons, List.length_nil, Nat.reduceAdd, Nat.reduceSub, Array.replicate_succ, Array.replicate_zero, List.push_toArray, List.append_toArray, List.nil_append, List.cons_append]
  go_wp2
  have hC0' := hide' hC0
  clear hC0 c1
  refine wp_loop (fun a W => ∃ (k : Nat) (Ds : List Nat) (z : Int) (u0 u2 u4 u5 u6 u7 u8 u9 u13 u14 u15 u16 u17 u18 u19 u20 u21 u22 u23 u24 u25 u26 u27 u28 u29 u30 u31 u32 u33 u34 u35 u36 u37 : Value), (Hid (z = (k : Int)) ∧ k ≤ n ∧ Marks w.heap.size Ds W ∧ CovI w go (covK Pf Sf k) W) ∧ a = { tmps := #[u0, .pointer (some ⟨w.heap.size, 0, none⟩), u2, .pointer (some ⟨w.heap.size + 1, 0, none⟩), u4, u5, u6, u7, u8, u9, .slice (some ⟨gs, 0, none⟩) n n, .int .i64 (n : Int), .int .i64 z, u13, u14, u15, u16, u17, u18, u19, u20, u21, u22, u23, u24, u25, u26, u27, u28, u29, u30, u31, u32, u33, u34, u35, u36, u37], defers := Ds.map mark }) (fun a _ => n - (intOf (a.tmps.getD 12 undef)).toNat) ?_ ?_
  · refine ⟨0, [], 0, ?_⟩
    repeat apply Exists.intro
    refine ⟨⟨rfl, Nat.zero_le _, Marks.nil _ _, hC0'.out⟩, rfl⟩
  · clear hC0' hB0
    rintro _ W ⟨k, Ds, z, hinv⟩
    obtain ⟨u0, hinv⟩ := hinv
    obtain ⟨u2, hinv⟩ := hinv
    obtain ⟨u4, hinv⟩ := hinv
    obtain ⟨u5, hinv⟩ := hinv
    obtain ⟨u6, hinv⟩ := hinv
    obtain ⟨u7, hinv⟩ := hinv
    obtain ⟨u8, hinv⟩ := hinv
    obtain ⟨u9, hinv⟩ := hinv
    obtain ⟨u13, hinv⟩ := hinv
    obtain ⟨u14, hinv⟩ := hinv
    obtain ⟨u15, hinv⟩ := hinv
    obtain ⟨u16, hinv⟩ := hinv
    obtain ⟨u17, hinv⟩ := hinv
    obtain ⟨u18, hinv⟩ := hinv
    obtain ⟨u19, hinv⟩ := hinv
    obtain ⟨u20, hinv⟩ := hinv
    obtain ⟨u21, hinv⟩ := hinv
    obtain ⟨u22, hinv⟩ := hinv
    obtain ⟨u23, hinv⟩ := hinv
    obtain ⟨u24, hinv⟩ := hinv
    obtain ⟨u25, hinv⟩ := hinv
    obtain ⟨u26, hinv⟩ := hinv
    obtain ⟨u27, hinv⟩ := hinv
    obtain ⟨u28, hinv⟩ := hinv
    obtain ⟨u29, hinv⟩ := hinv
    obtain ⟨u30, hinv⟩ := hinv
    obtain ⟨u31, hinv⟩ := hinv
    obtain ⟨u32, hinv⟩ := hinv
    obtain ⟨u33, hinv⟩ := hinv
    obtain ⟨u34, hinv⟩ := hinv
    obtain ⟨u35, hinv⟩ := hinv
    obtain ⟨u36, hinv⟩ := hinv
    obtain ⟨u37, hinv⟩ := hinv
    obtain ⟨⟨hz, hk, hM, hC⟩, rfl⟩ := hinv
    obtain rfl : z = (k : Int) := hz.out
    clear hz
    by_cases hlt : k < n
    · have hk64 : k < 64 := by omega
      have hx := hS k hlt
      have hin' := hide' (hin k hlt)
      have c1 := cell_over (ho.sc k hlt) hC.bl
      have hB2 : Below W.heap.size W ((W.alloc (.cells #[.int .i64 (k : Int)] 3)).alloc (.cells #[.int .u64 (Sf k : Int)] 65)) := ((Below.refl _ W).alloc (Nat.le_refl _) _).alloc (by simp) _
      have zN := hC.bl.size
      have hC2 := hide' (hC.over hB2)
      have hM2 := hide' (hM.keeps (keepsO hB2))
      have bK2 := (Boxed.new W 3 (.int .i64 (k : Int))).alloc (.cells #[.int .u64 (Sf k : Int)] 65)
      have bS2 := Boxed.new (W.alloc (.cells #[.int .i64 (k : Int)] 3)) 65 (.int .u64 (Sf k : Int))
      simp only [World.size_alloc] at bS2
      have hpz := hC.bp.elim fun _ h => h.1.lt
      have hlen := covK_len Pf Sf k
      have hrowT : Hid (∀ l (b : Fin 64), ((Sf k &&& Pf b.val) == 0) = true → covRow Pf Sf k (l ++ [b]) = covRow Pf Sf k l ++ [((k : Int), (b.val : Int))]) := fun l b h => covRow_snocT l h
      have hrowF : Hid (∀ l (b : Fin 64), ((Sf k &&& Pf b.val) == 0) = false → covRow Pf Sf k (l ++ [b]) = covRow Pf Sf k l) := fun l b h => covRow_snocF l h
      have hend : Hid (covK Pf Sf k ++ covRow Pf Sf k (nums (Sf k)) = covK Pf Sf (k + 1)) := (covK_snoc Pf Sf k).symm
      have hnil : Hid (covRow Pf Sf k [] = []) := rfl
      have hrl := hide' (covRow_len Pf Sf k)
      clear hC hM
      obtain ⟨x, hSx⟩ : ∃ x, Sf k = x := ⟨_, rfl⟩
      rw [hSx] at hx c1 bS2 bK2 hB2 hC2 hM2 hin' hrowT hrowF hend
      clear hSx
      go_wp2_with (go_at_call 24; refine (allSeq x _).mono ?_; rintro e w3 ⟨bb, rfl, hbox, hbb, hb3⟩)
      have z3 := hb3.size
      simp only [World.size_alloc] at z3 hbb
      have hC3 := hC2.out.over hb3
      have hM3 := hM2.out.keeps (keepsO hb3)
      have bK3 := bxb bK2 hb3 (by simp; omega)
      have bS3 := bxb bS2 hb3 (by simp)
      have hbl3 := hC3.bl
      have hMl := hM3.lt
      clear hC2 hM2 bK2 bS2 hb3 hB2 c1
      refine (wpIn_wide (n := 9)).1 ?_
      refine wpIn_rangeFunc_ownG rfl (by decide) (gf := 50) (lb := #[.pointer (some ⟨bb, 0, none⟩)]) rfl trivial (enters_of Tryd.func50 (by kernel_rfl) rfl)
        (all_mem 8 bb x hx w3 hbox.lt (ht.over hbl3) hbox.cell) KpB.t (KpB.b hbox.lt (by omega)) (Below.refl _ _) (fun _ => rfl)
        (fun pre V => CovI w go (covK Pf Sf k ++ covRow Pf Sf k (plain pre)) V ∧ Boxed V W.heap.size 3 (.int .i64 (k : Int)) ∧ Boxed V (W.heap.size + 1) 65 (.int .u64 x) ∧ Boxed V bb 65 (.int .u64 x) ∧ Marks w.heap.size Ds V)
        (fun _ _ _ => False)
        (OwnFrom.and (fun pre X Y row h hg hr => CovI.own (by omega) (covK Pf Sf k ++ covRow Pf Sf k (plain pre)) X Y row h hg hr) (OwnFrom.and (Own.from (boxed_own _ _ _) _) (OwnFrom.and (Own.from (boxed_own _ _ _) _) (OwnFrom.and (Own.from (boxed_own _ _ _) _) (fun _ X Y row h hg hr => h.grown hg (fun r e => (hr r e).1) hMl)))))
        (fun _ _ _ _ _ hs _ _ => hs)
        ⟨by rw [show plain ([] : List (In x)) = [] from rfl, hnil.out, List.append_nil]; exact hC3, bK3, bS3, hbox, hM3⟩
        (fun j => { tmps := #[u0, .pointer (some ⟨w.heap.size, 0, none⟩), u2, .pointer (some ⟨w.heap.size + 1, 0, none⟩), .pointer (some ⟨W.heap.size, 0, none⟩), .pointer (some ⟨W.heap.size + 1, 0, none⟩), .int .i64 (j.val.val : Int), u7, u8, u9, .slice (some ⟨gs, 0, none⟩) n n, .int .i64 (n : Int), .int .i64 (k : Int), .bool true, .int .i64 (k : Int), .pointer (some ⟨gs, k, none⟩), .agg #[.int .u64 x], .agg #[.int .u64 x], .func (.func 50) #[] #[.pointer (some ⟨bb, 0, none⟩)], .int .i64 (j.val.val : Int), u20, u21, u22, u23, u24, u25, u26, u27, u28, u29, u30, u31, u32, u33, u34, u35, u36, u37], defers := [] }) ?assign ?body ?done ?stop
      case assign =>
        intro l j V K hK
        gi_wp2
        exact hK
      case body =>
        rintro l pre j V ⟨hCv, bKv, bSv, bBv, hMv⟩ hlt2
        have hj := hin'.out j.val j.property
        have hPj := hP j.val.val hj
        have zV := bBv.lt
        have s0 := bSv.cell
        have s1 := hCv.bo.cell
        have s2 := cell_over ho.o0 hCv.bl
        have s3 := cell_over (ho.pc j.val.val hj) hCv.bl
        have hlp : (covK Pf Sf k ++ covRow Pf Sf k (plain pre)).length ≤ 5000 := by
          have := hrl.out (plain pre)
          have h2 : (plain pre).length < 64 := by
            have := nums_len64 x
            simp only [plain, List.length_map]
            omega
          rw [List.length_append]
          omega
        have KM := meets64 x (Pf j.val.val) hx hPj
        have rT := hrowT.out (plain pre) j.val
        have rF := hrowF.out (plain pre) j.val
        rw [← plain_snoc] at rT rF
        have hBl := hCv.bl
        cases hb : ((x &&& Pf j.val.val) == 0) with
        | true =>
          rw [show ((x &&& Pf j.val.val) != 0) = false by simp [bne, hb]] at KM
          have KM' := hide' KM
          have hnx : Hid (covK Pf Sf k ++ covRow Pf Sf k (plain (pre ++ [j])) = (covK Pf Sf k ++ covRow Pf Sf k (plain pre)) ++ [((k : Int), (j.val.val : Int))]) := by
            show _ = _
            rw [rT hb, List.append_assoc]
          clear KM rT rF hb hlt2 hrowT hrowF hend hin' hrl
          generalize covK Pf Sf k ++ covRow Pf Sf k (plain pre) = C at *
          generalize Pf j.val.val = pj at *
          generalize j.val.val = jj at *
          gi_wp2
          refine region_round (fun X => X.cell? ⟨W.heap.size + 1, 0, none⟩ = some (.int .u64 x) ∧ X.cell? ⟨w.heap.size, 0, none⟩ = some (.pointer (some ⟨go, 0, none⟩)) ∧ X.cell? ⟨go, 0, none⟩ = some (.slice (some ⟨gp, 0, none⟩) n n) ∧ X.cell? ⟨gp, jj, none⟩ = some (.int .u64 (pj : Int))) hmx (noDefer_of (by kernel_rfl)) ?_ (fun hHeld => ?_)
          · exact ⟨s0, s1, s2, s3⟩
          refine wpAnyH_take (i := 0) (oi := { dst := some 20, op := Op.load 65 (Operand.tmp 5), type := 65, pos := "order.go:83", after := #[], guard := none }) (v := ?_) rfl (by kernel_rfl) (by kernel_rfl) (by kernel_rfl) (fun _ _ _ h => h) (Or.inl ⟨by rfl, ?_⟩) (by assumption) ?_
          rotate_left
          · intro w hSw; (try dsimp only at hSw); go_simp <;> with_reducible rfl
          simp only [Act.put, List.setIfInBounds_toArray, List.set_cons_zero, List.set_cons_succ]
          refine wpAnyH_take (i := 1) (oi := { dst := some 21, op := Op.load 31 (Operand.tmp 1), type := 31, pos := "order.go:83", after := #[], guard := none }) (v := ?_) rfl (by kernel_rfl) (by kernel_rfl) (by kernel_rfl) (fun _ _ _ h => h) (Or.inl ⟨by rfl, ?_⟩) (by assumption) ?_
          rotate_left
          · intro w hSw; (try dsimp only at hSw); go_simp <;> with_reducible rfl
          simp only [Act.put, List.setIfInBounds_toArray, List.set_cons_zero, List.set_cons_succ]
          refine wpAnyH_take (i := 2) (oi := { dst := some 22, op := Op.nilCheck (Operand.tmp 21), type := 0, pos := "order.go:83", after := #[{ on := 1, ground := Ground.data }], guard := none }) (v := ?_) rfl (by kernel_rfl) (by kernel_rfl) (by kernel_rfl) (fun _ _ _ h => h) (Or.inl ⟨by rfl, ?_⟩) (by assumption) ?_
          rotate_left
          · intro w hSw; (try dsimp only at hSw); go_simp <;> with_reducible rfl
          simp only [Act.put, List.setIfInBounds_toArray, List.set_cons_zero, List.set_cons_succ]
          refine wpAnyH_take (i := 3) (oi := { dst := some 23, op := Op.fieldAddr 63 (Operand.tmp 22) 0, type := 0, pos := "order.go:83", after := #[{ on := 2, ground := Ground.data }], guard := none }) (v := ?_) rfl (by kernel_rfl) (by kernel_rfl) (by kernel_rfl) (fun _ _ _ h => h) (Or.inl ⟨by rfl, ?_⟩) (by assumption) ?_
          rotate_left
          · intro w hSw; (try dsimp only at hSw); go_simp <;> with_reducible rfl
          simp only [Act.put, List.setIfInBounds_toArray, List.set_cons_zero, List.set_cons_succ]
          refine wpAnyH_take (i := 4) (oi := { dst := some 24, op := Op.load 61 (Operand.tmp 23), type := 61, pos := "order.go:83", after := #[{ on := 3, ground := Ground.data }], guard := none }) (v := ?_) rfl (by kernel_rfl) (by kernel_rfl) (by kernel_rfl) (fun _ _ _ h => h) (Or.inl ⟨by rfl, ?_⟩) (by assumption) ?_
          rotate_left
          · intro w hSw; (try dsimp only at hSw); go_simp <;> with_reducible rfl
          simp only [Act.put, List.setIfInBounds_toArray, List.set_cons_zero, List.set_cons_succ]
          refine wpAnyH_take (i := 5) (oi := { dst := some 25, op := Op.move (Operand.tmp 6), type := 3, pos := "order.go:83", after := #[], guard := none }) (v := ?_) rfl (by kernel_rfl) (by kernel_rfl) (by kernel_rfl) (fun _ _ _ h => h) (Or.inl ⟨by rfl, ?_⟩) (by assumption) ?_
          rotate_left
          · intro w hSw; (try dsimp only at hSw); go_simp <;> with_reducible rfl
          simp only [Act.put, List.setIfInBounds_toArray, List.set_cons_zero, List.set_cons_succ]
          refine wpAnyH_take (i := 6) (oi := { dst := some 26, op := Op.indexAddr 61 (Operand.tmp 24) (Operand.tmp 25), type := 0, pos := "order.go:83", after := #[{ on := 4, ground := Ground.data }, { on := 5, ground := Ground.data }], guard := none }) (v := ?_) rfl (by kernel_rfl) (by kernel_rfl) (by kernel_rfl) (fun _ _ _ h => h) (Or.inl ⟨by rfl, ?_⟩) (by assumption) ?_
          rotate_left
          · intro w hSw; (try dsimp only at hSw); go_simp <;> with_reducible rfl
          simp only [Act.put, List.setIfInBounds_toArray, List.set_cons_zero, List.set_cons_succ]
          refine wpAnyH_take (i := 7) (oi := { dst := some 27, op := Op.load 65 (Operand.tmp 26), type := 65, pos := "order.go:83", after := #[{ on := 6, ground := Ground.data }], guard := none }) (v := ?_) rfl (by kernel_rfl) (by kernel_rfl) (by kernel_rfl) (fun _ _ _ h => h) (Or.inl ⟨by rfl, ?_⟩) (by assumption) ?_
          rotate_left
          · intro w hSw; (try dsimp only at hSw); go_simp <;> with_reducible rfl
          simp only [Act.put, List.setIfInBounds_toArray, List.set_cons_zero, List.set_cons_succ]
          refine wpAnyH_ready (rs := [8]) (by kernel_rfl) (by simp) ?_
          refine AllReadyH.cons (o := { dst := some 28, op := Op.call { callee := Callee.value (Operand.func 39), args := #[Operand.tmp 20, Operand.tmp 27], argTypes := #[65, 65] }, type := 4, pos := "order.go:83", after := #[{ on := 0, ground := Ground.data }, { on := 7, ground := Ground.data }], guard := none }) rfl (fun K hK => ?_) AllReadyH.nil
          go_simp
          refine (KM'.out _).mono ?_; rintro e w4 ⟨rfl, hb4⟩; (try dsimp only); have hBV : Below V.heap.size V w4 := ((Below.refl _ _).drew).trans hb4
          refine hK.out _ _ ?_ (fun hHeld => ?_)
          · exact ⟨cell_over hHeld.1 hb4, cell_over hHeld.2.1 hb4, cell_over hHeld.2.2.1 hb4, cell_over hHeld.2.2.2 hb4⟩
          clear hK K
          try simp only [Act.put, List.setIfInBounds_toArray, List.set_cons_zero, List.set_cons_succ]
          refine wpAnyH_take (i := 9) (oi := { dst := some 29, op := Op.unOp UnOp.not 4 (Operand.tmp 28), type := 4, pos := "order.go:83", after := #[{ on := 8, ground := Ground.data }], guard := none }) (v := ?_) rfl (by kernel_rfl) (by kernel_rfl) (by kernel_rfl) (fun _ _ _ h => h) (Or.inl ⟨by rfl, ?_⟩) (by assumption) ?_
          rotate_left
          · intro w hSw; (try dsimp only at hSw); go_simp <;> with_reducible rfl
          simp only [Act.put, List.setIfInBounds_toArray, List.set_cons_zero, List.set_cons_succ]
          refine wpAnyH_done (by kernel_rfl) ?_ _
          unfold onlyNormal
          clear hHeld s0 s1 s2 s3
          have hC4 := hCv.over hBV
          have hM4 := hMv.keeps (keepsO hBV)
          have bK4 := bxb bKv hBV bKv.lt
          have bS4 := bxb bSv hBV bSv.lt
          have bB4 := bxb bBv hBV zV
          obtain ⟨v, hv, hrow⟩ := hC4.bp
          obtain ⟨oa, cap, rfl⟩ := owns_shape' hrow
          have t0 := hv.cell
          have t1 := bK4.cell
          have z4 := hC4.bl.size
          have hal : Below w4.heap.size w4 (w4.alloc (.cells #[.int .i64 (k : Int), .int .i64 (jj : Int)] 30)) := (Below.refl _ w4).alloc (Nat.le_refl _) _
          have hC5 := hC4.over hal
          have hv5 := hv.alloc (.cells #[.int .i64 (k : Int), .int .i64 (jj : Int)] 30)
          have hr5 := hrow.alloc (.cells #[.int .i64 (k : Int), .int .i64 (jj : Int)] 30)
          clear hC4
          gi_wp2_with (gi_at_builtin; refine wpListIn_append_own _ rfl _ _ 22 rfl w.heap.size 30 i0 (.agg #[.int .i64 0, .int .i64 0]) 2 16 Tryd.underlying22 hi hz0 hz1 hz2 rfl (by decide) (.slice oa C.length cap) C.length (cellsP C) rfl hr5 ⟨w4.heap.size, 0, none⟩ 1 1 [.int .i64 (k : Int), .int .i64 (jj : Int)] rfl rfl (World.news_of_block (cs := #[.int .i64 (k : Int), .int .i64 (jj : Int)]) (World.alloc_heap_new w4 _)) (by simp [Value.oneCell']) (by unfold maxLen; omega) (by omega) (by simp; omega) ?_; intro v1 w5 hown1 hgrow1 hnil1; clear hnil1; obtain ⟨oa1, cap1, rfl⟩ := owns_shape' hown1; obtain ⟨hCe, hKe, hBe, hbx⟩ := hC5.push hv5 hr5 hown1 hgrow1; have hv6 := hv5.kept hgrow1 (hv5.not_row (by decide) hr5); have t2 := hv6.cell; have f2 := hv6.frozen)
          have bBe := hbx bb 65 _ (by decide) (by omega) (bB4.alloc _)
          have bKe := hbx W.heap.size 3 _ (by decide) (by omega) (bK4.alloc _)
          have bSe := hbx (W.heap.size + 1) 65 _ (by decide) (by omega) (bS4.alloc _)
          have hKA := ((keepsO hBV).trans (keepsO hal)).trans hKe
          exact ⟨hKA.from _, ⟨bBe.cell.trans bBv.cell.symm, fun h => ht.over hCe.bl⟩, by rw [hnx.out]; exact hCe, bKe, bSe, bBe, hMv.keeps hKA⟩
        | false =>
          rw [show ((x &&& Pf j.val.val) != 0) = true by simp [bne, hb]] at KM
          have KM' := hide' KM
          have hnx : Hid (covK Pf Sf k ++ covRow Pf Sf k (plain (pre ++ [j])) = covK Pf Sf k ++ covRow Pf Sf k (plain pre)) := by
            show _ = _
            rw [rF hb]
          clear KM rT rF hb hlt2 hrowT hrowF hend hin' hrl
          generalize covK Pf Sf k ++ covRow Pf Sf k (plain pre) = C at *
          generalize Pf j.val.val = pj at *
          generalize j.val.val = jj at *
          gi_wp2
          refine region_round (fun X => X.cell? ⟨W.heap.size + 1, 0, none⟩ = some (.int .u64 x) ∧ X.cell? ⟨w.heap.size, 0, none⟩ = some (.pointer (some ⟨go, 0, none⟩)) ∧ X.cell? ⟨go, 0, none⟩ = some (.slice (some ⟨gp, 0, none⟩) n n) ∧ X.cell? ⟨gp, jj, none⟩ = some (.int .u64 (pj : Int))) hmx (noDefer_of (by kernel_rfl)) ?_ (fun hHeld => ?_)
          · exact ⟨s0, s1, s2, s3⟩
          refine wpAnyH_take (i := 0) (oi := { dst := some 20, op := Op.load 65 (Operand.tmp 5), type := 65, pos := "order.go:83", after := #[], guard := none }) (v := ?_) rfl (by kernel_rfl) (by kernel_rfl) (by kernel_rfl) (fun _ _ _ h => h) (Or.inl ⟨by rfl, ?_⟩) (by assumption) ?_
          rotate_left
          · intro w hSw; (try dsimp only at hSw); go_simp <;> with_reducible rfl
          simp only [Act.put, List.setIfInBounds_toArray, List.set_cons_zero, List.set_cons_succ]
          refine wpAnyH_take (i := 1) (oi := { dst := some 21, op := Op.load 31 (Operand.tmp 1), type := 31, pos := "order.go:83", after := #[], guard := none }) (v := ?_) rfl (by kernel_rfl) (by kernel_rfl) (by kernel_rfl) (fun _ _ _ h => h) (Or.inl ⟨by rfl, ?_⟩) (by assumption) ?_
          rotate_left
          · intro w hSw; (try dsimp only at hSw); go_simp <;> with_reducible rfl
          simp only [Act.put, List.setIfInBounds_toArray, List.set_cons_zero, List.set_cons_succ]
          refine wpAnyH_take (i := 2) (oi := { dst := some 22, op := Op.nilCheck (Operand.tmp 21), type := 0, pos := "order.go:83", after := #[{ on := 1, ground := Ground.data }], guard := none }) (v := ?_) rfl (by kernel_rfl) (by kernel_rfl) (by kernel_rfl) (fun _ _ _ h => h) (Or.inl ⟨by rfl, ?_⟩) (by assumption) ?_
          rotate_left
          · intro w hSw; (try dsimp only at hSw); go_simp <;> with_reducible rfl
          simp only [Act.put, List.setIfInBounds_toArray, List.set_cons_zero, List.set_cons_succ]
          refine wpAnyH_take (i := 3) (oi := { dst := some 23, op := Op.fieldAddr 63 (Operand.tmp 22) 0, type := 0, pos := "order.go:83", after := #[{ on := 2, ground := Ground.data }], guard := none }) (v := ?_) rfl (by kernel_rfl) (by kernel_rfl) (by kernel_rfl) (fun _ _ _ h => h) (Or.inl ⟨by rfl, ?_⟩) (by assumption) ?_
          rotate_left
          · intro w hSw; (try dsimp only at hSw); go_simp <;> with_reducible rfl
          simp only [Act.put, List.setIfInBounds_toArray, List.set_cons_zero, List.set_cons_succ]
          refine wpAnyH_take (i := 4) (oi := { dst := some 24, op := Op.load 61 (Operand.tmp 23), type := 61, pos := "order.go:83", after := #[{ on := 3, ground := Ground.data }], guard := none }) (v := ?_) rfl (by kernel_rfl) (by kernel_rfl) (by kernel_rfl) (fun _ _ _ h => h) (Or.inl ⟨by rfl, ?_⟩) (by assumption) ?_
          rotate_left
          · intro w hSw; (try dsimp only at hSw); go_simp <;> with_reducible rfl
          simp only [Act.put, List.setIfInBounds_toArray, List.set_cons_zero, List.set_cons_succ]
          refine wpAnyH_take (i := 5) (oi := { dst := some 25, op := Op.move (Operand.tmp 6), type := 3, pos := "order.go:83", after := #[], guard := none }) (v := ?_) rfl (by kernel_rfl) (by kernel_rfl) (by kernel_rfl) (fun _ _ _ h => h) (Or.inl ⟨by rfl, ?_⟩) (by assumption) ?_
          rotate_left
          · intro w hSw; (try dsimp only at hSw); go_simp <;> with_reducible rfl
          simp only [Act.put, List.setIfInBounds_toArray, List.set_cons_zero, List.set_cons_succ]
          refine wpAnyH_take (i := 6) (oi := { dst := some 26, op := Op.indexAddr 61 (Operand.tmp 24) (Operand.tmp 25), type := 0, pos := "order.go:83", after := #[{ on := 4, ground := Ground.data }, { on := 5, ground := Ground.data }], guard := none }) (v := ?_) rfl (by kernel_rfl) (by kernel_rfl) (by kernel_rfl) (fun _ _ _ h => h) (Or.inl ⟨by rfl, ?_⟩) (by assumption) ?_
          rotate_left
          · intro w hSw; (try dsimp only at hSw); go_simp <;> with_reducible rfl
          simp only [Act.put, List.setIfInBounds_toArray, List.set_cons_zero, List.set_cons_succ]
          refine wpAnyH_take (i := 7) (oi := { dst := some 27, op := Op.load 65 (Operand.tmp 26), type := 65, pos := "order.go:83", after := #[{ on := 6, ground := Ground.data }], guard := none }) (v := ?_) rfl (by kernel_rfl) (by kernel_rfl) (by kernel_rfl) (fun _ _ _ h => h) (Or.inl ⟨by rfl, ?_⟩) (by assumption) ?_
          rotate_left
          · intro w hSw; (try dsimp only at hSw); go_simp <;> with_reducible rfl
          simp only [Act.put, List.setIfInBounds_toArray, List.set_cons_zero, List.set_cons_succ]
          refine wpAnyH_ready (rs := [8]) (by kernel_rfl) (by simp) ?_
          refine AllReadyH.cons (o := { dst := some 28, op := Op.call { callee := Callee.value (Operand.func 39), args := #[Operand.tmp 20, Operand.tmp 27], argTypes := #[65, 65] }, type := 4, pos := "order.go:83", after := #[{ on := 0, ground := Ground.data }, { on := 7, ground := Ground.data }], guard := none }) rfl (fun K hK => ?_) AllReadyH.nil
          go_simp
          refine (KM'.out _).mono ?_; rintro e w4 ⟨rfl, hb4⟩; (try dsimp only); have hBV : Below V.heap.size V w4 := ((Below.refl _ _).drew).trans hb4
          refine hK.out _ _ ?_ (fun hHeld => ?_)
          · exact ⟨cell_over hHeld.1 hb4, cell_over hHeld.2.1 hb4, cell_over hHeld.2.2.1 hb4, cell_over hHeld.2.2.2 hb4⟩
          clear hK K
          try simp only [Act.put, List.setIfInBounds_toArray, List.set_cons_zero, List.set_cons_succ]
          refine wpAnyH_take (i := 9) (oi := { dst := some 29, op := Op.unOp UnOp.not 4 (Operand.tmp 28), type := 4, pos := "order.go:83", after := #[{ on := 8, ground := Ground.data }], guard := none }) (v := ?_) rfl (by kernel_rfl) (by kernel_rfl) (by kernel_rfl) (fun _ _ _ h => h) (Or.inl ⟨by rfl, ?_⟩) (by assumption) ?_
          rotate_left
          · intro w hSw; (try dsimp only at hSw); go_simp <;> with_reducible rfl
          simp only [Act.put, List.setIfInBounds_toArray, List.set_cons_zero, List.set_cons_succ]
          refine wpAnyH_done (by kernel_rfl) ?_ _
          unfold onlyNormal
          gi_wp2
          exact ⟨(keepsO hBV).from _, ⟨hBV.cell (p := ⟨bb, 0, none⟩) zV, fun h => h.over hBV⟩, by rw [hnx.out]; exact hCv.over hBV, bxb bKv hBV bKv.lt, bxb bSv hBV bSv.lt, bxb bBv hBV zV, hMv.keeps (keepsO hBV)⟩
      case done =>
        rintro D ys V hD hys ⟨hCv, bKv, bSv, bBv, hMv⟩ hK
        rw [hys, hend.out] at hCv
        have hMe := hide' (hMv.cons hK (by omega) (fun E hE => by have := hMl E hE; omega))
        have hCe := hide' hCv
        clear hCv hMv hin' hrowT hrowF hend
        go_wp2
        refine ⟨⟨k + 1, D :: Ds, (k : Int) + 1, ?_⟩, ?_⟩
        · repeat apply Exists.intro
          exact ⟨⟨by show (k : Int) + 1 = ((k + 1 : Nat) : Int); omega, by omega, hMe.out, hCe.out⟩, rfl⟩
        · simp [intOf]; omega
      case stop =>
        rintro D c pre V _ _ h _
        exact h.elim
    · obtain rfl : k = n := by omega
      obtain ⟨v, hv, hrow⟩ := hC.bp
      obtain ⟨oa, cap, rfl⟩ := owns_shape' hrow
      have t0 := hv.cell
      have hC' := hide' hC
      clear hlt hC
      go_wp2
      refine leaves_marks Ds _ hM fun W' hW' => ?_
      refine ⟨_, results_tmp rfl _ _ _, ⟨_, rfl, ⟨hrow.1, ?_⟩, hC'.out.bl.trans hW'.1⟩⟩
      rcases hrow.2 with h' | ⟨g', cap', cur, h', hb, hg, rest⟩
      · exact .inl h'
      · exact .inr ⟨g', cap', cur, h', hb, hW'.2 _ _ hg rfl, rest⟩
theorem coversO (ho : OrdAt w go gp gs n Pf Sf) (hn : n ≤ 64) (hP : ∀ a, a < n → Pf a < 18446744073709551616) (hS : ∀ a, a < n → Sf a < 18446744073709551616) (hin : ∀ a, a < n → ∀ b ∈ nums (Sf a), b.val < n) (ht : Tab w) :
    Calls Tryd.prog 12 #[.pointer (some ⟨go, 0, none⟩)] w fun e W' => ∃ v, e = .returned v ∧ W'.ownsRow w.heap.size 30 2 v (covK Pf Sf n).length (cellsP (covK Pf Sf n)) ∧ Below w.heap.size w W' := callsIn_wide.1 (coversC ho hn hP hS hin ht)
end
end Go.Proofs.YtjimiabfgmchiaaDoor

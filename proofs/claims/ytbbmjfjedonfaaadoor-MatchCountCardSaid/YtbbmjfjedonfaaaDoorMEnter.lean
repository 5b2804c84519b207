/- empty, enter, full: rows enter one by one. -/
import Derived.Test.YtbbmjfjedonfaaaDoorMWay
namespace Go.Proofs.YtbbmjfjedonfaaaDoor.M
open Go.RowKit Go.Shelf
/-- A new matching whose places are being told to be nobody's. -/
def eval0 (rv : Value) (c : Nat) : Nat → Value := fun i => if i = 0 then rv else if i < 13 then .int .i64 0 else if i < 13 + c then .int .i64 (-1) else .int .i64 0
theorem eval0_start (rv : Value) : ∀ i, i < 77 → (rv :: List.replicate 76 (Value.int .i64 0)).toArray[i]? = some (eval0 rv 0 i) := fun i hi => by
  unfold eval0
  cases i with
  | zero => rfl
  | succ i =>
    rw [if_neg (by omega)]
    simp only [List.getElem?_toArray, List.getElem?_cons_succ]
    rw [List.getElem?_replicate, if_pos (by omega)]
    split
    · rfl
    · first | rfl | (rw [if_neg (by omega)])
def zcM : Array Value := ((Value.slice none 0 0) :: List.replicate 76 (Value.int .i64 0)).toArray
theorem zcM_size : zcM.size = 77 := by kernel_rfl
theorem zcM_ne : ¬ zcM = #[] := fun e => by have := congrArg Array.size e; rw [zcM_size] at this; cases this
theorem zeroM (w : World) : (zeroValue 60).run Tryd.prog w = .ok (.agg zcM) w := by kernel_rfl
set_option maxRecDepth 100000 in
set_option maxHeartbeats 1000000 in
theorem emptyF (oa : Option Addr) (n cap : Nat) (w : World) : Calls Tryd.prog 18 #[.slice oa n cap] w fun e w' => ∃ gm, e = .returned (.pointer (some ⟨gm, 0, none⟩)) ∧ w.heap.size ≤ gm ∧ Hid (MAt w' gm (.slice oa n cap) (fun _ => 0) (fun _ => none)) ∧ Below w.heap.size w w' := by
  have z0 := zeroM
  have z1 := zcM_size
  have z2 := zcM_ne
  go_enter Tryd.func18, Tryd.ntmps18
  go_wp2
  go_loopw [8] (fun p wr => ∃ c : Nat, c ≤ 64 ∧ p = .int .i64 (c : Int) ∧ Hid (wr.rowIs w.heap.size 60 77 (eval0 (.slice oa n cap) c)) ∧ Below w.heap.size w wr) (fun p _ => (64 - intOf p).toNat)
  case atStart => exact ⟨0, by omega, rfl, World.rowIs_alloc w ((Value.slice oa n cap) :: List.replicate 76 (Value.int .i64 0)).toArray _ _ (eval0_start _), (Below.refl _ _).alloc (Nat.le_refl _) _⟩
  case round =>
    obtain ⟨c, hc, rfl, hR, hB⟩ := hrel
    by_cases hlt : c < 64
    · have h1 := hR.out.cell (i := 13 + c) (by omega)
      have h2 := hR.out.frozen (13 + c)
      have hlt' : (c : Int) < 64 := by omega
      go_wp2
      refine ⟨⟨c + 1, by omega, by go_num, (hR.out.set (13 + c) _).congr fun i hi => ?_, hB.setCell (Nat.le_refl _) _⟩, by simp [intOf]; omega⟩
      unfold eval0
      by_cases e : i = 13 + c
      · subst e
        rw [if_pos rfl, if_neg (by omega), if_neg (by omega), if_pos (by omega)]
      · rw [if_neg e]
        by_cases e0 : i = 0
        · rw [if_pos e0, if_pos e0]
        · rw [if_neg e0, if_neg e0]
          by_cases e1 : i < 13
          · rw [if_pos e1, if_pos e1]
          · rw [if_neg e1, if_neg e1]
            by_cases e2 : i < 13 + c
            · rw [if_pos e2, if_pos (by omega)]
            · rw [if_neg e2, if_neg (by omega)]
    · obtain rfl : c = 64 := by omega
      go_wp2
      go_ret
      refine ⟨w.heap.size, rfl, Nat.le_refl _, hR.out.congr fun i hi => ?_, hB⟩
      unfold eval0 mval
      by_cases e0 : i = 0
      · rw [if_pos e0, if_pos e0]
      · rw [if_neg e0, if_neg e0]
        by_cases e1 : i < 13
        · rw [if_pos e1, if_pos e1]; rfl
        · rw [if_neg e1, if_neg e1, if_pos (by omega)]; rfl
theorem mks0 (W : World) : KAt (W.alloc (.cells (List.replicate 64 (Value.bool false)).toArray 54)) W.heap.size (fun _ => false) :=
  World.rowIs_alloc W (List.replicate 64 (Value.bool false)).toArray _ _ (fun i hi => by
    have hi : i < 64 := by simpa using hi
    simp only [List.getElem?_toArray]
    rw [List.getElem?_replicate, if_pos hi])
/-- The rows as they lie, apart from new memory. -/
structure RwA (W : World) (rv : Value) (n : Nat) (R : Nat → Nat) : Prop where
  rw : ∃ oa cap, rv = .slice oa n cap ∧ ∀ r, r < n → ∃ g o, oa = some ⟨g, o, none⟩ ∧ W.cell? ⟨g, o + r, none⟩ = some (.int .u64 (R r : Int))
  tab : Tab W
  word : ∀ r, R r < 18446744073709551616
theorem RwA.over {W W' : World} {rv : Value} {n : Nat} {R : Nat → Nat} (h : RwA W rv n R) (hb : Below W.heap.size W W') : RwA W' rv n R := by
  obtain ⟨oa, cap, e, hc⟩ := h.rw
  refine ⟨⟨oa, cap, e, fun r hr => ?_⟩, h.tab.over hb, h.word⟩
  obtain ⟨g, o, e1, hcell⟩ := hc r hr
  exact ⟨g, o, e1, cell_over hcell hb⟩
theorem RwA.bit {W : World} {rv : Value} {n : Nat} {R : Nat → Nat} (h : RwA W rv n R) : ∀ r v, (R r).testBit v = true → v < 64 := fun r v hb => by
  rcases Nat.lt_or_ge v 64 with e | e
  · exact e
  · have := Nat.testBit_lt_two_pow (x := R r) (i := v) (Nat.lt_of_lt_of_le (h.word r) (Nat.pow_le_pow_right (n := 2) (by decide) e))
    rw [this] at hb
    cases hb
theorem RwA.cxt {W W' : World} {rv : Value} {n : Nat} {R : Nat → Nat} (h : RwA W rv n R) (hb : Below W.heap.size W W') {gm gk : Nat} (hm : W.heap.size ≤ gm) (hk : W.heap.size ≤ gk) (hne : gm ≠ gk) (hn : n ≤ 12) : Cxt W' gm gk rv n R := by
  obtain ⟨oa, cap, e, hc⟩ := h.rw
  have := h.tab.2
  refine ⟨⟨oa, cap, e, fun r hr => ?_⟩, h.tab.over hb, by omega, by omega, hne, h.word, hn⟩
  obtain ⟨g, o, e1, hcell⟩ := hc r hr
  have := cell_lt hcell
  exact ⟨g, o, e1, by omega, by omega, cell_over hcell hb⟩
/-- A matching of the rows E, in memory that is new since W0. -/
structure MSt (W0 W : World) (gm : Nat) (rv : Value) (n : Nat) (R : Nat → Nat) (ow : Nat → Option Nat) (pl : Nat → Nat) (E : Nat → Prop) : Prop where
  old : Below W0.heap.size W0 W
  new : W0.heap.size ≤ gm
  mat : MAt W gm rv pl ow
  st : Wst n R ow pl E No
theorem MSt.below {W0 W W' : World} {gm : Nat} {rv : Value} {n : Nat} {R : Nat → Nat} {ow : Nat → Option Nat} {pl : Nat → Nat} {E : Nat → Prop} (h : MSt W0 W gm rv n R ow pl E) (hb : Below W.heap.size W W') : MSt W0 W' gm rv n R ow pl E :=
  ⟨h.old.trans (hb.mono h.old.size), h.new, h.mat.below hb, h.st⟩
/-- What enter answers: just if these rows can have places of their own. -/
def EntP (W0 : World) (gm : Nat) (rv : Value) (n : Nat) (R : Nat → Nat) (ow : Nat → Option Nat) (pl : Nat → Nat) (E : Nat → Prop) (i : Nat) (e : Ending) (w' : World) : Prop :=
  (e = .returned (.bool true) ∧ ∃ ow' pl', Hid (MSt W0 w' gm rv n R ow' pl' (fun r => E r ∨ r = i))) ∨ (e = .returned (.bool false) ∧ Hid (MSt W0 w' gm rv n R ow pl E) ∧ Hid (¬ Ind R (fun r => E r ∨ r = i)))
set_option maxRecDepth 100000 in
set_option maxHeartbeats 1000000 in
theorem enterF (W0 W : World) (gm : Nat) (rv : Value) (n : Nat) (R : Nat → Nat) (ow : Nat → Option Nat) (pl : Nat → Nat) (E : Nat → Prop) (i : Nat) (hA : RwA W0 rv n R) (hM : MSt W0 W gm rv n R ow pl E) (hn : n ≤ 12) (hi : i < n) (hiE : ¬ E i) :
    Calls Tryd.prog 19 #[.pointer (some ⟨gm, 0, none⟩), .int .i64 (i : Int)] W (EntP W0 gm rv n R ow pl E i) := by
  have hlt := hM.mat.lt
  have hb : Below W.heap.size W (W.alloc (.cells (List.replicate 64 (Value.bool false)).toArray 54)) := (Below.refl _ _).alloc (Nat.le_refl _) _
  have hM1 := hM.below hb
  have hgk : W0.heap.size ≤ W.heap.size := hM.old.size
  have KW := hide' (wayF 65 _ gm W.heap.size rv n R ow pl (fun _ => false) E No i (Nat.lt_of_le_of_lt (unm_le _) (by decide)) (hA.cxt hM1.old hM.new hgk (by omega) hn) hM1.mat (mks0 W) hM.st (fun _ h => False.elim h) hi hiE)
  have hM' := hide' hM
  have hM1' := hide' hM1
  have hA' := hide' hA
  clear hM hM1 hA hb
  go_enter Tryd.func19, Tryd.ntmps19
  go_wp2_with fail
  refine KW.out.mono ?_
  rintro e w1 ⟨hF, (⟨rfl, ow', pl', K', hM2, hK2, hW2⟩ | ⟨rfl, K', hM2, hK2, hN2⟩)⟩
  · have hend : Hid (MSt W0 w1 gm rv n R ow' pl' (fun r => E r ∨ r = i)) := ⟨hF.new hM1'.out.old hM1'.out.new hgk hM1'.out.old.size, hM1'.out.new, hM2, hW2.st⟩
    clear KW hM2 hK2 hW2 hF
    go_wp2
    go_ret
    exact .inl ⟨rfl, _, _, hend⟩
  · have hend : Hid (MSt W0 w1 gm rv n R ow pl E) := ⟨hF.new hM1'.out.old hM1'.out.new hgk hM1'.out.old.size, hM1'.out.new, hM2, hM1'.out.st⟩
    have hno : Hid (¬ Ind R (fun r => E r ∨ r = i)) := enter_no hM'.out.st hA'.out.bit hiE hN2
    clear KW hM2 hK2 hN2 hF
    go_wp2
    go_ret
    exact .inr ⟨rfl, hend, hno⟩
end Go.Proofs.YtbbmjfjedonfaaaDoor.M

/- record: what stands behind a title. -/
import Derived.Test.YtmhbidnpfefjpaaJnP
import Derived.Test.YtmhbidnpfefjpaaJnN
namespace Go.Proofs.Ytmhbidnpfefjpaa
open Go.RowKit
theorem make_bytesU {w : World} {ops : Array Oper} {rest : List Oper} {o : Oper} {a : Act} {Q : Exit → Act → World → Prop} (hgd : o.guard = none) (l c : Operand) (hop : o.op = Op.makeSlice 34 l c) (n : Nat)
    (hl : a.eval l = .int .u64 (n : Int)) (hc : a.eval c = .int .u64 (n : Int)) (hn : n ≤ 10000000)
    (hK : ∀ w', BkB w' w.heap.size (List.replicate n 0) → Below w.heap.size w w' → wpList Try.prog ops Q rest (a.put o.dst (.slice (some ⟨w.heap.size, 0, none⟩) n n)) w') : wpList Try.prog ops Q (o :: rest) a w := by
  obtain ⟨i0, hi, hz0, hz1, hz2⟩ := info_parts infoU8
  refine wpList_make_full w hgd l c 34 hop w.heap.size 5 i0 (.int .u8 0) 1 Try.underlying34 hi hz0 hz1 .u64 .u64 n n n hl hc rfl rfl (by rw [hz2]; omega) (by unfold maxLen; omega) (Nat.le_refl _) ?_
  intro w' h1 h2
  exact hK w' (made_bk h1) ((Below.refl _ w).grown h2 (Nat.le_refl _) (fun j ej => by cases ej))
theorem load_at {W : World} {T : TypeId} {g : Nat} {P : List Nat} (h : BkT W T g P) (hP : P.length = 16) : (Instr.loadAt 79 (.pointer (some ⟨g, 0, none⟩))).run Try.prog W = .ok (.agg (cellsB P).toArray) W :=
  run_loadAt_mid (P := Try.prog) W g 0 79 (cellsB P) _ h.range Try.underlying79 rfl (by rw [cellsB_len, hP]; exact blockS)
/-- What record answers. -/
def RdcP (W : World) (o : Option (List Nat)) (e : Ending) (w' : World) : Prop :=
  Hid (Below W.heap.size W w') ∧ ((e = .returned (.tuple #[.slice none 0 0, .bool false]) ∧ Hid (o = none)) ∨ ∃ (r : List Nat) (gr : Nat), e = .returned (.tuple #[.slice (some ⟨gr, 0, none⟩) r.length r.length, .bool true]) ∧ Hid (o = some r) ∧ Hid (BkB w' gr r) ∧ Hid (W.heap.size ≤ gr))
/-- What stands while a record is read. -/
structure Rl (W : World) (gj g gb gr m : Nat) (J : Jn) (D : Dk) (X : List Nat) (i : Nat) (V : World) : Prop where
  jn : JnA V gj g J
  dk : DkA V g gb D
  rc : BkT V 5 gr (rcI X m i)
  ge : W.heap.size ≤ gr
  be : Below W.heap.size W V
theorem Rl.up {W : World} {gj g gb gr m : Nat} {J : Jn} {D : Dk} {X : List Nat} {i : Nat} {V V' : World} (h : Rl W gj g gb gr m J D X i V) (hb : Below V.heap.size V V') : Rl W gj g gb gr m J D X i V' :=
  ⟨h.jn.below hb (blk_lt h.jn), h.dk.below hb (Nat.le_refl _), h.rc.below hb (blk_lt h.rc), h.ge, h.be.trans (hb.mono h.be.size)⟩
theorem Rl.kp {W : World} {gj g gb gr m x : Nat} {J : Jn} {D : Dk} {X : List Nat} {i : Nat} {V V' : World} (h : Rl W gj g gb gr m J D X i V) (k : Kp x x V V') (hx : W.heap.size ≤ x) (hj : gj < W.heap.size) (hg : g < W.heap.size) (hgb : gb < W.heap.size) (hr : gr ≠ x) : Rl W gj g gb gr m J D X i V' :=
  ⟨h.jn.kp k (by omega) (by omega), h.dk.kp k (by omega) (by omega) (by omega) (by omega), h.rc.kp k hr hr, h.ge, h.be.trans (k.below hx hx h.be.size)⟩
theorem Rl.row {W : World} {gj g gb gr m : Nat} {J : Jn} {D : Dk} {X : List Nat} {i j : Nat} {V V' : World} (h : Rl W gj g gb gr m J D X i V) (k : Kp gr gr V V') (hj : gj < W.heap.size) (hg : g < W.heap.size) (hgb : gb < W.heap.size) (hr : BkT V' 5 gr (rcI X m j)) : Rl W gj g gb gr m J D X j V' := by
  have := h.ge
  exact ⟨h.jn.kp k (by omega) (by omega), h.dk.kp k (by omega) (by omega) (by omega) (by omega), hr, h.ge, h.be.trans (k.below h.ge h.ge h.be.size)⟩
set_option maxRecDepth 100000 in
set_option maxHeartbeats 4000000 in
theorem recordJ {W : World} {gj g gb n : Nat} {J : Jn} {D : Dk} (h : JnA W gj g J) (hd : DkA W g gb D) (hk : D.bytes.length = 16 * n) (hn : n ≤ 65536) (hp : D.power = true) (hb : ∀ z ∈ D.bytes, z < 256) (he : J.e < n) (hc : J.c ≤ 100000) :
    Calls Try.prog 72 #[.pointer (some ⟨gj, 0, none⟩), .agg (cellsB (blkB D.bytes J.e)).toArray] W (RdcP W (oneR D.bytes n J.e J.c)) := by
  have hT := blkB_len hk he
  have hTb : ∀ z ∈ blkB D.bytes J.e, z < 256 := fun z hz => hb z (List.mem_of_mem_drop (List.mem_of_mem_take hz))
  have hm32 := n48_lt hTb hT
  have hO := hide' (rfl : oneR D.bytes n J.e J.c = oneR D.bytes n J.e J.c)
  have hA : Hid (BkT (W.alloc (.cells (cellsB (blkB D.bytes J.e)).toArray 79)) 79 W.heap.size (blkB D.bytes J.e)) := bkt_new W _ _
  have hB1 : Hid (Below W.heap.size W (W.alloc (.cells (cellsB (blkB D.bytes J.e)).toArray 79))) := (Below.refl _ _).alloc (Nat.le_refl _) _
  have KN := hide' (numberF (hA.out.row (o := 4) (n := 4) (cap := 12) (M := ((blkB D.bytes J.e).drop 4).take 4) (fun i z hz => by
    rw [List.getElem?_take] at hz
    split at hz
    · rw [List.getElem?_drop] at hz; exact hz
    · cases hz) (by rw [List.length_take, List.length_drop, hT]; rfl) (by omega)) (fun z hz => hTb z (List.mem_of_mem_drop (List.mem_of_mem_take hz))) (by rw [List.length_take]; omega))
  rw [show numB (((blkB D.bytes J.e).drop 4).take 4) = n48 (blkB D.bytes J.e) from rfl] at KN
  have obig := hide' (oneR_big (L := D.bytes) (n := n) (q := J.e) (c := J.c))
  have ofar := hide' (oneR_far (L := D.bytes) (n := n) (q := J.e) (c := J.c))
  have onot := hide' (oneR_not (L := D.bytes) (n := n) (q := J.e) (c := J.c))
  have opad := hide' (fun i => oneR_pad (L := D.bytes) (n := n) (q := J.e) (c := J.c) (i := i))
  have oyes := hide' (oneR_yes (L := D.bytes) (n := n) (q := J.e) (c := J.c))
  have hj1 := hide' (h.below hB1.out (blk_lt h))
  have hd1 := hide' (hd.below hB1.out (Nat.le_refl _))
  obtain ⟨c0, c1, c2, c3, c4⟩ := hj1.out.cells
  have hlow : gj < W.heap.size ∧ g < W.heap.size ∧ gb < W.heap.size := ⟨blk_lt h, blk_lt hd.1, blk_lt hd.2⟩
  clear h hd hTb hO
  generalize hTT : blkB D.bytes J.e = T at *
  generalize hmm : n48 T = m at *
  have hT' := hide' hT
  generalize oneR D.bytes n J.e J.c = O at *
  clear hTT hmm hT
  unfold RdcP
  generalize hWA : W.alloc (.cells (cellsB T).toArray 79) = WA at *
  have hlj : gj < W.heap.size := by have := hlow.1; exact this
  have hlg := hlow.2.1
  have hlb := hlow.2.2
  clear hlow
  by_cases hbig : 131072 < m
  · have hg2 : decide ((131072 : Int) < (m : Int)) = true := by simp; omega
    have hg2' : decide (131072 < m) = true := by simp; omega
    have hO := hide' (obig.out hbig)
    have hBd : Hid (Below W.heap.size W WA.drew) := hB1.out.drew
    clear hbig ofar onot opad oyes obig
    go_enter Try.func72, Try.ntmps72
    go_wp2_with (go_at_call 57; refine KN.out.mono ?_; rintro e' w1 ⟨rfl, hw1'⟩; obtain rfl : WA = w1 := hw1'.symm)
    refine wp_region_noPanic (wp_region_held_drew (S := (fun _ => True)) (by kernel_rfl) ?_ (fun hHeld => ?_))
    · trivial
    refine wpAnyH_take (i := 0) (oi := { dst := some 12, op := Op.move (Operand.tmp 6), type := 83, pos := "journal.go:113", after := #[], guard := none }) (v := ?_) rfl (by kernel_rfl) (by kernel_rfl) (by kernel_rfl) (fun _ _ _ h => h) (Or.inl ⟨by rfl, ?_⟩) (by assumption) ?_
    rotate_left
    · intro w hSw; (try dsimp only at hSw); go_simp <;> with_reducible rfl
    simp only [Act.put, List.setIfInBounds_toArray, List.set_cons_zero, List.set_cons_succ]
    refine wpAnyH_take (i := 1) (oi := { dst := some 13, op := Op.binOp BinOp.gtr 83 (Operand.tmp 12) (Operand.const (Value.int IntKind.u64 131072)) 83, type := 4, pos := "journal.go:113", after := #[{ on := 0, ground := Ground.data }], guard := none }) (v := ?_) rfl (by kernel_rfl) (by kernel_rfl) (by kernel_rfl) (fun _ _ _ h => h) (Or.inl ⟨by rfl, ?_⟩) (by assumption) ?_
    rotate_left
    · intro w hSw; (try dsimp only at hSw); go_simp <;> with_reducible rfl
    simp only [Act.put, List.setIfInBounds_toArray, List.set_cons_zero, List.set_cons_succ]
    refine wpAnyH_take (i := 2) (oi := { dst := some 14, op := Op.move (Operand.tmp 13), type := 4, pos := "journal.go:113", after := #[{ on := 1, ground := Ground.data }], guard := none }) (v := ?_) rfl (by kernel_rfl) (by kernel_rfl) (by kernel_rfl) (fun _ _ _ h => h) (Or.inl ⟨by rfl, ?_⟩) (by assumption) ?_
    rotate_left
    · intro w hSw; (try dsimp only at hSw); go_simp <;> with_reducible rfl
    simp only [Act.put, List.setIfInBounds_toArray, List.set_cons_zero, List.set_cons_succ]
    refine wpAnyH_take (i := 3) (oi := { dst := some 15, op := Op.move (Operand.tmp 6), type := 83, pos := "journal.go:113", after := #[{ on := 2, ground := Ground.guard }], guard := some (2, false) }) (v := undef) rfl (by kernel_rfl) (by kernel_rfl) (by kernel_rfl) (fun _ _ _ h => h) (Or.inr ⟨by rfl, rfl⟩) (by assumption) ?_
    simp only [Act.put, List.setIfInBounds_toArray, List.set_cons_zero, List.set_cons_succ]
    refine wpAnyH_take (i := 4) (oi := { dst := some 16, op := Op.convert 83 3 (Operand.tmp 15), type := 3, pos := "journal.go:113", after := #[{ on := 3, ground := Ground.data }, { on := 2, ground := Ground.guard }], guard := some (2, false) }) (v := undef) rfl (by kernel_rfl) (by kernel_rfl) (by kernel_rfl) (fun _ _ _ h => h) (Or.inr ⟨by rfl, rfl⟩) (by assumption) ?_
    simp only [Act.put, List.setIfInBounds_toArray, List.set_cons_zero, List.set_cons_succ]
    refine wpAnyH_take (i := 5) (oi := { dst := some 17, op := Op.move (Operand.tmp 0), type := 29, pos := "journal.go:113", after := #[{ on := 2, ground := Ground.guard }], guard := some (2, false) }) (v := undef) rfl (by kernel_rfl) (by kernel_rfl) (by kernel_rfl) (fun _ _ _ h => h) (Or.inr ⟨by rfl, rfl⟩) (by assumption) ?_
    simp only [Act.put, List.setIfInBounds_toArray, List.set_cons_zero, List.set_cons_succ]
    refine wpAnyH_take (i := 6) (oi := { dst := some 18, op := Op.call { callee := Callee.value (Operand.func 29), args := #[Operand.tmp 17], argTypes := #[29] }, type := 3, pos := "journal.go:113", after := #[{ on := 5, ground := Ground.data }, { on := 2, ground := Ground.chain }, { on := 2, ground := Ground.guard }], guard := some (2, false) }) (v := undef) rfl (by kernel_rfl) (by kernel_rfl) (by kernel_rfl) (fun _ _ _ h => h) (Or.inr ⟨by rfl, rfl⟩) (by assumption) ?_
    simp only [Act.put, List.setIfInBounds_toArray, List.set_cons_zero, List.set_cons_succ]
    refine wpAnyH_take (i := 7) (oi := { dst := some 19, op := Op.binOp BinOp.gtr 3 (Operand.tmp 16) (Operand.tmp 18) 3, type := 4, pos := "journal.go:113", after := #[{ on := 4, ground := Ground.data }, { on := 6, ground := Ground.data }, { on := 2, ground := Ground.guard }], guard := some (2, false) }) (v := undef) rfl (by kernel_rfl) (by kernel_rfl) (by kernel_rfl) (fun _ _ _ h => h) (Or.inr ⟨by rfl, rfl⟩) (by assumption) ?_
    simp only [Act.put, List.setIfInBounds_toArray, List.set_cons_zero, List.set_cons_succ]
    refine wpAnyH_take (i := 8) (oi := { dst := some 20, op := Op.pick (Operand.tmp 14) (Operand.const (Value.bool true)) (Operand.tmp 19), type := 4, pos := "journal.go:113", after := #[{ on := 2, ground := Ground.data }, { on := 7, ground := Ground.data }], guard := none }) (v := ?_) rfl (by kernel_rfl) (by kernel_rfl) (by kernel_rfl) (fun _ _ _ h => h) (Or.inl ⟨by rfl, ?_⟩) (by assumption) ?_
    rotate_left
    · intro w hSw; (try dsimp only at hSw); go_simp <;> with_reducible rfl
    simp only [Act.put, List.setIfInBounds_toArray, List.set_cons_zero, List.set_cons_succ]
    refine wpAnyH_take (i := 9) (oi := { dst := some 21, op := Op.move (Operand.tmp 20), type := 4, pos := "journal.go:113", after := #[{ on := 8, ground := Ground.data }, { on := 6, ground := Ground.chain }], guard := none }) (v := ?_) rfl (by kernel_rfl) (by kernel_rfl) (by kernel_rfl) (fun _ _ _ h => h) (Or.inl ⟨by rfl, ?_⟩) (by assumption) ?_
    rotate_left
    · intro w hSw; (try dsimp only at hSw); go_simp <;> with_reducible rfl
    simp only [Act.put, List.setIfInBounds_toArray, List.set_cons_zero, List.set_cons_succ]
    refine wpAnyH_take (i := 10) (oi := { dst := some 22, op := Op.load 79 (Operand.tmp 3), type := 79, pos := "journal.go:113", after := #[{ on := 9, ground := Ground.guard }], guard := some (9, false) }) (v := undef) rfl (by kernel_rfl) (by kernel_rfl) (by kernel_rfl) (fun _ _ _ h => h) (Or.inr ⟨by rfl, rfl⟩) (by assumption) ?_
    simp only [Act.put, List.setIfInBounds_toArray, List.set_cons_zero, List.set_cons_succ]
    refine wpAnyH_take (i := 11) (oi := { dst := some 23, op := Op.move (Operand.tmp 6), type := 83, pos := "journal.go:113", after := #[{ on := 9, ground := Ground.guard }], guard := some (9, false) }) (v := undef) rfl (by kernel_rfl) (by kernel_rfl) (by kernel_rfl) (fun _ _ _ h => h) (Or.inr ⟨by rfl, rfl⟩) (by assumption) ?_
    simp only [Act.put, List.setIfInBounds_toArray, List.set_cons_zero, List.set_cons_succ]
    refine wpAnyH_take (i := 12) (oi := { dst := some 24, op := Op.convert 83 3 (Operand.tmp 23), type := 3, pos := "journal.go:113", after := #[{ on := 11, ground := Ground.data }, { on := 9, ground := Ground.guard }], guard := some (9, false) }) (v := undef) rfl (by kernel_rfl) (by kernel_rfl) (by kernel_rfl) (fun _ _ _ h => h) (Or.inr ⟨by rfl, rfl⟩) (by assumption) ?_
    simp only [Act.put, List.setIfInBounds_toArray, List.set_cons_zero, List.set_cons_succ]
    refine wpAnyH_take (i := 13) (oi := { dst := some 25, op := Op.move (Operand.tmp 0), type := 29, pos := "journal.go:113", after := #[{ on := 9, ground := Ground.guard }], guard := some (9, false) }) (v := undef) rfl (by kernel_rfl) (by kernel_rfl) (by kernel_rfl) (fun _ _ _ h => h) (Or.inr ⟨by rfl, rfl⟩) (by assumption) ?_
    simp only [Act.put, List.setIfInBounds_toArray, List.set_cons_zero, List.set_cons_succ]
    refine wpAnyH_take (i := 14) (oi := { dst := some 26, op := Op.nilCheck (Operand.tmp 25), type := 0, pos := "journal.go:113", after := #[{ on := 13, ground := Ground.data }, { on := 9, ground := Ground.guard }], guard := some (9, false) }) (v := undef) rfl (by kernel_rfl) (by kernel_rfl) (by kernel_rfl) (fun _ _ _ h => h) (Or.inr ⟨by rfl, rfl⟩) (by assumption) ?_
    simp only [Act.put, List.setIfInBounds_toArray, List.set_cons_zero, List.set_cons_succ]
    refine wpAnyH_take (i := 15) (oi := { dst := some 27, op := Op.fieldAddr 74 (Operand.tmp 26) 2, type := 0, pos := "journal.go:113", after := #[{ on := 14, ground := Ground.data }, { on := 9, ground := Ground.guard }], guard := some (9, false) }) (v := undef) rfl (by kernel_rfl) (by kernel_rfl) (by kernel_rfl) (fun _ _ _ h => h) (Or.inr ⟨by rfl, rfl⟩) (by assumption) ?_
    simp only [Act.put, List.setIfInBounds_toArray, List.set_cons_zero, List.set_cons_succ]
    refine wpAnyH_take (i := 16) (oi := { dst := some 28, op := Op.load 3 (Operand.tmp 27), type := 3, pos := "journal.go:113", after := #[{ on := 15, ground := Ground.data }, { on := 9, ground := Ground.guard }], guard := some (9, false) }) (v := undef) rfl (by kernel_rfl) (by kernel_rfl) (by kernel_rfl) (fun _ _ _ h => h) (Or.inr ⟨by rfl, rfl⟩) (by assumption) ?_
    simp only [Act.put, List.setIfInBounds_toArray, List.set_cons_zero, List.set_cons_succ]
    refine wpAnyH_take (i := 17) (oi := { dst := some 29, op := Op.binOp BinOp.add 3 (Operand.tmp 28) (Operand.const (Value.int IntKind.i64 1)) 3, type := 3, pos := "journal.go:113", after := #[{ on := 16, ground := Ground.data }, { on := 9, ground := Ground.guard }], guard := some (9, false) }) (v := undef) rfl (by kernel_rfl) (by kernel_rfl) (by kernel_rfl) (fun _ _ _ h => h) (Or.inr ⟨by rfl, rfl⟩) (by assumption) ?_
    simp only [Act.put, List.setIfInBounds_toArray, List.set_cons_zero, List.set_cons_succ]
    refine wpAnyH_take (i := 18) (oi := { dst := some 30, op := Op.call { callee := Callee.value (Operand.func 63), args := #[Operand.tmp 24, Operand.tmp 29], argTypes := #[3, 3] }, type := 79, pos := "journal.go:113", after := #[{ on := 12, ground := Ground.data }, { on := 17, ground := Ground.data }, { on := 9, ground := Ground.chain }, { on := 9, ground := Ground.guard }], guard := some (9, false) }) (v := undef) rfl (by kernel_rfl) (by kernel_rfl) (by kernel_rfl) (fun _ _ _ h => h) (Or.inr ⟨by rfl, rfl⟩) (by assumption) ?_
    simp only [Act.put, List.setIfInBounds_toArray, List.set_cons_zero, List.set_cons_succ]
    refine wpAnyH_take (i := 19) (oi := { dst := some 31, op := Op.binOp BinOp.neq 79 (Operand.tmp 22) (Operand.tmp 30) 79, type := 4, pos := "journal.go:113", after := #[{ on := 10, ground := Ground.data }, { on := 18, ground := Ground.data }, { on := 9, ground := Ground.guard }], guard := some (9, false) }) (v := undef) rfl (by kernel_rfl) (by kernel_rfl) (by kernel_rfl) (fun _ _ _ h => h) (Or.inr ⟨by rfl, rfl⟩) (by assumption) ?_
    simp only [Act.put, List.setIfInBounds_toArray, List.set_cons_zero, List.set_cons_succ]
    refine wpAnyH_take (i := 20) (oi := { dst := some 32, op := Op.pick (Operand.tmp 21) (Operand.const (Value.bool true)) (Operand.tmp 31), type := 4, pos := "journal.go:113", after := #[{ on := 9, ground := Ground.data }, { on := 19, ground := Ground.data }], guard := none }) (v := ?_) rfl (by kernel_rfl) (by kernel_rfl) (by kernel_rfl) (fun _ _ _ h => h) (Or.inl ⟨by rfl, ?_⟩) (by assumption) ?_
    rotate_left
    · intro w hSw; (try dsimp only at hSw); go_simp <;> with_reducible rfl
    simp only [Act.put, List.setIfInBounds_toArray, List.set_cons_zero, List.set_cons_succ]
    refine wpAnyH_done (by kernel_rfl) ?_ _
    refine NoPanic.normal ?_
    go_wp2
    go_ret2
    exact ⟨hBd, .inl ⟨rfl, hO⟩⟩
  · have hw1 : IntKind.i64.wrap (m : Int) = (m : Int) := wrap_id (by omega) (by omega)
    have hg2 : decide ((131072 : Int) < (m : Int)) = false := by simp; omega
    have hg2' : decide (131072 < m) = false := by simp; omega
    have hrg := room_gt (n := n) (e := J.e) (m := m) (by omega)
    have KR := hide' (roomF (W := WA.drew) (show JnA WA.drew gj g J from hj1.out) (show DkA WA.drew g gb D from hd1.out) hk hn (by omega))
    by_cases hfar : n ≤ J.e + 1 + spn m
    · have hg3 : decide (roomI n J.e < (m : Int)) = true := decide_eq_true (by rw [hrg]; exact hfar)
      have hO := hide' (ofar.out hfar)
      clear hrg ofar onot opad oyes obig hfar hbig
      generalize roomI n J.e = rm at *
      go_enter Try.func72, Try.ntmps72
      go_wp2_with (go_at_call 57; refine KN.out.mono ?_; rintro e' w1 ⟨rfl, hw1'⟩; obtain rfl : WA = w1 := hw1'.symm)
      refine wp_region_noPanic (wp_region_held_drew (S := (fun _ => True)) (by kernel_rfl) ?_ (fun hHeld => ?_))
      · trivial
      refine wpAnyH_take (i := 0) (oi := { dst := some 12, op := Op.move (Operand.tmp 6), type := 83, pos := "journal.go:113", after := #[], guard := none }) (v := ?_) rfl (by kernel_rfl) (by kernel_rfl) (by kernel_rfl) (fun _ _ _ h => h) (Or.inl ⟨by rfl, ?_⟩) (by assumption) ?_
      rotate_left
      · intro w hSw; (try dsimp only at hSw); go_simp <;> with_reducible rfl
      simp only [Act.put, List.setIfInBounds_toArray, List.set_cons_zero, List.set_cons_succ]
      refine wpAnyH_take (i := 1) (oi := { dst := some 13, op := Op.binOp BinOp.gtr 83 (Operand.tmp 12) (Operand.const (Value.int IntKind.u64 131072)) 83, type := 4, pos := "journal.go:113", after := #[{ on := 0, ground := Ground.data }], guard := none }) (v := ?_) rfl (by kernel_rfl) (by kernel_rfl) (by kernel_rfl) (fun _ _ _ h => h) (Or.inl ⟨by rfl, ?_⟩) (by assumption) ?_
      rotate_left
      · intro w hSw; (try dsimp only at hSw); go_simp <;> with_reducible rfl
      simp only [Act.put, List.setIfInBounds_toArray, List.set_cons_zero, List.set_cons_succ]
      refine wpAnyH_take (i := 2) (oi := { dst := some 14, op := Op.move (Operand.tmp 13), type := 4, pos := "journal.go:113", after := #[{ on := 1, ground := Ground.data }], guard := none }) (v := ?_) rfl (by kernel_rfl) (by kernel_rfl) (by kernel_rfl) (fun _ _ _ h => h) (Or.inl ⟨by rfl, ?_⟩) (by assumption) ?_
      rotate_left
      · intro w hSw; (try dsimp only at hSw); go_simp <;> with_reducible rfl
      simp only [Act.put, List.setIfInBounds_toArray, List.set_cons_zero, List.set_cons_succ]
      refine wpAnyH_take (i := 3) (oi := { dst := some 15, op := Op.move (Operand.tmp 6), type := 83, pos := "journal.go:113", after := #[{ on := 2, ground := Ground.guard }], guard := some (2, false) }) (v := ?_) rfl (by kernel_rfl) (by kernel_rfl) (by kernel_rfl) (fun _ _ _ h => h) (Or.inl ⟨by rfl, ?_⟩) (by assumption) ?_
      rotate_left
      · intro w hSw; (try dsimp only at hSw); go_simp <;> with_reducible rfl
      simp only [Act.put, List.setIfInBounds_toArray, List.set_cons_zero, List.set_cons_succ]
      refine wpAnyH_take (i := 4) (oi := { dst := some 16, op := Op.convert 83 3 (Operand.tmp 15), type := 3, pos := "journal.go:113", after := #[{ on := 3, ground := Ground.data }, { on := 2, ground := Ground.guard }], guard := some (2, false) }) (v := ?_) rfl (by kernel_rfl) (by kernel_rfl) (by kernel_rfl) (fun _ _ _ h => h) (Or.inl ⟨by rfl, ?_⟩) (by assumption) ?_
      rotate_left
      · intro w hSw; (try dsimp only at hSw); go_simp <;> with_reducible rfl
      simp only [Act.put, List.setIfInBounds_toArray, List.set_cons_zero, List.set_cons_succ]
      refine wpAnyH_take (i := 5) (oi := { dst := some 17, op := Op.move (Operand.tmp 0), type := 29, pos := "journal.go:113", after := #[{ on := 2, ground := Ground.guard }], guard := some (2, false) }) (v := ?_) rfl (by kernel_rfl) (by kernel_rfl) (by kernel_rfl) (fun _ _ _ h => h) (Or.inl ⟨by rfl, ?_⟩) (by assumption) ?_
      rotate_left
      · intro w hSw; (try dsimp only at hSw); go_simp <;> with_reducible rfl
      simp only [Act.put, List.setIfInBounds_toArray, List.set_cons_zero, List.set_cons_succ]
      refine wpAnyH_ready (rs := [6]) (by kernel_rfl) (by simp) ?_
      refine AllReadyH.cons (o := { dst := some 18, op := Op.call { callee := Callee.value (Operand.func 29), args := #[Operand.tmp 17], argTypes := #[29] }, type := 3, pos := "journal.go:113", after := #[{ on := 5, ground := Ground.data }, { on := 2, ground := Ground.chain }, { on := 2, ground := Ground.guard }], guard := some (2, false) }) rfl (fun K hK => ?_) AllReadyH.nil
      go_simp
      go_at_call 29; refine KR.out.mono ?_; rintro e' w2 ⟨rfl, hb2⟩; (try dsimp only)
      refine hK.out _ _ ?_ (fun hHeld => ?_)
      · trivial
      clear hK K
      try simp only [Act.put, List.setIfInBounds_toArray, List.set_cons_zero, List.set_cons_succ]
      refine wpAnyH_take (i := 7) (oi := { dst := some 19, op := Op.binOp BinOp.gtr 3 (Operand.tmp 16) (Operand.tmp 18) 3, type := 4, pos := "journal.go:113", after := #[{ on := 4, ground := Ground.data }, { on := 6, ground := Ground.data }, { on := 2, ground := Ground.guard }], guard := some (2, false) }) (v := ?_) rfl (by kernel_rfl) (by kernel_rfl) (by kernel_rfl) (fun _ _ _ h => h) (Or.inl ⟨by rfl, ?_⟩) (by assumption) ?_
      rotate_left
      · intro w hSw; (try dsimp only at hSw); go_simp <;> with_reducible rfl
      simp only [Act.put, List.setIfInBounds_toArray, List.set_cons_zero, List.set_cons_succ]
      refine wpAnyH_take (i := 8) (oi := { dst := some 20, op := Op.pick (Operand.tmp 14) (Operand.const (Value.bool true)) (Operand.tmp 19), type := 4, pos := "journal.go:113", after := #[{ on := 2, ground := Ground.data }, { on := 7, ground := Ground.data }], guard := none }) (v := ?_) rfl (by kernel_rfl) (by kernel_rfl) (by kernel_rfl) (fun _ _ _ h => h) (Or.inl ⟨by rfl, ?_⟩) (by assumption) ?_
      rotate_left
      · intro w hSw; (try dsimp only at hSw); go_simp <;> with_reducible rfl
      simp only [Act.put, List.setIfInBounds_toArray, List.set_cons_zero, List.set_cons_succ]
      refine wpAnyH_take (i := 9) (oi := { dst := some 21, op := Op.move (Operand.tmp 20), type := 4, pos := "journal.go:113", after := #[{ on := 8, ground := Ground.data }, { on := 6, ground := Ground.chain }], guard := none }) (v := ?_) rfl (by kernel_rfl) (by kernel_rfl) (by kernel_rfl) (fun _ _ _ h => h) (Or.inl ⟨by rfl, ?_⟩) (by assumption) ?_
      rotate_left
      · intro w hSw; (try dsimp only at hSw); go_simp <;> with_reducible rfl
      simp only [Act.put, List.setIfInBounds_toArray, List.set_cons_zero, List.set_cons_succ]
      refine wpAnyH_take (i := 10) (oi := { dst := some 22, op := Op.load 79 (Operand.tmp 3), type := 79, pos := "journal.go:113", after := #[{ on := 9, ground := Ground.guard }], guard := some (9, false) }) (v := undef) rfl (by kernel_rfl) (by kernel_rfl) (by kernel_rfl) (fun _ _ _ h => h) (Or.inr ⟨by rfl, rfl⟩) (by assumption) ?_
      simp only [Act.put, List.setIfInBounds_toArray, List.set_cons_zero, List.set_cons_succ]
      refine wpAnyH_take (i := 11) (oi := { dst := some 23, op := Op.move (Operand.tmp 6), type := 83, pos := "journal.go:113", after := #[{ on := 9, ground := Ground.guard }], guard := some (9, false) }) (v := undef) rfl (by kernel_rfl) (by kernel_rfl) (by kernel_rfl) (fun _ _ _ h => h) (Or.inr ⟨by rfl, rfl⟩) (by assumption) ?_
      simp only [Act.put, List.setIfInBounds_toArray, List.set_cons_zero, List.set_cons_succ]
      refine wpAnyH_take (i := 12) (oi := { dst := some 24, op := Op.convert 83 3 (Operand.tmp 23), type := 3, pos := "journal.go:113", after := #[{ on := 11, ground := Ground.data }, { on := 9, ground := Ground.guard }], guard := some (9, false) }) (v := undef) rfl (by kernel_rfl) (by kernel_rfl) (by kernel_rfl) (fun _ _ _ h => h) (Or.inr ⟨by rfl, rfl⟩) (by assumption) ?_
      simp only [Act.put, List.setIfInBounds_toArray, List.set_cons_zero, List.set_cons_succ]
      refine wpAnyH_take (i := 13) (oi := { dst := some 25, op := Op.move (Operand.tmp 0), type := 29, pos := "journal.go:113", after := #[{ on := 9, ground := Ground.guard }], guard := some (9, false) }) (v := undef) rfl (by kernel_rfl) (by kernel_rfl) (by kernel_rfl) (fun _ _ _ h => h) (Or.inr ⟨by rfl, rfl⟩) (by assumption) ?_
      simp only [Act.put, List.setIfInBounds_toArray, List.set_cons_zero, List.set_cons_succ]
      refine wpAnyH_take (i := 14) (oi := { dst := some 26, op := Op.nilCheck (Operand.tmp 25), type := 0, pos := "journal.go:113", after := #[{ on := 13, ground := Ground.data }, { on := 9, ground := Ground.guard }], guard := some (9, false) }) (v := undef) rfl (by kernel_rfl) (by kernel_rfl) (by kernel_rfl) (fun _ _ _ h => h) (Or.inr ⟨by rfl, rfl⟩) (by assumption) ?_
      simp only [Act.put, List.setIfInBounds_toArray, List.set_cons_zero, List.set_cons_succ]
      refine wpAnyH_take (i := 15) (oi := { dst := some 27, op := Op.fieldAddr 74 (Operand.tmp 26) 2, type := 0, pos := "journal.go:113", after := #[{ on := 14, ground := Ground.data }, { on := 9, ground := Ground.guard }], guard := some (9, false) }) (v := undef) rfl (by kernel_rfl) (by kernel_rfl) (by kernel_rfl) (fun _ _ _ h => h) (Or.inr ⟨by rfl, rfl⟩) (by assumption) ?_
      simp only [Act.put, List.setIfInBounds_toArray, List.set_cons_zero, List.set_cons_succ]
      refine wpAnyH_take (i := 16) (oi := { dst := some 28, op := Op.load 3 (Operand.tmp 27), type := 3, pos := "journal.go:113", after := #[{ on := 15, ground := Ground.data }, { on := 9, ground := Ground.guard }], guard := some (9, false) }) (v := undef) rfl (by kernel_rfl) (by kernel_rfl) (by kernel_rfl) (fun _ _ _ h => h) (Or.inr ⟨by rfl, rfl⟩) (by assumption) ?_
      simp only [Act.put, List.setIfInBounds_toArray, List.set_cons_zero, List.set_cons_succ]
      refine wpAnyH_take (i := 17) (oi := { dst := some 29, op := Op.binOp BinOp.add 3 (Operand.tmp 28) (Operand.const (Value.int IntKind.i64 1)) 3, type := 3, pos := "journal.go:113", after := #[{ on := 16, ground := Ground.data }, { on := 9, ground := Ground.guard }], guard := some (9, false) }) (v := undef) rfl (by kernel_rfl) (by kernel_rfl) (by kernel_rfl) (fun _ _ _ h => h) (Or.inr ⟨by rfl, rfl⟩) (by assumption) ?_
      simp only [Act.put, List.setIfInBounds_toArray, List.set_cons_zero, List.set_cons_succ]
      refine wpAnyH_take (i := 18) (oi := { dst := some 30, op := Op.call { callee := Callee.value (Operand.func 63), args := #[Operand.tmp 24, Operand.tmp 29], argTypes := #[3, 3] }, type := 79, pos := "journal.go:113", after := #[{ on := 12, ground := Ground.data }, { on := 17, ground := Ground.data }, { on := 9, ground := Ground.chain }, { on := 9, ground := Ground.guard }], guard := some (9, false) }) (v := undef) rfl (by kernel_rfl) (by kernel_rfl) (by kernel_rfl) (fun _ _ _ h => h) (Or.inr ⟨by rfl, rfl⟩) (by assumption) ?_
      simp only [Act.put, List.setIfInBounds_toArray, List.set_cons_zero, List.set_cons_succ]
      refine wpAnyH_take (i := 19) (oi := { dst := some 31, op := Op.binOp BinOp.neq 79 (Operand.tmp 22) (Operand.tmp 30) 79, type := 4, pos := "journal.go:113", after := #[{ on := 10, ground := Ground.data }, { on := 18, ground := Ground.data }, { on := 9, ground := Ground.guard }], guard := some (9, false) }) (v := undef) rfl (by kernel_rfl) (by kernel_rfl) (by kernel_rfl) (fun _ _ _ h => h) (Or.inr ⟨by rfl, rfl⟩) (by assumption) ?_
      simp only [Act.put, List.setIfInBounds_toArray, List.set_cons_zero, List.set_cons_succ]
      refine wpAnyH_take (i := 20) (oi := { dst := some 32, op := Op.pick (Operand.tmp 21) (Operand.const (Value.bool true)) (Operand.tmp 31), type := 4, pos := "journal.go:113", after := #[{ on := 9, ground := Ground.data }, { on := 19, ground := Ground.data }], guard := none }) (v := ?_) rfl (by kernel_rfl) (by kernel_rfl) (by kernel_rfl) (fun _ _ _ h => h) (Or.inl ⟨by rfl, ?_⟩) (by assumption) ?_
      rotate_left
      · intro w hSw; (try dsimp only at hSw); go_simp <;> with_reducible rfl
      simp only [Act.put, List.setIfInBounds_toArray, List.set_cons_zero, List.set_cons_succ]
      refine wpAnyH_done (by kernel_rfl) ?_ _
      refine NoPanic.normal ?_
      go_wp2
      go_ret2
      exact ⟨hB1.out.drew.trans (hb2.mono hB1.out.drew.size), .inl ⟨rfl, hO⟩⟩
    · have hw2 : IntKind.i64.wrap ((J.c : Int) + 1) = (J.c : Int) + 1 := wrap_id (by omega) (by omega)
      have hg3 : decide (roomI n J.e < (m : Int)) = false := decide_eq_false (by rw [hrg]; exact hfar)
      have KT := hide' (fun V => titleF m (J.c + 1) V (by omega) (by omega))
      rw [show ((J.c + 1 : Nat) : Int) = (J.c : Int) + 1 by omega] at KT
      have haq := arr_eq T (titleB m (J.c + 1)) hT'.out (titleB_len _ _)
      have hl0 : WA.drew.rangeAt W.heap.size 0 (cellsB T) := BkT.range (show BkT WA.drew 79 W.heap.size T from hA.out)
      have hU := Try.underlying79
      have hI : (Try.prog.info? 79).map (·.size) = some (cellsB T).length := by rw [cellsB_len, hT'.out]; exact blockS
      have hup := hide' (fun V (hV : Below WA.drew.heap.size WA.drew V) => (BkT.below (show BkT WA.drew 79 W.heap.size T from hA.out) hV (blk_lt hA.out)).range)
      have hup2 := hide' (fun V (hV : Below WA.drew.heap.size WA.drew V) => (JnA.below (show JnA WA.drew gj g J from hj1.out) hV (blk_lt hj1.out)).cells.2.2.1)
      clear hrg
      generalize roomI n J.e = rm at *
      generalize titleB m (J.c + 1) = TT at *
      go_enter Try.func72, Try.ntmps72
      go_wp2_with (go_at_call 57; refine KN.out.mono ?_; rintro e' w1 ⟨rfl, hw1'⟩; obtain rfl : WA = w1 := hw1'.symm)
      by_cases hTT : T = TT
      · have haq' : ∀ w, (Op.equalIn 10000 79 (.agg (cellsB T).toArray) (.agg (cellsB TT).toArray)).run Try.prog w = .ok true w := fun w => by rw [haq w]; simp [hTT]
        have hTT' := hide' hTT
        clear haq hTT
        go_region_held3 (fun V => V.rangeAt W.heap.size 0 (cellsB T) ∧ V.cell? ⟨gj, 2, none⟩ = some (.int .i64 (J.c : Int))) (first | (exact ⟨hl0, c2⟩) | (exact ⟨hup.out _ (hb1.trans (hb2.mono hb1.size)), hup2.out _ (hb1.trans (hb2.mono hb1.size))⟩) | (exact ⟨hup.out _ hb1, hup2.out _ hb1⟩)) (first | (go_at_call 63; refine (KT.out _).mono ?_; rintro e' w2 ⟨rfl, hb2⟩) | (go_at_call 29; refine KR.out.mono ?_; rintro e' w1 ⟨rfl, hb1⟩))
        have hb12 : Hid (Below WA.drew.heap.size WA.drew w2) := hb1.trans (hb2.mono hb1.size)
        have hbW : Hid (Below W.heap.size W w2) := hB1.out.drew.trans (hb12.out.mono hB1.out.drew.size)
        have hj2 : Hid (JnA w2 gj g J) := JnA.below (show JnA WA.drew gj g J from hj1.out) hb12.out (blk_lt hj1.out)
        have hd2 : Hid (DkA w2 g gb D) := DkA.below (show DkA WA.drew g gb D from hd1.out) hb12.out (Nat.le_refl _)
        have hXl := hide' (recOf_len (m := m) hk (Nat.lt_of_not_le hfar))
        have hpe := hide' (part_eq D.bytes J.e m)
        have hyes : Hid ((∀ i, i < spn m → blkB D.bytes (J.e + 1 + i) = pieceB (recOf D.bytes J.e m) i) → O = some (recOf D.bytes J.e m)) := oyes.out (by omega) (by omega) hTT'.out
        have hspl : Hid (∀ i, i < spn m → 16 * i < m) := fun i hi => spn_lt hi
        have hspg : Hid (m ≤ 16 * spn m) := by unfold Hid spn; omega
        have hspN : J.e + 1 + spn m < n := Nat.lt_of_not_le hfar
        have hm1 : m ≤ 131072 := by omega
        clear hup hup2 hl0 haq' KT KR KN hg2 hg2' hg3 hw1 hI hb1 hb2 hb12 hj1 hd1 hA c0 c1 c2 c3 c4 oyes onot obig ofar hfar hbig hB1 hWA
        generalize recOf D.bytes J.e m = X at *
        generalize hks : spn m = k at *
        have KS := hide' (fun V => sizeF (W := V) (oa := some ⟨w2.heap.size, 0, none⟩) (m := m) (cap := m) (by omega))
        rw [hks] at KS
        clear hks
        go_upto_block 0 with (first | (at_make; refine make_bytesU rfl _ _ rfl m rfl rfl (by omega) ?_; intro w3 hb3 hw3; have hR3 : Hid (Rl W gj g gb w2.heap.size m J D X 0 w3) := ⟨hj2.out.below hw3 (blk_lt hj2.out), hd2.out.below hw3 (Nat.le_refl _), by rw [rcI_zero]; exact hb3, hbW.out.size, hbW.out.trans (hw3.mono hbW.out.size)⟩; clear hb3 hw3) | (go_at_call 61; refine (KS.out _).mono ?_; rintro e' w4 ⟨rfl, hw4⟩; obtain rfl : w3 = w4 := hw4.symm))
        clear hj2 hd2 KS
        generalize w2.heap.size = gr at *
        go_wp2_with fail
        go_loopw [8, 9, 37] (fun _ _ iv wr => ∃ i : Nat, iv = .int .i64 (i : Int) ∧ i ≤ k ∧ Hid (Rl W gj g gb gr m J D X i wr) ∧ Hid (∀ j, j < i → blkB D.bytes (J.e + 1 + j) = pieceB X j)) (fun _ _ iv _ => ((k : Int) - intOf iv).toNat)
        case atStart => exact ⟨0, rfl, by omega, hR3, fun j hj => by omega⟩
        case round =>
          clear hR3
          obtain ⟨i, rfl, hi, hQ, hall⟩ := hrel
          by_cases hik : i < k
          · have hik' : (i : Int) < (k : Int) := by omega
            have h16 := hspl.out i hik
            have zJ := zeroJ
            have c1 := hQ.out.jn.cells.2.1
            have hPl := hide' (blkB_len (b := J.e + 1 + i) hk (by omega))
            have KRd := hide' (readJ hQ.out.jn hQ.out.dk hk hn (J.e + 1 + i) (by omega) hp)
            rw [show ((J.e + 1 + i : Nat) : Int) = (J.e : Int) + 1 + (i : Int) by omega] at KRd
            have hpi := hide' (hpe.out i)
            have hOn := hide' (opad.out i hik)
            have hall' : Hid (blkB D.bytes (J.e + 1 + i) = pieceB X i → ∀ j, j < i + 1 → blkB D.bytes (J.e + 1 + j) = pieceB X j) := fun h j hj => by
              rcases Nat.lt_or_ge j i with h1 | h1
              · exact hall.out j h1
              · obtain rfl : j = i := by omega
                exact h
            generalize blkB D.bytes (J.e + 1 + i) = P at *
            go_wp2_with fail
            refine KRd.out.mono ?_
            rintro e' w5 ⟨rfl, hb5⟩
            have hQ5 := hide' (hQ.out.up hb5)
            have hBn := hide' (bkt_new w5 79 z16)
            have hQ6 := hide' (hQ5.out.up ((Below.refl w5.heap.size w5).alloc (Nat.le_refl _) (.cells (cellsB z16).toArray 79)))
            have hgx : Hid (gr ≠ w5.heap.size ∧ W.heap.size ≤ w5.heap.size) := by
              have h1 := blk_lt hQ5.out.rc
              have h2 := hQ5.out.be.size
              exact ⟨by omega, h2⟩
            clear hb5 KRd hQ hQ5
            go_wp2_with (refine storeJ rfl (.tmp 9) (.tmp 48) rfl w5.heap.size _ z16 P rfl rfl hBn.out hPl.out rfl ?_; intro w6 h6 k6)
            generalize w5.heap.size = gx at *
            have hQ7 := hide' (hQ6.out.kp k6.out hgx.out.2 hlj hlg hlb hgx.out.1)
            clear hQ6 hBn k6
            have hw1 : IntKind.i64.wrap ((i : Int) * 16) = (i : Int) * 16 := wrap_id (by omega) (by omega)
            have hv2 : ((i : Int) * 16).toNat = i * 16 := by omega
            have hl0 : (0 : Int) ≤ (i : Int) * 16 := by omega
            have hl1 : (i : Int) * 16 ≤ (m : Int) := by omega
            have hl3 : (m : Int) ≤ (m : Int) := by omega
            have hl4 : (m = i * 16) = False := eq_false (by omega)
            have hMl : Hid ((P.take (min 16 (m - 16 * i))).length = Nat.min 16 (m - i * 16)) := by
              show _ = min _ _
              rw [List.length_take, hPl.out]
              omega
            have hM : Hid (∀ (j : Nat) (z : Nat), (P.take (min 16 (m - 16 * i)))[j]? = some z → ∃ g' o', (some ⟨gx, 0, none⟩ : Option Addr) = some ⟨g', o', none⟩ ∧ w6.drew.cell? ⟨g', o' + j, none⟩ = some (.int .u8 (z : Int))) := fun j z hj => by
              rw [List.getElem?_take] at hj
              split at hj
              · refine ⟨_, _, rfl, ?_⟩
                rw [Nat.zero_add]
                exact h6.out.cell hj
              · cases hj
            have hfit : Hid (i * 16 + (P.take (min 16 (m - 16 * i))).length ≤ (rcI X m i).length) := by
              unfold Hid
              rw [rcI_len i hXl.out, List.length_take, hPl.out]
              omega
            have hrs : Hid (splice (rcI X m i) (i * 16) (P.take (min 16 (m - 16 * i))) = rcI X m (i + 1)) := by
              unfold Hid
              rw [hpi.out, show i * 16 = 16 * i by omega]
              exact rcI_step hXl.out h16
            have hQ7d : Hid (Rl W gj g gb gr m J D X i w6.drew) := hQ7.out.up (Below.refl _ w6).drew
            have h6d : Hid (BkT w6.drew 79 gx P) := h6.out
            generalize P.take (min 16 (m - 16 * i)) = M at *
            go_region_held3 (fun _ => True) (first | trivial) (first | (refine copyW (.tmp 52) (.tmp 53) rfl gr (i * 16) (m - i * 16) (m - i * 16) 16 16 (some ⟨gx, 0, none⟩) rfl rfl _ (rcI X m i) M hQ7d.out.rc hMl.out hM hfit.out ?_; intro w7 h7 k7))
            rw [hrs.out] at h7
            have hQ8 := hide' (hQ7d.out.row k7.out hlj hlg hlb h7.out)
            have h8 := hide' (h6d.out.kp k7.out hgx.out.1.symm hgx.out.1.symm)
            clear hM hMl hfit hrs hQ7d h6d h7 k7 hQ7 h6 hw1 hv2 hl0 hl1 hl3 hl4 hpi
            have hQ9 := hide' (hQ8.out.up (Below.refl _ w7).drew)
            have KPc := hide' (pieceF (RowC.of_bk (o := 0) (cap := m) (M := rcI X m (i + 1)) (show BkB w7.drew gr (rcI X m (i + 1)) from hQ9.out.rc) (fun j z hz => by rw [Nat.zero_add]; exact hz) (rcI_len _ hXl.out).symm (Nat.le_refl _)) i (by rw [rcI_len _ hXl.out]; exact h16) (by rw [rcI_len _ hXl.out]; omega))
            rw [piece_rcI hXl.out] at KPc
            have haq := arr_eq P (pieceB X i) hPl.out (pieceB_len _ _)
            have hrg0 : w7.drew.rangeAt gx 0 (cellsB P) := BkT.range (show BkT w7.drew 79 gx P from h8.out)
            have hrg1 := hide' (fun V (hV : Below w7.drew.heap.size w7.drew V) => (BkT.below (show BkT w7.drew 79 gx P from h8.out) hV (blk_lt h8.out)).range)
            have hU := Try.underlying79
            have hI : (Try.prog.info? 79).map (·.size) = some (cellsB P).length := by rw [cellsB_len, hPl.out]; exact blockS
            generalize pieceB X i = PP at *
            go_wp2
            by_cases hPP : P = PP
            · have haq' : ∀ w, (Op.equalIn 10000 79 (.agg (cellsB P).toArray) (.agg (cellsB PP).toArray)).run Try.prog w = .ok true w := fun w => by rw [haq w]; simp [hPP]
              have hall2 := hide' (hall'.out hPP)
              clear haq hPP
              go_region_held3 (fun V => V.rangeAt gx 0 (cellsB P)) (first | (exact hrg0) | (exact hrg1.out _ hb9)) (first | (go_at_call 62; refine KPc.out.mono ?_; rintro e' w9 ⟨rfl, hb9⟩))
              have hQ10 := hide' (hQ9.out.up hb9)
              clear hb9
              go_wp2
              exact ⟨⟨i + 1, by go_num, by omega, hQ10, hall2⟩, by simp [intOf]; omega⟩
            · have haq' : ∀ w, (Op.equalIn 10000 79 (.agg (cellsB P).toArray) (.agg (cellsB PP).toArray)).run Try.prog w = .ok false w := fun w => by rw [haq w]; simp [hPP]
              have hO := hide' (hOn.out hPP)
              clear haq hPP
              go_region_held3 (fun V => V.rangeAt gx 0 (cellsB P)) (first | (exact hrg0) | (exact hrg1.out _ hb9)) (first | (go_at_call 62; refine KPc.out.mono ?_; rintro e' w9 ⟨rfl, hb9⟩))
              have hQ10 := hide' (hQ9.out.up hb9)
              clear hb9
              go_wp2
              go_ret2
              exact ⟨hQ10.out.be, .inl ⟨rfl, hO⟩⟩
          · have hik' : ¬ (i : Int) < (k : Int) := by omega
            obtain rfl : i = k := by omega
            have hO := hide' (hyes.out hall.out)
            have hrc : Hid (BkB wr gr X) := by
              have := hQ.out.rc
              rw [rcI_all hXl.out hspg.out] at this
              exact this
            go_wp2
            go_ret2
            refine ⟨hQ.out.be, .inr ⟨X, gr, ?_, hO, hrc, hQ.out.ge⟩⟩
            rw [hXl.out]
            rfl
      · have haq' : ∀ w, (Op.equalIn 10000 79 (.agg (cellsB T).toArray) (.agg (cellsB TT).toArray)).run Try.prog w = .ok false w := fun w => by rw [haq w]; simp [hTT]
        have hO := hide' (onot.out hTT)
        clear haq hTT
        go_region_held3 (fun V => V.rangeAt W.heap.size 0 (cellsB T) ∧ V.cell? ⟨gj, 2, none⟩ = some (.int .i64 (J.c : Int))) (first | (exact ⟨hl0, c2⟩) | (exact ⟨hup.out _ (hb1.trans (hb2.mono hb1.size)), hup2.out _ (hb1.trans (hb2.mono hb1.size))⟩) | (exact ⟨hup.out _ hb1, hup2.out _ hb1⟩)) (first | (go_at_call 63; refine (KT.out _).mono ?_; rintro e' w2 ⟨rfl, hb2⟩) | (go_at_call 29; refine KR.out.mono ?_; rintro e' w1 ⟨rfl, hb1⟩))
        have hb12 : Hid (Below WA.drew.heap.size WA.drew w2) := hb1.trans (hb2.mono hb1.size)
        go_wp2
        go_ret2
        exact ⟨hB1.out.drew.trans (hb12.out.mono hB1.out.drew.size), .inl ⟨rfl, hO⟩⟩
end Go.Proofs.Ytmhbidnpfefjpaa

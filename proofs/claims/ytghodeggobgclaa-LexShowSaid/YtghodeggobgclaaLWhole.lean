/- whole, asScanned: what they answer. -/
import Derived.Test.YtghodeggobgclaaLCut
import Derived.Test.YtghodeggobgclaaLKeep
namespace Go.Proofs.Ytghodeggobgclaa
open Go.RowKit Go.Shelf
/-- Is it what is cut off its own text? -/
def wholeT (t : Tok) : Bool :=
  if t.kind = 4 then decide (t.text = []) && decide (t.num = 0)
  else match t.text with
    | [] => false
    | c :: r => match cutT (c :: r) with
      | .error _ => false
      | .ok (k, n, v) => decide (k = t.kind) && (decide ((c :: r).take n = c :: r) && decide (v = t.num))
theorem bs_isEmpty (l : List UInt8) : ((bs l).toList == []) = decide (l = []) := by
  rw [ByteArray.toList_eq, bs_list, Bool.eq_iff_iff]; simp
theorem bs_beq (l m : List UInt8) : ((bs l).toList == (bs m).toList) = decide (l = m) := by
  rw [ByteArray.toList_eq, ByteArray.toList_eq, bs_list, bs_list, Bool.eq_iff_iff]; simp
theorem int_beq (a b : Int) : decide (a = b) = (a == b) := by rw [Bool.eq_iff_iff]; simp
theorem ba_empty (l : List UInt8) : (bs l).toList.isEmpty = decide (l = []) := by
  rw [ByteArray.toList_eq, bs_list]; cases l <;> rfl
theorem cut_err0 {t : List UInt8} {e : Int} (h : cutT t = .error e) : e ≠ 0 := by
  unfold cutT at h
  cases t with
  | nil => cases h; decide
  | cons c r =>
    simp only at h
    split at h
    · split at h
      · cases h; decide
      · cases h
    · split at h
      · split at h
        · cases h; decide
        · split at h
          · cases h; decide
          · cases h
      · split at h
        · cases h
        · cases h; decide
set_option maxRecDepth 100000 in
set_option maxHeartbeats 8000000 in
theorem wholeF (K : Kd) (t : Tok) (w : World) (hk : KOk K w) (hm : t.text.length ≤ 9223372036854775807) :
    Calls Try.prog 64 #[K.v, tv t] w fun e w' => e = .returned (.bool (wholeT t)) ∧ Below w.heap.size w w' := by
  by_cases h4 : t.kind = 4
  · have hr : Hid (wholeT t = ((bs t.text).toList.isEmpty && (t.num == 0))) := by show _ = _; unfold wholeT; rw [if_pos h4, ba_empty, int_beq]
    have q4 : (t.kind == 4) = true := by simpa using h4
    rw [hr.out]
    clear hr h4 hk
    unfold Kd.v tv
    cases he : (bs t.text).toList.isEmpty
    · generalize bs t.text = sx at *
      generalize t.kind = kd at *
      go_enter Try.func64, Try.ntmps64
      go_wp2
      go_ret
      exact ⟨by simp, ((Below.refl _ w).alloc (Nat.le_refl _) _).alloc (by simp) _⟩
    · generalize bs t.text = sx at *
      generalize t.kind = kd at *
      go_enter Try.func64, Try.ntmps64
      go_wp2
      go_ret
      exact ⟨by simp, ((Below.refl _ w).alloc (Nat.le_refl _) _).alloc (by simp) _⟩
  · have q4 : (t.kind == 4) = false := by simpa using h4
    cases htx : t.text with
    | nil =>
      have hr : Hid (wholeT t = false) := by show _ = _; unfold wholeT; rw [if_neg h4, htx]
      rw [hr.out]
      have he := ba_empty t.text
      rw [htx] at he
      have he' : (bs []).toList.isEmpty = true := he
      unfold Kd.v tv
      rw [htx]
      clear hr h4 hk he htx
      generalize bs [] = sx at *
      generalize t.kind = kd at *
      go_enter Try.func64, Try.ntmps64
      go_wp2
      go_ret
      exact ⟨rfl, ((Below.refl _ w).alloc (Nat.le_refl _) _).alloc (by simp) _⟩
    | cons c r =>
      have he := ba_empty t.text
      rw [htx] at he hm
      have he' : (bs (c :: r)).toList.isEmpty = false := he
      have KC : Hid (∀ W, Below w.heap.size w W → Calls Try.prog 72 #[K.v, .string (bs (c :: r))] W fun e w' => e = .returned (cutV (c :: r)) ∧ Below W.heap.size W w') := fun W hb => cutF K c r W (hk.later hb) hm
      have KB0 : Hid (kblk K ((w.alloc (.cells #[fv K.g0 K.l0, fv K.g1 K.l1, fv K.g2 K.l2, fv K.g3 K.l3, fv K.g4 K.l4, fv K.g5 K.l5, fv K.g6 K.l6, fv K.g7 K.l7] 88)).alloc (.cells #[.int .i64 t.kind, .string (bs (c :: r)), .int .i64 t.num, .int .i64 t.line, .int .i64 t.col] 35)) w.heap.size) := by
        show _ = _
        rw [Below.heap_alloc _ _ _ (by simp)]
        exact heap_alloc_new w _
      have TB0 : Hid (tbox ((w.alloc (.cells #[fv K.g0 K.l0, fv K.g1 K.l1, fv K.g2 K.l2, fv K.g3 K.l3, fv K.g4 K.l4, fv K.g5 K.l5, fv K.g6 K.l6, fv K.g7 K.l7] 88)).alloc (.cells #[.int .i64 t.kind, .string (bs (c :: r)), .int .i64 t.num, .int .i64 t.line, .int .i64 t.col] 35)) (w.heap.size + 1) (.int .i64 t.kind) (.string (bs (c :: r))) (.int .i64 t.num) (.int .i64 t.line) (.int .i64 t.col)) := by
        have := heap_alloc_new (w.alloc (.cells #[fv K.g0 K.l0, fv K.g1 K.l1, fv K.g2 K.l2, fv K.g3 K.l3, fv K.g4 K.l4, fv K.g5 K.l5, fv K.g6 K.l6, fv K.g7 K.l7] 88)) (.cells #[.int .i64 t.kind, .string (bs (c :: r)), .int .i64 t.num, .int .i64 t.line, .int .i64 t.col] 35)
        rwa [World.size_alloc] at this
      cases hcut : cutT (c :: r) with
      | error er =>
        have hr : Hid (wholeT t = false) := by show _ = _; unfold wholeT; rw [if_neg h4, htx]; simp only [hcut]
        have hv : cutV (c :: r) = .tuple #[.agg #[.int .i64 0, .string ⟨#[]⟩, .int .i64 0, .int .i64 0, .int .i64 0], .int .i64 er] := by unfold cutV; rw [hcut]; rfl
        have q0 : (er == 0) = false := by simpa using cut_err0 hcut
        rw [hr.out]
        rw [hv] at KC
        unfold Kd.v tv at *
        rw [htx]
        clear hr h4 hk he htx hcut hv hm
        generalize bs (c :: r) = sx at *
        generalize t.kind = kd at *
        obtain ⟨k0, k1, k2, k3, k4, k5, k6, k7⟩ := kblk_cells KB0.out
        obtain ⟨t0, t1, t2, -, -⟩ := tbox_cells TB0.out
        go_enter Try.func64, Try.ntmps64
        go_wp2_with fail
        refine (KC.out _ (((Below.refl _ w).alloc (Nat.le_refl _) _).alloc (by simp) _)).mono ?_
        rintro e w1 ⟨rfl, hb1⟩
        have B1 : Hid (Below w.heap.size w w1) := (((Below.refl _ w).alloc (Nat.le_refl _) _).alloc (by simp) _).trans (hb1.mono (by simp; omega))
        have TB1 : tbox w1 (w.heap.size + 1) (.int .i64 kd) (.string sx) (.int .i64 t.num) (.int .i64 t.line) (.int .i64 t.col) := (hb1.block _ (by simp)).trans TB0.out
        have hz1 : Hid (w.heap.size + 1 < w1.heap.size) := by have := hb1.size; simp at this; show _ < _; omega
        clear t0 t1 t2
        obtain ⟨t0, t1, t2, -, -⟩ := tbox_cells TB1
        clear hb1 KC TB1 KB0 TB0 k0 k1 k2 k3 k4 k5 k6 k7
        go_wp2_with fail
        go_ret
        exact ⟨rfl, B1.out.alloc B1.out.size _⟩
      | ok x =>
        obtain ⟨k, n, v⟩ := x
        have hr : Hid (wholeT t = ((k == t.kind) && (((bs ((c :: r).take n)).toList == (bs (c :: r)).toList) && (v == t.num)))) := by
          show _ = _
          unfold wholeT
          rw [if_neg h4, htx]
          simp only [hcut]
          rw [int_beq, int_beq, bs_beq]
        have hv : cutV (c :: r) = .tuple #[.agg #[.int .i64 k, .string (bs ((c :: r).take n)), .int .i64 v, .int .i64 0, .int .i64 0], .int .i64 0] := by unfold cutV; rw [hcut]; rfl
        rw [hr.out]
        rw [hv] at KC
        unfold Kd.v tv at *
        rw [htx]
        clear hr h4 hk he htx hcut hv hm
        generalize bs ((c :: r).take n) = sn at *
        generalize bs (c :: r) = sx at *
        generalize t.kind = kd at *
        obtain ⟨k0, k1, k2, k3, k4, k5, k6, k7⟩ := kblk_cells KB0.out
        obtain ⟨t0, t1, t2, -, -⟩ := tbox_cells TB0.out
        cases hb1' : (k == kd)
        · go_enter Try.func64, Try.ntmps64
          go_wp2_with fail
          refine (KC.out _ (((Below.refl _ w).alloc (Nat.le_refl _) _).alloc (by simp) _)).mono ?_
          rintro e w1 ⟨rfl, hb1⟩
          have B1 : Hid (Below w.heap.size w w1) := (((Below.refl _ w).alloc (Nat.le_refl _) _).alloc (by simp) _).trans (hb1.mono (by simp; omega))
          have TB1 : tbox w1 (w.heap.size + 1) (.int .i64 kd) (.string sx) (.int .i64 t.num) (.int .i64 t.line) (.int .i64 t.col) := (hb1.block _ (by simp)).trans TB0.out
          have hlt1 : w.heap.size + 1 < w1.heap.size := (Array.getElem?_eq_some_iff.1 TB1).1
          have TB2 : tbox (w1.alloc (.cells #[.int .i64 k, .string sn, .int .i64 v, .int .i64 0, .int .i64 0] 35)) (w.heap.size + 1) (.int .i64 kd) (.string sx) (.int .i64 t.num) (.int .i64 t.line) (.int .i64 t.col) := (Below.heap_alloc _ _ _ hlt1).trans TB1
          clear t0 t1 t2
          obtain ⟨t0, t1, t2, -, -⟩ := tbox_cells TB1
          obtain ⟨z0, z1, z2, -, -⟩ := tbox_cells TB2
          clear hb1 KC TB1 TB2 KB0 TB0 k0 k1 k2 k3 k4 k5 k6 k7 hlt1
          go_wp2_with fail
          go_ret
          exact ⟨by first | rfl | simp, B1.out.alloc B1.out.size _⟩
        · cases hb2' : (sn.toList == sx.toList)
          · go_enter Try.func64, Try.ntmps64
            go_wp2_with fail
            refine (KC.out _ (((Below.refl _ w).alloc (Nat.le_refl _) _).alloc (by simp) _)).mono ?_
            rintro e w1 ⟨rfl, hb1⟩
            have B1 : Hid (Below w.heap.size w w1) := (((Below.refl _ w).alloc (Nat.le_refl _) _).alloc (by simp) _).trans (hb1.mono (by simp; omega))
            have TB1 : tbox w1 (w.heap.size + 1) (.int .i64 kd) (.string sx) (.int .i64 t.num) (.int .i64 t.line) (.int .i64 t.col) := (hb1.block _ (by simp)).trans TB0.out
            have hlt1 : w.heap.size + 1 < w1.heap.size := (Array.getElem?_eq_some_iff.1 TB1).1
            have TB2 : tbox (w1.alloc (.cells #[.int .i64 k, .string sn, .int .i64 v, .int .i64 0, .int .i64 0] 35)) (w.heap.size + 1) (.int .i64 kd) (.string sx) (.int .i64 t.num) (.int .i64 t.line) (.int .i64 t.col) := (Below.heap_alloc _ _ _ hlt1).trans TB1
            clear t0 t1 t2
            obtain ⟨t0, t1, t2, -, -⟩ := tbox_cells TB1
            obtain ⟨z0, z1, z2, -, -⟩ := tbox_cells TB2
            clear hb1 KC TB1 TB2 KB0 TB0 k0 k1 k2 k3 k4 k5 k6 k7 hlt1
            go_wp2_with fail
            go_ret
            exact ⟨by first | rfl | simp, B1.out.alloc B1.out.size _⟩
          · go_enter Try.func64, Try.ntmps64
            go_wp2_with fail
            refine (KC.out _ (((Below.refl _ w).alloc (Nat.le_refl _) _).alloc (by simp) _)).mono ?_
            rintro e w1 ⟨rfl, hb1⟩
            have B1 : Hid (Below w.heap.size w w1) := (((Below.refl _ w).alloc (Nat.le_refl _) _).alloc (by simp) _).trans (hb1.mono (by simp; omega))
            have TB1 : tbox w1 (w.heap.size + 1) (.int .i64 kd) (.string sx) (.int .i64 t.num) (.int .i64 t.line) (.int .i64 t.col) := (hb1.block _ (by simp)).trans TB0.out
            have hlt1 : w.heap.size + 1 < w1.heap.size := (Array.getElem?_eq_some_iff.1 TB1).1
            have TB2 : tbox (w1.alloc (.cells #[.int .i64 k, .string sn, .int .i64 v, .int .i64 0, .int .i64 0] 35)) (w.heap.size + 1) (.int .i64 kd) (.string sx) (.int .i64 t.num) (.int .i64 t.line) (.int .i64 t.col) := (Below.heap_alloc _ _ _ hlt1).trans TB1
            clear t0 t1 t2
            obtain ⟨t0, t1, t2, -, -⟩ := tbox_cells TB1
            obtain ⟨z0, z1, z2, -, -⟩ := tbox_cells TB2
            clear hb1 KC TB1 TB2 KB0 TB0 k0 k1 k2 k3 k4 k5 k6 k7 hlt1
            go_wp2_with fail
            go_ret
            exact ⟨by first | rfl | simp, B1.out.alloc B1.out.size _⟩
end Go.Proofs.Ytghodeggobgclaa

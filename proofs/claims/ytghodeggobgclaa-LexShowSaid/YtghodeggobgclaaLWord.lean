/- word: what it answers. -/
import Derived.Test.YtghodeggobgclaaLTok
namespace Go.Proofs.Ytghodeggobgclaa
open Go.RowKit Go.Shelf
theorem len_take (p : UInt8 → Bool) (T : List UInt8) : T.take (len p T) = T.takeWhile p := by
  unfold len
  induction T with
  | nil => rfl
  | cons c T ih =>
    by_cases h : p c = true
    · simp [h, ih]
    · simp [h]
/-- The block of a zero token. -/
def tblk (w : World) (B : Nat) : Prop := w.heap[B]? = some (.cells #[.int .i64 0, .string ⟨#[]⟩, .int .i64 0, .int .i64 0, .int .i64 0] 35)
theorem tblk_new (w : World) (o : Obj) {w1 : World} (hb : Below ((w.alloc o).alloc (.cells #[.int .i64 0, .string ⟨#[]⟩, .int .i64 0, .int .i64 0, .int .i64 0] 35)).heap.size ((w.alloc o).alloc (.cells #[.int .i64 0, .string ⟨#[]⟩, .int .i64 0, .int .i64 0, .int .i64 0] 35)) w1) : tblk w1 (w.heap.size + 1) := by
  unfold tblk
  rw [hb.block _ (by simp)]
  have := heap_alloc_new (w.alloc o) (.cells #[.int .i64 0, .string ⟨#[]⟩, .int .i64 0, .int .i64 0, .int .i64 0] 35)
  rwa [World.size_alloc] at this
theorem tblk_cells {w : World} {B : Nat} (h : tblk w B) : w.cell? ⟨B, 0, none⟩ = some (.int .i64 0) ∧ w.cell? ⟨B, 1, none⟩ = some (.string ⟨#[]⟩) ∧ w.cell? ⟨B, 2, none⟩ = some (.int .i64 0) ∧ w.cell? ⟨B, 3, none⟩ = some (.int .i64 0) ∧ w.cell? ⟨B, 4, none⟩ = some (.int .i64 0) ∧
    w.frozen? ⟨B, 0, none⟩ = false ∧ w.frozen? ⟨B, 1, none⟩ = false ∧ w.frozen? ⟨B, 2, none⟩ = false ∧ w.frozen? ⟨B, 3, none⟩ = false ∧ w.frozen? ⟨B, 4, none⟩ = false := by
  unfold tblk at h
  simp [World.cell?, World.frozen?, h]
theorem below_set5 {n B : Nat} {w W : World} (h : Below n w W) (hB : n ≤ B) (a b c d e : Value) : Below n w (((((W.setCell ⟨B, 0, none⟩ a).setCell ⟨B, 1, none⟩ b).setCell ⟨B, 2, none⟩ c).setCell ⟨B, 3, none⟩ d).setCell ⟨B, 4, none⟩ e) :=
  ((((h.setCell (p := ⟨B, 0, none⟩) hB _).setCell (p := ⟨B, 1, none⟩) hB _).setCell (p := ⟨B, 2, none⟩) hB _).setCell (p := ⟨B, 3, none⟩) hB _).setCell (p := ⟨B, 4, none⟩) hB _
set_option maxRecDepth 100000 in
set_option maxHeartbeats 2000000 in
theorem wordF (K : Kd) (T : List UInt8) (w : World) (hk : KOk K w) (hm : T.length ≤ 9223372036854775807) :
    Calls Try.prog 100 #[K.v, .string (bs T)] w fun e w' => e = .returned (if 24 < len isIn T then .tuple #[tv tz, .int .i64 4] else .tuple #[tv ⟨1, T.take (len isIn T), 0, 0, 0⟩, .int .i64 0]) ∧ Below w.heap.size w w' := by
  have hsz := bs_size T
  have hle := len_le isIn T
  have hx := bs_take T (len isIn T)
  have KL : Hid (∀ W, Below w.heap.size w W → Calls Try.prog 67 #[.string (bs T), .func (.func K.g6) #[] K.l6] W fun e w' => e = .returned (.int .i64 (len isIn T : Nat)) ∧ Below W.heap.size W w') := fun W hb => lengthF T _ _ _ W (hk.nm.later hb) hm
  have hv : Hid (∀ n, tv ⟨1, T.take n, 0, 0, 0⟩ = .agg #[.int .i64 1, .string (bs (T.take n)), .int .i64 0, .int .i64 0, .int .i64 0]) := fun _ => rfl
  rw [hv.out]
  clear hv hk
  have hz : Hid (tv tz = .agg #[.int .i64 0, .string ⟨#[]⟩, .int .i64 0, .int .i64 0, .int .i64 0]) := rfl
  rw [hz.out]
  clear hz
  unfold Kd.v
  generalize bs (T.take (len isIn T)) = sx at *
  generalize hn : len isIn T = n at *
  generalize hs : bs T = s at *
  clear hs hn
  by_cases h24 : 24 < n
  · rw [if_pos h24]
    go_enter Try.func100, Try.ntmps100
    go_wp2_with fail
    refine (KL.out _ (((Below.refl _ w).alloc (Nat.le_refl _) _).alloc (by simp) _)).mono ?_
    rintro e w1 ⟨rfl, hb⟩
    have B1 : Hid (Below w.heap.size w w1) := (((Below.refl _ w).alloc (Nat.le_refl _) _).alloc (by simp) _).trans (hb.mono (by simp; omega))
    obtain ⟨c0, c1, c2, c3, c4, f0, f1, f2, f3, f4⟩ := tblk_cells (tblk_new _ _ hb)
    clear hb KL
    go_wp2_with fail
    exact bodyPost_ret (v := .tuple #[.agg #[.int .i64 0, .string ⟨#[]⟩, .int .i64 0, .int .i64 0, .int .i64 0], .int .i64 4]) (by simp [results, Try.results100, go_sem, c0, c1, c2, c3, c4]) rfl ⟨rfl, below_set5 B1.out (by omega) _ _ _ _ _⟩
  · rw [if_neg h24]
    go_enter Try.func100, Try.ntmps100
    go_wp2_with fail
    refine (KL.out _ (((Below.refl _ w).alloc (Nat.le_refl _) _).alloc (by simp) _)).mono ?_
    rintro e w1 ⟨rfl, hb⟩
    have B1 : Hid (Below w.heap.size w w1) := (((Below.refl _ w).alloc (Nat.le_refl _) _).alloc (by simp) _).trans (hb.mono (by simp; omega))
    obtain ⟨c0, c1, c2, c3, c4, f0, f1, f2, f3, f4⟩ := tblk_cells (tblk_new _ _ hb)
    clear hb KL
    go_wp2_with fail
    exact bodyPost_ret (v := .tuple #[.agg #[.int .i64 1, .string sx, .int .i64 0, .int .i64 0, .int .i64 0], .int .i64 0]) (by simp [results, Try.results100, go_sem, c0, c1, c2, c3, c4]) rfl ⟨rfl, below_set5 B1.out (by omega) _ _ _ _ _⟩
end Go.Proofs.Ytghodeggobgclaa

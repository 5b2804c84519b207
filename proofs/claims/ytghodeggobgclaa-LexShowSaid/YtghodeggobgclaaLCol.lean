/- The scanner in memory; col. -/
import Derived.Test.YtghodeggobgclaaLRow
namespace Go.Proofs.Ytghodeggobgclaa
open Go.RowKit Go.Shelf
/-- The scanner at block S: w0 is the world ahead of it. -/
structure Sc (w0 w : World) (K : Kd) (T : List UInt8) (a s l : Nat) (v : Value) (toks : List Tok) : Prop where
  blk : w.heap[w0.heap.size]? = some (.cells #[fv K.g0 K.l0, fv K.g1 K.l1, fv K.g2 K.l2, fv K.g3 K.l3, fv K.g4 K.l4, fv K.g5 K.l5, fv K.g6 K.l6, fv K.g7 K.l7, .string (bs T), .int .i64 (a : Int), .int .i64 (s : Int), .int .i64 (l : Int), v] 91 (0, 0))
  row : w.ownsRow (w0.heap.size + 1) 35 5 v toks.length (cellsT toks)
  bl : Below w0.heap.size w0 w
  kk : KOk K w0
  aT : a ≤ T.length
  sa : s ≤ a
  tT : T.length ≤ 65536
  ln : l ≤ a + 1
  tk : toks.length ≤ a + l
theorem Sc.lt {w0 w : World} {K : Kd} {T : List UInt8} {a s l : Nat} {v : Value} {toks : List Tok} (h : Sc w0 w K T a s l v toks) : w0.heap.size < w.heap.size := (Array.getElem?_eq_some_iff.1 h.blk).1
theorem Sc.cells {w0 w : World} {K : Kd} {T : List UInt8} {a s l : Nat} {v : Value} {toks : List Tok} (h : Sc w0 w K T a s l v toks) :
    w.cell? ⟨w0.heap.size, 8, none⟩ = some (.string (bs T)) ∧ w.cell? ⟨w0.heap.size, 9, none⟩ = some (.int .i64 (a : Int)) ∧ w.cell? ⟨w0.heap.size, 10, none⟩ = some (.int .i64 (s : Int)) ∧ w.cell? ⟨w0.heap.size, 11, none⟩ = some (.int .i64 (l : Int)) ∧ w.cell? ⟨w0.heap.size, 12, none⟩ = some v := by
  simp [World.cell?, h.blk]
theorem Sc.frozen {w0 w : World} {K : Kd} {T : List UInt8} {a s l : Nat} {v : Value} {toks : List Tok} (h : Sc w0 w K T a s l v toks) :
    w.frozen? ⟨w0.heap.size, 9, none⟩ = false ∧ w.frozen? ⟨w0.heap.size, 10, none⟩ = false ∧ w.frozen? ⟨w0.heap.size, 11, none⟩ = false ∧ w.frozen? ⟨w0.heap.size, 12, none⟩ = false := by
  simp [World.frozen?, h.blk]
theorem Sc.kinds {w0 w : World} {K : Kd} {T : List UInt8} {a s l : Nat} {v : Value} {toks : List Tok} (h : Sc w0 w K T a s l v toks) :
    w.cell? ⟨w0.heap.size, 0, none⟩ = some (fv K.g0 K.l0) ∧ w.cell? ⟨w0.heap.size, 1, none⟩ = some (fv K.g1 K.l1) ∧ w.cell? ⟨w0.heap.size, 2, none⟩ = some (fv K.g2 K.l2) ∧ w.cell? ⟨w0.heap.size, 3, none⟩ = some (fv K.g3 K.l3) ∧ w.cell? ⟨w0.heap.size, 4, none⟩ = some (fv K.g4 K.l4) ∧ w.cell? ⟨w0.heap.size, 5, none⟩ = some (fv K.g5 K.l5) ∧ w.cell? ⟨w0.heap.size, 6, none⟩ = some (fv K.g6 K.l6) ∧ w.cell? ⟨w0.heap.size, 7, none⟩ = some (fv K.g7 K.l7) := by
  simp [World.cell?, h.blk]
theorem drew_below (w : World) (n : Nat) : Below w.heap.size w (w.drewN n) := ⟨rfl, rfl, rfl, Nat.le_refl _, fun _ _ => rfl⟩
theorem owns_same {w w' : World} {b : Nat} {e : TypeId} {size : Nat} {v : Value} {n : Nat} {xs : List Value} (h : w.ownsRow b e size v n xs) (hs : ∀ g, g < w.heap.size → v.ownBlock = some g → w'.heap[g]? = w.heap[g]?) : w'.ownsRow b e size v n xs := by
  refine ⟨h.1, ?_⟩
  rcases h.2 with hn | ⟨g, cap, cur, rfl, hb, hgg, rest⟩
  · exact .inl hn
  · refine .inr ⟨g, cap, cur, rfl, hb, ?_, rest⟩
    rw [hs g (Array.getElem?_eq_some_iff.1 hgg).1 rfl]
    exact hgg
/-- What leaves blocks of before alone leaves the scanner alone. -/
theorem Sc.below {w0 w W : World} {K : Kd} {T : List UInt8} {a s l : Nat} {v : Value} {toks : List Tok} (h : Sc w0 w K T a s l v toks) (hb : Below w.heap.size w W) : Sc w0 W K T a s l v toks :=
  { h with blk := (hb.block _ h.lt).trans h.blk, row := owns_same h.row (fun g hg _ => hb.block g hg), bl := h.bl.trans (hb.mono (Nat.le_of_lt h.lt)) }
set_option maxRecDepth 100000 in
set_option maxHeartbeats 2000000 in
theorem colF (S : Nat) (a s : Nat) (w : World) (h9 : w.cell? ⟨S, 9, none⟩ = some (.int .i64 (a : Int))) (h10 : w.cell? ⟨S, 10, none⟩ = some (.int .i64 (s : Int))) (hs : s ≤ a) (ha : a ≤ 1000000) :
    Calls Try.prog 37 #[.pointer (some ⟨S, 0, none⟩)] w fun e w' => e = .returned (.int .i64 ((a - s + 1 : Nat) : Int)) ∧ ∃ n, w' = w.drewN n := by
  have h1 : (a : Int) - (s : Int) = ((a - s : Nat) : Int) := by omega
  have h2 : ((a - s : Nat) : Int) + 1 = ((a - s + 1 : Nat) : Int) := by omega
  have h3 : a - s + 1 ≤ 1000001 := by omega
  generalize a - s + 1 = d at *
  generalize a - s = d' at *
  go_enter Try.func37, Try.ntmps37
  go_upto_region 1 with fail
  go_quiet (fail)
  go_wp2
  go_ret
  exact ⟨by simp, nq, rfl⟩
end Go.Proofs.Ytghodeggobgclaa

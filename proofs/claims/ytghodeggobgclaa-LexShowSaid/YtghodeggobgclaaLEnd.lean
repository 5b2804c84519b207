/- endLine; the scanner's cells set. -/
import Derived.Test.YtghodeggobgclaaLKeep
namespace Go.Proofs.Ytghodeggobgclaa
open Go.RowKit Go.Shelf
theorem Sc.setAt {w0 w : World} {K : Kd} {T : List UInt8} {a s l : Nat} {v : Value} {toks : List Tok} (h : Sc w0 w K T a s l v toks) (a' : Nat) (h1 : a ≤ a') (h2 : a' ≤ T.length) : Sc w0 (w.setCell ⟨w0.heap.size, 9, none⟩ (.int .i64 (a' : Int))) K T a' s l v toks :=
  have := h.sa; have := h.ln; have := h.tk
  { h with blk := heap_setCell_same w _ 9 _ _ _ h.blk, row := owns_same h.row (fun g _ e => heap_setCell_other w _ g _ fun hh => own_ne h.row (e.trans (congrArg some hh)).symm), bl := h.bl.setCell (Nat.le_refl _) _, aT := h2, sa := by omega, ln := by omega, tk := by omega }
theorem Sc.setStart {w0 w : World} {K : Kd} {T : List UInt8} {a s l : Nat} {v : Value} {toks : List Tok} (h : Sc w0 w K T a s l v toks) : Sc w0 (w.setCell ⟨w0.heap.size, 10, none⟩ (.int .i64 (a : Int))) K T a a l v toks :=
  { h with blk := heap_setCell_same w _ 10 _ _ _ h.blk, row := owns_same h.row (fun g _ e => heap_setCell_other w _ g _ fun hh => own_ne h.row (e.trans (congrArg some hh)).symm), bl := h.bl.setCell (Nat.le_refl _) _, sa := Nat.le_refl _ }
theorem Sc.setLine {w0 w : World} {K : Kd} {T : List UInt8} {a s l : Nat} {v : Value} {toks : List Tok} (h : Sc w0 w K T a s l v toks) (hl : l ≤ a) : Sc w0 (w.setCell ⟨w0.heap.size, 11, none⟩ (.int .i64 ((l + 1 : Nat) : Int))) K T a s (l + 1) v toks :=
  have := h.tk
  { h with blk := heap_setCell_same w _ 11 _ _ _ h.blk, row := owns_same h.row (fun g _ e => heap_setCell_other w _ g _ fun hh => own_ne h.row (e.trans (congrArg some hh)).symm), bl := h.bl.setCell (Nat.le_refl _) _, ln := by omega, tk := by omega }
theorem Sc.at' {w0 w : World} {K : Kd} {T : List UInt8} {a s l : Nat} {oa : Option Addr} {n cap : Nat} {toks : List Tok} (h : Sc w0 w K T a s l (.slice oa n cap) toks) : TokAt w oa toks := TokAt.own h.row
set_option maxRecDepth 100000 in
set_option maxHeartbeats 2000000 in
theorem endLineF {w0 w : World} {K : Kd} {T : List UInt8} {a s l : Nat} {v : Value} {toks : List Tok} (H : Sc w0 w K T a s l v toks) (htk : toks.length + 1 ≤ a + l) :
    Calls Try.prog 38 #[.pointer (some ⟨w0.heap.size, 0, none⟩)] w fun e w' => e = .returned (.tuple #[]) ∧ ∃ v', Sc w0 w' K T a s l v' (endL toks l (a - s + 1 : Nat)) := by
  obtain ⟨oa, cap, rfl⟩ := own_shapeT H.row
  obtain ⟨-, -, -, -, x12⟩ := H.cells
  have h1 := H.tk
  have h2 := H.aT
  have h3 := H.tT
  have h4 := H.ln
  have KE : Hid (Calls Try.prog 30 #[.slice oa toks.length cap] w fun e w' => e = .returned (.bool (endd toks)) ∧ w' = w) := endedF oa cap toks w H.at' (by omega)
  cases he : endd toks
  · rw [he] at KE
    have hr : Hid (endL toks l (a - s + 1 : Nat) = toks ++ [⟨4, [], 0, l, (a - s + 1 : Nat)⟩]) := by show _ = _; unfold endL; rw [he]; rfl
    have KK : Hid (Calls Try.prog 73 #[.pointer (some ⟨w0.heap.size, 0, none⟩), .agg #[.int .i64 4, .string ⟨#[]⟩, .int .i64 0, .int .i64 0, .int .i64 0]] w fun e w' => e = .returned (.tuple #[]) ∧ ∃ v', Sc w0 w' K T a s l v' (toks ++ [⟨4, [], 0, l, (a - s + 1 : Nat)⟩])) := (keepF H ⟨4, [], 0, 0, 0⟩ htk).mono fun _ _ h => ⟨h.1, h.2.1⟩
    rw [hr.out]
    generalize toks.length = m at *
    clear H he hr h1 h2 h3 h4 htk
    go_enter Try.func38, Try.ntmps38
    go_wp2_with (first | (go_at_call 30; refine KE.out.mono ?_; rintro e w1 ⟨rfl, hw⟩; obtain rfl : w = w1 := hw.symm) | (go_at_call 73; refine KK.out.mono ?_; rintro e w2 ⟨rfl, v2, H2⟩; have H2' := hide' H2; clear H2))
    first | go_end0 | refine bodyPost_ret (results_none rfl _ _ _) rfl ?_
    exact ⟨rfl, _, H2'.out⟩
  · rw [he] at KE
    have hr : Hid (endL toks l (a - s + 1 : Nat) = toks) := by show _ = _; unfold endL; rw [he]; rfl
    have H' := hide' H
    rw [hr.out]
    generalize hm : toks.length = m at *
    clear H he hr h1 h2 h3 h4 htk hm
    go_enter Try.func38, Try.ntmps38
    go_wp2_with (go_at_call 30; refine KE.out.mono ?_; rintro e w1 ⟨rfl, hw⟩; obtain rfl : w = w1 := hw.symm)
    first | go_end0 | refine bodyPost_ret (results_none rfl _ _ _) rfl ?_
    exact ⟨rfl, _, H'.out⟩
end Go.Proofs.Ytghodeggobgclaa

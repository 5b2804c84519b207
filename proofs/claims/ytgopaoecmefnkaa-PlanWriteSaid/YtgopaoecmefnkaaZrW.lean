/- The document's Write. -/
import Derived.Test.YtgopaoecmefnkaaZrB
import Derived.Test.YtgopaoecmefnkaaZrF
import Derived.Test.YtgopaoecmefnkaaZpE
namespace Go.Proofs.Ytgopaoecmefnkaa.S
open Go.RowKit Go.Shelf
set_option maxRecDepth 100000 in
set_option maxHeartbeats 4000000 in
theorem rWriteF (P : Pb) (wv fv rv : Value) (L : List Int) (lv : Value) (w : World) (h : PbV w P wv fv rv) (hL : RowI w lv L) (hLl : L.length ≤ 1000) (hk : Pok P) :
    Calls Try.prog 15 #[pbV P wv fv rv, lv] w (WrP w P L) := by
  have hs := h.shape
  have hB0 : Hid (Below w.heap.size w (w.alloc (.cells #[.int .i64 P.users, wv, fv, rv] 26))) := (Below.refl _ w).alloc (Nat.le_refl _) _
  have hb0 : Hid (PbB (w.alloc (.cells #[.int .i64 P.users, wv, fv, rv] 26)) w.heap.size P wv fv rv) := heap_new w _
  have K0 : Hid (∀ V, Below w.heap.size w V → Calls Try.prog 10 #[pbV P wv fv rv] V fun e w' => e = .returned (.int .i64 (chkN P : Int)) ∧ Below V.heap.size V w') := fun V hV => rCheckF P wv fv rv V (h.below hV) hk
  have K1 : Hid (chkN P = 0 → ∀ V, Below w.heap.size w V → Calls Try.prog 13 #[pbV P wv fv rv, lv] V fun e w' => ∃ v, e = .returned v ∧ Hid (w'.ownsRow V.heap.size 57 3 v (flwL P L).length (cellsF (flwL P L))) ∧ Hid (Below V.heap.size V w')) := fun hC V hV => rFlawsF P wv fv rv L lv V (h.below hV) (hL.below hV (Nat.le_refl _)) hLl hk hC
  have K2 : Hid (holP P L = true → ∀ V, Below w.heap.size w V → Calls Try.prog 29 #[pbV P wv fv rv, lv] V (PuP V V.heap.size (certL P L))) := fun hh V hV => bytesF P wv fv rv L lv V (h.below hV) (hL.below hV (Nat.le_refl _)) hk hh
  obtain ⟨ow, cw, of, cf, or, cr, rfl, rfl, rfl⟩ := hs
  obtain ⟨ol, cl, rfl, _, _⟩ := hL
  have hfl : Hid (chkN P = 0 → decide ((flwL P L).length = 0) = holP P L) := fun hC => flw_hol hC L
  clear h hk
  unfold WrP wrL wrN
  by_cases hC : chkN P = 0
  case neg =>
    have hn : holP P L = false := by cases q : holP P L; rfl; exact absurd (holP_chk q) hC
    rw [if_neg hC, hn, if_neg (by decide)]
    have hne : (((chkN P : Nat) : Int) != 0) = true := by rw [bne_iff_ne]; omega
    unfold pbV at K0 ⊢
    generalize chkN P = c at *
    clear K1 K2 hC hfl
    go_enter Try.func15, Try.ntmps15
    go_wp2_with fail
    refine (K0.out _ hB0.out).mono ?_
    rintro e w1 ⟨rfl, hb1⟩
    have hB1 : Hid (Below w.heap.size w w1) := hB0.out.trans (hb1.mono hB0.out.size)
    clear hb1 K0
    go_wp2
    exact bodyPost_ret (v := .tuple #[.slice none 0 0, .int .i64 (c : Int)]) (by simp [results, Try.results15, go_sem]) rfl ⟨_, rfl, World.ownsRow_nil w1 _ _ _, hB1⟩
  have hf2 := hfl.out hC
  have K1' := hide' (K1.out hC)
  rw [if_pos hC]
  rw [hC] at K0
  clear hfl hC K1
  cases hh : holP P L with
  | false =>
    rw [if_neg (by decide), if_neg (by decide)]
    rw [hh] at hf2
    have hlp : (0 : Int) < ((flwL P L).length : Int) := by have := of_decide_eq_false hf2; omega
    unfold pbV at K0 K1' ⊢
    generalize flwL P L = F at *
    clear K2 hf2 hh
    go_enter Try.func15, Try.ntmps15
    go_wp2_with fail
    refine (K0.out _ hB0.out).mono ?_
    rintro e w0 ⟨rfl, hb0'⟩
    have hB1 : Hid (Below w.heap.size w w0) := hB0.out.trans (hb0'.mono hB0.out.size)
    have hp := hide' (hb0.out.below hb0')
    have q0 := hp.out.c0
    have q1 := hp.out.c1
    have q2 := hp.out.c2
    have q3 := hp.out.c3
    clear hb0' K0 hb0 hB0
    go_wp2_with fail
    refine (K1'.out _ hB1.out).mono ?_
    rintro e w1 ⟨v1, rfl, hO1, hb1⟩
    have hB2 : Hid (Below w.heap.size w w1) := hB1.out.trans (hb1.out.mono hB1.out.size)
    obtain ⟨o1, c1, rfl⟩ := own_shp hO1.out
    clear hb1 K1' hO1 q0 q1 q2 q3 hp
    go_wp2
    exact bodyPost_ret (v := .tuple #[.slice none 0 0, .int .i64 1]) (by simp [results, Try.results15, go_sem]) rfl ⟨_, rfl, World.ownsRow_nil w1 _ _ _, hB2⟩
  | true =>
    rw [if_pos rfl, if_pos rfl]
    rw [hh] at hf2
    have hlp : (flwL P L).length = 0 := of_decide_eq_true hf2
    rw [hlp] at K1'
    have K2' := hide' (K2.out hh)
    unfold pbV at K0 K1' K2' ⊢
    clear K2 hf2 hh hlp
    go_enter Try.func15, Try.ntmps15
    go_wp2_with fail
    refine (K0.out _ hB0.out).mono ?_
    rintro e w0 ⟨rfl, hb0'⟩
    have hB1 : Hid (Below w.heap.size w w0) := hB0.out.trans (hb0'.mono hB0.out.size)
    have hp := hide' (hb0.out.below hb0')
    have q0 := hp.out.c0
    have q1 := hp.out.c1
    have q2 := hp.out.c2
    have q3 := hp.out.c3
    clear hb0' K0 hb0 hB0
    go_wp2_with fail
    refine (K1'.out _ hB1.out).mono ?_
    rintro e w1 ⟨v1, rfl, hO1, hb1⟩
    have hB2 : Hid (Below w.heap.size w w1) := hB1.out.trans (hb1.out.mono hB1.out.size)
    have hp2 := hide' (hp.out.below hb1.out)
    obtain ⟨o1, c1, rfl⟩ := own_shp hO1.out
    clear hb1 K1' hO1 q0 q1 q2 q3 hp hB1
    have q0 := hp2.out.c0
    have q1 := hp2.out.c1
    have q2 := hp2.out.c2
    have q3 := hp2.out.c3
    go_wp2_with fail
    refine (K2'.out _ hB2.out).mono ?_
    rintro e w2 ⟨v2, rfl, hO2, hb2, _⟩
    have hB3 : Hid (Below w.heap.size w w2) := hB2.out.trans (hb2.out.mono hB2.out.size)
    have hO3 := hide' (owns_lowS hO2.out hB2.out.size)
    obtain ⟨o2, c2, rfl⟩ := own_shp hO2.out
    clear K2' hO2 hb2 q0 q1 q2 q3 hp2 hB2
    go_wp2
    exact bodyPost_ret (v := .tuple #[.slice o2 (certL P L).length c2, .int .i64 0]) (by simp [results, Try.results15, go_sem]) rfl ⟨_, rfl, hO3, hB3⟩
end Go.Proofs.Ytgopaoecmefnkaa.S
